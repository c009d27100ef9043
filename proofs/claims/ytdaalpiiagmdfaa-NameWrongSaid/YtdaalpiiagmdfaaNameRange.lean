/-
  CONTRACT of name.Range.
-/
import Derived.Test.YtdaalpiiagmdfaaNameUnd
namespace Go.Proofs.Ytdaalpiiagmdfaa
open Go.RowKit Go.Shelf

attribute [local go_sem] Oper.semAt_some

def rangeN (l : List (List UInt8)) (s : List UInt8) : Nat := if setN l then if rightN s then firstN (l.drop (lookAt l s)).length (fun i => !undN ((l.drop (lookAt l s)).getD i []) s) else 0 else 0

set_option maxRecDepth 100000 in
theorem rangeAt_calls (x s : List UInt8) (S : Nat) (W : World) (hS : W.cell? ⟨S, 0, none⟩ = some (str s)) :
    Calls Try.prog 55 #[str x, .pointer (some ⟨S, 0, none⟩)] W fun e W' => e = .returned (.bool (!undN x s)) ∧ Below W.heap.size W W' := by
  have HO := Lib.hid (under_calls x s W)
  generalize undN x s = o at *
  unfold str at *
  go_enter Try.func55, Try.ntmps55
  go_wp2_with fail
  refine HO.out.mono ?_
  rintro e w1 ⟨rfl, rfl⟩
  go_wp2
  go_ret
  exact ⟨rfl, Below.refl _ _⟩

theorem TRow.drop {w : World} {a : Option Addr} {n c : Nat} {l : List (List UInt8)} (h : TRow w (.slice a n c) l) (k : Nat) (hk : k ≤ l.length) (a' : Option Addr)
    (ha : k < l.length → ∀ b o, a = some ⟨b, o, none⟩ → a' = some ⟨b, o + k, none⟩) : TRow w (.slice a' (n - k) (c - k)) (l.drop k) := by
  rcases h with ⟨rfl, a2, c2, e⟩ | ⟨b, o, c2, e, h2, h3, h4⟩
  · cases e
    exact .inl ⟨by simp, a', c - k, by simp⟩
  · cases e
    by_cases hkl : k = l.length
    · subst hkl
      exact .inl ⟨by simp, a', c - l.length, by simp⟩
    · rw [ha (by omega) b o rfl]
      refine .inr ⟨b, o + k, c - k, by rw [List.length_drop], h2, by rw [List.length_drop]; omega, fun i x hx => ?_⟩
      rw [List.getElem?_drop] at hx
      rw [Nat.add_assoc]
      exact h4 _ x hx

set_option maxRecDepth 100000 in
set_option maxHeartbeats 2000000 in
theorem range_calls (v : Value) (l : List (List UInt8)) (s : List UInt8) (w : World) (hrow : TRow w v l) (hlen : l.length ≤ 1000000) (hl : ∀ x ∈ l, x.length ≤ 1000000) (hs : s.length ≤ 1000000) :
    Calls Try.prog 25 #[v, str s] w fun e W' => e = .returned (.tuple #[.int .i64 (lookI l s : Nat), .int .i64 (lookI l s + rangeN l s : Nat), .int .i64 (lookE l s)]) ∧ Below w.heap.size w W' := by
  have b1 := Boxed.new w 9 (str s)
  have hB0 : Below w.heap.size w (w.alloc (.cells #[str s] 9)) := (Below.refl _ w).alloc (Nat.le_refl _) _
  obtain ⟨W0, hW0⟩ : ∃ W0, W0 = w.alloc (.cells #[str s] 9) := ⟨_, rfl⟩
  rw [← hW0] at b1 hB0
  have hs0 : W0.heap.size = w.heap.size + 1 := by rw [hW0]; simp
  have HLk := Lib.hid (look_calls v l s W0 (hrow.below hB0) hlen hl hs)
  have HBx := Lib.hid (fun (W : World) (h : Below W0.heap.size W0 W) => (hB0.trans (h.mono (by omega)) : Below w.heap.size w W))
  have HCl := Lib.hid (fun (W : World) (h : Below W0.heap.size W0 W) => (show Boxed W w.heap.size 9 (str s) from (h.block _ b1.lt).trans b1).cell)
  have e78 : ∀ args w, (callFunc 55 args).run Try.prog w = .ok (.enter 55 args) w := enters_of Try.func55 (by kernel_rfl) rfl
  have c1 := HCl.out W0 (Below.refl _ _)
  obtain ⟨a, n, c, rfl, hn, hnc, hsh⟩ : ∃ a n c, v = .slice a n c ∧ n = l.length ∧ (l ≠ [] → n ≤ c) ∧ (l ≠ [] → ∃ b o, a = some ⟨b, o, none⟩) := by
    rcases hrow with ⟨rfl, a, c, rfl⟩ | ⟨b, o, c, rfl, _, h3, _⟩
    · exact ⟨a, 0, c, rfl, rfl, fun h => absurd rfl h, fun h => absurd rfl h⟩
    · exact ⟨_, _, c, rfl, rfl, fun _ => h3, fun _ => ⟨b, o, rfl⟩⟩
  subst hn
  have hN := Lib.hid (show lookE l s = if setN l then if rightN s then 0 else 40 else 41 from rfl)
  have hI := Lib.hid (show lookI l s = if setN l then if rightN s then lookAt l s else 0 else 0 from rfl)
  have hR := Lib.hid (show rangeN l s = if setN l then if rightN s then firstN (l.drop (lookAt l s)).length (fun i => !undN ((l.drop (lookAt l s)).getD i []) s) else 0 else 0 from rfl)
  by_cases hok : setN l = true ∧ rightN s = true
  · obtain ⟨h1, h2⟩ := hok
    obtain ⟨hle, -, -⟩ := lookAt_cut h1 h2
    have HPl := Lib.hid (fun (W : World) (hW : Below W0.heap.size W0 W) (v' : Value) (hv : TRow W v' (l.drop (lookAt l s))) =>
      place_calls 55 #[.pointer (some ⟨w.heap.size, 0, none⟩)] v' (l.drop (lookAt l s)) (fun x => !undN x s) W e78 hv (by rw [List.length_drop]; omega)
        (fun W' x hB hx => rangeAt_calls x s w.heap.size W' (HCl.out W' (hW.trans (hB.mono hW.size))))
        (by
          intro i j hij hj hq
          rw [List.length_drop] at hj
          have hgd : ∀ k, (l.drop (lookAt l s)).getD k [] = l.getD (lookAt l s + k) [] := fun k => by rw [List.getD_eq_getElem?_getD, List.getD_eq_getElem?_getD, List.getElem?_drop]
          simp only [hgd] at hq ⊢
          cases hu : undN (l.getD (lookAt l s + j) []) s with
          | false => rfl
          | true => rw [under_mono h1 h2 i j hij (by omega) hu] at hq; exact hq))
    simp only [h1, h2, if_true] at hN hI hR
    have HTr := Lib.hid (fun (W : World) (hW : Below W0.heap.size W0 W) => ((hrow.below hB0).below hW))
    rw [hN.out, hI.out, hR.out]
    rw [hN.out, hI.out] at HLk
    have HR0 := Lib.hid (show firstN (l.drop (lookAt l s)).length (fun i => !undN ((l.drop (lookAt l s)).getD i []) s) ≤ l.length by
      unfold firstN
      refine Nat.le_trans List.countP_le_length ?_
      rw [List.length_range, List.length_drop]
      omega)
    generalize (firstN (l.drop (lookAt l s)).length (fun i => !undN ((l.drop (lookAt l s)).getD i []) s)) = r0 at *
    generalize lookAt l s = at0 at *
    generalize lookH l s = h0 at *
    have HLen := Lib.hid hlen
    have HLe := Lib.hid hle
    have HW0 := Lib.hid hW0
    have HRow := Lib.hid hrow
    have HSh := Lib.hid hsh
    have HNc := Lib.hid hnc
    simp only [str] at *
    clear hrow hlen hs hW0 hs0 hB0 hl b1 c1 hN hI hR h1 h2 hle e78 hsh hnc
    go_enter Try.func25, Try.ntmps25
    have c0 : (w.alloc (.cells #[.string ⟨s.toArray⟩] 9)).cell? ⟨w.heap.size, 0, none⟩ = some (.string ⟨s.toArray⟩) := by
      rw [← HW0.out]; exact HCl.out W0 (Below.refl _ _)
    go_wp2_with fail
    rw [← HW0.out]
    refine HLk.out.mono ?_
    rintro e w1 ⟨rfl, hb1⟩
    have B1 := Lib.hid hb1
    clear hb1 c0
    have hnc2 : l.length ≤ c := by
      by_cases h : l = []
      · rw [h]; exact Nat.zero_le _
      · exact HNc.out h
    have hle : at0 ≤ l.length := HLe.out
    have q1 : (0 : Int) ≤ (at0 : Int) := by omega
    have q2 : (at0 : Int).toNat = at0 := by omega
    have q3 : (at0 : Int) ≤ (l.length : Int) := by omega
    have q4 : (l.length : Int) ≤ (c : Int) := by omega
    have q5 : (at0 : Int) ≤ (c : Int) := by omega
    have q6 : at0 ≤ c := by omega
    have q7 : r0 ≤ l.length := HR0.out
    have q8 : l.length ≤ 1000000 := HLen.out
    have q9 : IntKind.i64.wrap ((at0 : Int) + (r0 : Int)) = (at0 : Int) + (r0 : Int) := IntWalk.i64_in _ ⟨by omega, by omega⟩
    clear q7 q8
    by_cases hca : c = at0
    · have hat : at0 = l.length := by omega
      subst hca
      subst hat
      clear q1 q2 q3 q4 q5 q6 hnc2 hle
      go_wp2_with fail
      refine (HPl.out w1 B1.out _ (.inl ⟨by simp, _, _, rfl⟩)).mono ?_
      rintro e w2 ⟨rfl, hb2⟩
      have B2 := Lib.hid (B1.out.trans (hb2.mono B1.out.size))
      clear hb2
      go_wp2
      exact bodyPost_ret (v := .tuple #[.int .i64 (l.length : Nat), .int .i64 ((l.length : Int) + (r0 : Int)), .int .i64 0]) (by simp [results, Try.f25, go_sem]) rfl ⟨by push_cast; rfl, HBx.out _ B2.out⟩
    · have HT := Lib.hid ((HTr.out w1 B1.out).drop at0 hle (Option.map (fun x => x.add at0) a) (fun _ b o e => by rw [e]; simp [Addr.add]))
      go_wp2_with fail
      refine (HPl.out w1 B1.out _ HT.out).mono ?_
      rintro e w2 ⟨rfl, hb2⟩
      have B2 := Lib.hid (B1.out.trans (hb2.mono B1.out.size))
      clear hb2
      go_wp2
      exact bodyPost_ret (v := .tuple #[.int .i64 (at0 : Nat), .int .i64 ((at0 : Int) + (r0 : Int)), .int .i64 0]) (by simp [results, Try.f25, go_sem]) rfl ⟨by push_cast; rfl, HBx.out _ B2.out⟩
  · have hE0 : lookE l s ≠ 0 := by
      rw [hN.out]
      cases h1 : setN l with
      | false => simp
      | true =>
        cases h2 : rightN s with
        | false => simp
        | true => exact absurd ⟨h1, h2⟩ hok
    have hI0 : lookI l s = 0 := by
      rw [hI.out]
      cases h1 : setN l with
      | false => rfl
      | true =>
        cases h2 : rightN s with
        | false => rfl
        | true => exact absurd ⟨h1, h2⟩ hok
    have hR0 : rangeN l s = 0 := by
      rw [hR.out]
      cases h1 : setN l with
      | false => rfl
      | true =>
        cases h2 : rightN s with
        | false => rfl
        | true => exact absurd ⟨h1, h2⟩ hok
    rw [hI0, hR0]
    rw [hI0] at HLk
    generalize lookE l s = e0 at *
    generalize lookH l s = h0 at *
    have hne : (e0 != 0) = true := by simpa using hE0
    have HW0 := Lib.hid hW0
    simp only [str] at *
    clear hrow hlen hs hW0 hs0 hB0 hl b1 c1 hN hI hR hE0 hI0 hR0 hok e78 hsh hnc
    go_enter Try.func25, Try.ntmps25
    have c0 : (w.alloc (.cells #[.string ⟨s.toArray⟩] 9)).cell? ⟨w.heap.size, 0, none⟩ = some (.string ⟨s.toArray⟩) := by
      rw [← HW0.out]; exact HCl.out W0 (Below.refl _ _)
    go_wp2_with fail
    rw [← HW0.out]
    refine HLk.out.mono ?_
    rintro e w1 ⟨rfl, hb1⟩
    have B1 := Lib.hid hb1
    clear hb1 c0
    go_wp2
    exact bodyPost_ret (v := .tuple #[.int .i64 0, .int .i64 0, .int .i64 e0]) (by simp [results, Try.f25, go_sem]) rfl ⟨by simp, HBx.out _ B1.out⟩
end Go.Proofs.Ytdaalpiiagmdfaa
