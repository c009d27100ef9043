/-
  CONTRACT of name.place: the first index of a slice of strings from which on something holds.
-/
import Derived.Test.YtdaalpiiagmdfaaNameSearch
import Derived.BigRegion
namespace Go.Proofs.Ytdaalpiiagmdfaa
open Go.RowKit Go.Shelf

attribute [local go_sem] Oper.semAt_some

set_option maxRecDepth 100000 in
set_option maxHeartbeats 2000000 in
theorem placeAt_calls (g : Nat) (cb : Array Value) (A B b o n c i : Nat) (x : List UInt8) (r : Bool) (W : World) (eg : ∀ args w, (callFunc g args).run Try.prog w = .ok (.enter g args) w)
    (hA : W.cell? ⟨A, 0, none⟩ = some (.slice (some ⟨b, o, none⟩) n c)) (hB : W.cell? ⟨B, 0, none⟩ = some (.func (.func g) #[] cb)) (hi : i < n) (hx : W.cell? ⟨b, o + i, none⟩ = some (str x))
    (D : World → Prop) (hD : ∀ W', Below W.heap.size W W' → W'.heap.size = W.heap.size → D W')
    (hf : ∀ W', D W' → Calls Try.prog g (#[str x] ++ cb) W' fun e W2 => e = .returned (.bool r) ∧ Below W'.heap.size W' W2) :
    Calls Try.prog 81 #[.int .i64 i, .pointer (some ⟨B, 0, none⟩), .pointer (some ⟨A, 0, none⟩)] W fun e W' => e = .returned (.bool r) ∧ Below W.heap.size W W' := by
  have HF := Lib.hid hf
  have HD := Lib.hid hD
  clear hf hD
  unfold str at *
  have hi1 : (i : Int) < (n : Int) := by omega
  have hi0 : (0 : Int) ≤ (i : Int) := by omega
  go_enter Try.func81, Try.ntmps81
  go_wp2_with fail
  go_region_with (refine (HF.out _ (HD.out _ (by first | exact (Below.refl _ _).drew | exact Below.refl _ _ | exact below_drewN (Below.refl _ _) _) (by rfl))).mono ?_; rintro e w1 ⟨rfl, hb1⟩; have B1 := Lib.hid (show Below W.heap.size W w1 by first | exact (Below.refl W.heap.size W).drew.trans hb1 | exact hb1 | exact (below_drewN (Below.refl _ _) _).trans hb1); clear hb1)
  all_goals
    go_wp2_with fail
    exact bodyPost_ret (v := .bool r) (by simp [results, Try.f81, go_sem, Act.put]) rfl ⟨rfl, B1.out⟩

set_option maxRecDepth 100000 in
set_option maxHeartbeats 2000000 in
theorem place_calls (g : Nat) (cb : Array Value) (v : Value) (l : List (List UInt8)) (q : List UInt8 → Bool) (w : World) (eg : ∀ args w, (callFunc g args).run Try.prog w = .ok (.enter g args) w) (hrow : TRow w v l) (hlen : l.length ≤ 1000000)
    (hf : ∀ (W : World) (x : List UInt8), Below w.heap.size w W → x ∈ l → Calls Try.prog g (#[str x] ++ cb) W fun e W' => e = .returned (.bool (q x)) ∧ Below W.heap.size W W')
    (hmono : ∀ a b, a ≤ b → b < l.length → q (l.getD a []) = true → q (l.getD b []) = true) :
    Calls Try.prog 54 #[v, .func (.func g) #[] cb] w fun e W' => e = .returned (.int .i64 (firstN l.length fun i => q (l.getD i []))) ∧ Below w.heap.size w W' := by
  have hv : ∃ a n c, v = .slice a n c ∧ n = l.length := by
    rcases hrow with ⟨rfl, a, c, rfl⟩ | ⟨b, o, c, rfl, _⟩
    · exact ⟨a, 0, c, rfl, rfl⟩
    · exact ⟨_, _, c, rfl, rfl⟩
  obtain ⟨a, n, c, rfl, rfl⟩ := hv
  obtain ⟨W0, hW0⟩ : ∃ W0, W0 = (w.alloc (.cells #[.slice a l.length c] 22)).alloc (.cells #[.func (.func g) #[] cb] 51) := ⟨_, rfl⟩
  have b1 : Boxed W0 w.heap.size 22 (.slice a l.length c) := by rw [hW0]; exact (Boxed.new w 22 _).alloc _
  have b2 : Boxed W0 (w.heap.size + 1) 51 (.func (.func g) #[] cb) := by
    have := Boxed.new (w.alloc (.cells #[.slice a l.length c] 22)) 51 (.func (.func g) #[] cb)
    rw [hW0]
    simpa only [World.size_alloc] using this
  have hs0 : W0.heap.size = w.heap.size + 2 := by rw [hW0]; simp
  have hB0 : Below w.heap.size w W0 := by rw [hW0]; exact ((Below.refl _ w).alloc (Nat.le_refl _) _).alloc (by simp) _
  have e81 : ∀ args w, (callFunc 81 args).run Try.prog w = .ok (.enter 81 args) w := enters_of Try.func81 (by kernel_rfl) rfl
  have HS := Lib.hid (search_calls 81 #[.pointer (some ⟨w.heap.size + 1, 0, none⟩), .pointer (some ⟨w.heap.size, 0, none⟩)] l.length (fun i => q (l.getD i [])) W0 e81 hlen (by
    intro W i hB hi
    have k1 : Boxed W w.heap.size 22 (.slice a l.length c) := (hB.block _ b1.lt).trans b1
    have k2 : Boxed W (w.heap.size + 1) 51 (.func (.func g) #[] cb) := (hB.block _ b2.lt).trans b2
    have hmem : l.getD i [] ∈ l := by rw [List.getD_eq_getElem?_getD, List.getElem?_eq_getElem hi]; exact List.getElem_mem hi
    have hBw : Below w.heap.size w W := hB0.trans (hB.mono hB0.size)
    rcases hrow with ⟨rfl, _⟩ | ⟨b, o, c', hsl, hb, hc, hcell⟩
    · exact absurd hi (Nat.not_lt_zero _)
    · cases hsl
      exact (placeAt_calls g cb w.heap.size (w.heap.size + 1) b o l.length c i (l.getD i []) _ W eg k1.cell k2.cell hi
        ((hBw.cell (p := ⟨b, o + i, none⟩) hb).trans (hcell i _ (by rw [List.getD_eq_getElem?_getD, List.getElem?_eq_getElem hi]; rfl)))
        (fun W' => Below w.heap.size w W') (fun W' h _ => hBw.trans (h.mono hBw.size)) (fun W' h => hf W' _ h hmem)).mono
        fun e W' h => ⟨h.1, hB.trans (h.2.mono hB.size)⟩) hmono)
  clear hf hmono hrow b1 b2 hlen
  have HB0 := Lib.hid hB0
  clear hB0
  generalize (firstN l.length fun i => q (l.getD i [])) = r at *
  go_enter Try.func54, Try.ntmps54
  go_wp2_with fail
  rw [← hW0]
  refine HS.out.mono ?_
  rintro e w1 ⟨rfl, hb1⟩
  have B1 := Lib.hid (HB0.out.trans (hb1.mono HB0.out.size))
  clear hb1
  go_wp2
  go_ret
  exact ⟨rfl, B1.out⟩
end Go.Proofs.Ytdaalpiiagmdfaa
