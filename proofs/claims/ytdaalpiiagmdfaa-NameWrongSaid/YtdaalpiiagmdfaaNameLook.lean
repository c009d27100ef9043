/-
  CONTRACTS of name.look and name.Find.
-/
import Derived.Test.YtdaalpiiagmdfaaNamePlace
import Derived.Test.YtdaalpiiagmdfaaNamePlain
import Derived.WalkSmall
import Derived.BigQuiet
import Derived.Deep.QuietTactic
namespace Go.Proofs.Ytdaalpiiagmdfaa
open Go.RowKit Go.Shelf

attribute [local go_sem] Oper.semAt_some

theorem setN_at {l : List (List UInt8)} (h : setN l = true) : l.length ≤ 256 ∧ ∀ i, i < l.length → rightN (l.getD i []) = true ∧ (0 < i → orderN (l.getD (i - 1) []) (l.getD i []) < 0) := by
  unfold setN at h
  simp only [Bool.and_eq_true, decide_eq_true_eq, List.all_eq_true] at h
  refine ⟨h.1, fun i hi => ?_⟩
  have := h.2 i (List.mem_range.2 hi)
  unfold setAt at this
  simp only [Bool.and_eq_true, Bool.or_eq_true, decide_eq_true_eq] at this
  exact ⟨this.1, fun h0 => this.2.resolve_left (by omega)⟩
theorem setN_le {l : List (List UInt8)} (h : setN l = true) (a d : Nat) (hb : a + d < l.length) : lexC Lib.compareBytes (partsL (l.getD a [])) (partsL (l.getD (a + d) [])) ≤ 0 := by
  induction d with
  | zero => rw [Nat.add_zero, names_good.refl]; exact Int.le_refl _
  | succ d ih =>
    have h1 := ih (by omega)
    obtain ⟨h2, h3⟩ := (setN_at h).2 (a + (d + 1)) hb
    have h4 := h3 (by omega)
    rw [orderN_lex _ _ h2, show a + (d + 1) - 1 = a + d by omega] at h4
    exact names_good.tr _ _ _ h1 (by omega)

def lookAt (l : List (List UInt8)) (s : List UInt8) : Nat := firstN l.length (fun i => decide (0 ≤ orderN (l.getD i []) s))
def lookE (l : List (List UInt8)) (s : List UInt8) : Int := if setN l then if rightN s then 0 else 40 else 41
def lookI (l : List (List UInt8)) (s : List UInt8) : Nat := if setN l then if rightN s then lookAt l s else 0 else 0
def lookH (l : List (List UInt8)) (s : List UInt8) : Bool := if setN l then if rightN s then decide (lookAt l s < l.length) && decide (l.getD (lookAt l s) [] = s) else false else false

set_option maxRecDepth 100000 in
theorem lookAt_calls (x s : List UInt8) (S : Nat) (W : World) (hx : x.length ≤ 1000000) (hs : s.length ≤ 1000000) (hS : W.cell? ⟨S, 0, none⟩ = some (str s)) :
    Calls Try.prog 78 #[str x, .pointer (some ⟨S, 0, none⟩)] W fun e W' => e = .returned (.bool (decide (0 ≤ orderN x s))) ∧ Below W.heap.size W W' := by
  have HO := Lib.hid (order_calls x s W hx hs)
  generalize orderN x s = o at *
  unfold str at *
  go_enter Try.func78, Try.ntmps78
  go_wp2_with fail
  refine HO.out.mono ?_
  rintro e w1 ⟨rfl, hb1⟩
  have B1 := Lib.hid hb1
  clear hb1
  go_wp2
  go_ret
  exact ⟨by first | rfl | simp, B1.out⟩

set_option maxRecDepth 100000 in
set_option maxHeartbeats 2000000 in
theorem look_calls (v : Value) (l : List (List UInt8)) (s : List UInt8) (w : World) (hrow : TRow w v l) (hlen : l.length ≤ 1000000) (hl : ∀ x ∈ l, x.length ≤ 1000000) (hs : s.length ≤ 1000000) :
    Calls Try.prog 52 #[v, str s] w fun e W' => e = .returned (.tuple #[.int .i64 (lookI l s : Nat), .bool (lookH l s), .int .i64 (lookE l s)]) ∧ Below w.heap.size w W' := by
  have b1 := Boxed.new w 9 (str s)
  have hB0 : Below w.heap.size w (w.alloc (.cells #[str s] 9)) := (Below.refl _ w).alloc (Nat.le_refl _) _
  obtain ⟨W0, hW0⟩ : ∃ W0, W0 = w.alloc (.cells #[str s] 9) := ⟨_, rfl⟩
  rw [← hW0] at b1 hB0
  have hs0 : W0.heap.size = w.heap.size + 1 := by rw [hW0]; simp
  have HSet := Lib.hid (set_calls v l W0 (hrow.below hB0) hlen hl)
  have HRt := Lib.hid (fun W : World => right_calls s W (by omega))
  have HBx := Lib.hid (fun (W : World) (h : Below W0.heap.size W0 W) => (hB0.trans (h.mono (by omega)) : Below w.heap.size w W))
  have HCl := Lib.hid (fun (W : World) (h : Below W0.heap.size W0 W) => (show Boxed W w.heap.size 9 (str s) from (h.block _ b1.lt).trans b1).cell)
  have e78 : ∀ args w, (callFunc 78 args).run Try.prog w = .ok (.enter 78 args) w := enters_of Try.func78 (by kernel_rfl) rfl
  have HPl := Lib.hid (fun (W : World) (hW : Below W0.heap.size W0 W) (h1 : setN l = true) (h2 : rightN s = true) =>
    place_calls 78 #[.pointer (some ⟨w.heap.size, 0, none⟩)] v l (fun x => decide (0 ≤ orderN x s)) W e78 ((hrow.below hB0).below hW) hlen
      (fun W' x hB hx => lookAt_calls x s w.heap.size W' (hl x hx) hs (HCl.out W' (hW.trans (hB.mono hW.size))))
      (by
        intro a b hab hb hq
        obtain ⟨d, rfl⟩ : ∃ d, b = a + d := ⟨b - a, by omega⟩
        have hle := setN_le h1 a d hb
        rw [decide_eq_true_eq] at hq ⊢
        rw [orderN_lex _ _ h2] at hq ⊢
        exact Int.not_lt.1 fun hn => absurd (names_good.le_lt hle hn) (by omega)))
  have hEl := Lib.hid (fun (W : World) (hW : Below W0.heap.size W0 W) => ((hrow.below hB0).below hW))
  have hN := Lib.hid (show lookE l s = if setN l then if rightN s then 0 else 40 else 41 from rfl)
  have hI := Lib.hid (show lookI l s = if setN l then if rightN s then lookAt l s else 0 else 0 from rfl)
  have hH := Lib.hid (show lookH l s = if setN l then if rightN s then decide (lookAt l s < l.length) && decide (l.getD (lookAt l s) [] = s) else false else false from rfl)
  have hle : lookAt l s ≤ l.length := by
    unfold lookAt firstN
    have := List.countP_le_length (p := fun i => !decide (0 ≤ orderN (l.getD i []) s)) (l := List.range l.length)
    simpa using this
  have HLe := Lib.hid hle
  have hq : lookAt l s = firstN l.length (fun i => decide (0 ≤ orderN (l.getD i []) s)) := rfl
  rw [← hq] at HPl
  clear hq hle b1 hl
  generalize lookAt l s = at0 at *
  obtain ⟨sb, hsb⟩ : ∃ b, setN l = b := ⟨_, rfl⟩
  obtain ⟨rb, hrb⟩ : ∃ b, rightN s = b := ⟨_, rfl⟩
  simp only [hsb, hrb] at HSet HRt HPl hN hI hH
  clear hsb hrb e78
  obtain ⟨a, n, c, rfl, hn⟩ : ∃ a n c, v = .slice a n c ∧ n = l.length := by
    rcases hrow with ⟨rfl, a, c, rfl⟩ | ⟨b, o, c, rfl, _⟩
    · exact ⟨a, 0, c, rfl, rfl⟩
    · exact ⟨_, _, c, rfl, rfl⟩
  subst hn
  have HRow := Lib.hid hrow
  have HW0 := Lib.hid hW0
  have HS0 := Lib.hid hs0
  have HB0 := Lib.hid hB0
  simp only [str] at *
  clear hrow hlen hs hW0 hs0 hB0
  go_enter Try.func52, Try.ntmps52
  go_wp2_with fail
  rw [← HW0.out]
  refine HSet.out.mono ?_
  rintro e w1 ⟨rfl, hb1⟩
  have B1 := Lib.hid hb1
  clear hb1
  have k1 := HCl.out w1 B1.out
  cases sb with
  | false =>
    go_wp2
    exact bodyPost_ret (v := .tuple #[.int .i64 0, .bool false, .int .i64 41]) (by simp [results, Try.f52, go_sem]) rfl ⟨by rw [hN.out, hI.out, hH.out]; rfl, HBx.out _ B1.out⟩
  | true =>
    go_wp2_with fail
    refine (HRt.out _).mono ?_
    rintro e w2 ⟨rfl, hb2⟩
    have B2 := Lib.hid (B1.out.trans (hb2.mono B1.out.size))
    clear hb2 k1
    have k2 := HCl.out w2 B2.out
    cases rb with
    | false =>
      go_wp2
      exact bodyPost_ret (v := .tuple #[.int .i64 0, .bool false, .int .i64 40]) (by simp [results, Try.f52, go_sem]) rfl ⟨by rw [hN.out, hI.out, hH.out]; rfl, HBx.out _ B2.out⟩
    | true =>
      go_wp2_with fail
      refine (HPl.out _ B2.out (by trivial) (by trivial)).mono ?_
      rintro e w3 ⟨rfl, hb3⟩
      have B3 := Lib.hid (B2.out.trans (hb3.mono B2.out.size))
      clear hb3 k2
      have k3 := HCl.out w3 B3.out
      by_cases hlt : at0 < l.length
      · have hd : decide ((at0 : Int) < (l.length : Int)) = true := decide_eq_true (by omega)
        have hi1 : (at0 : Int) < (l.length : Int) := by omega
        have hi0 : (0 : Int) ≤ (at0 : Int) := by omega
        obtain ⟨b, o, c', hsl, hbl, hcl, hcell⟩ : ∃ b o c', Value.slice a l.length c = .slice (some ⟨b, o, none⟩) l.length c' ∧ b < w3.heap.size ∧ l.length ≤ c' ∧ ∀ i x, l[i]? = some x → w3.cell? ⟨b, o + i, none⟩ = some (str x) := by
          rcases hEl.out w3 B3.out with ⟨h, _⟩ | h
          · rw [h] at hlt; exact absurd hlt (Nat.not_lt_zero _)
          · exact h
        cases hsl
        have hx := hcell at0 (l.getD at0 []) (by rw [List.getD_eq_getElem?_getD, List.getElem?_eq_getElem hlt]; rfl)
        have hE := Lib.hid (show lookH l s = decide (l.getD at0 [] = s) by rw [hH.out, decide_eq_true hlt]; simp)
        clear hcell hbl hcl
        generalize l.getD at0 [] = x at *
        unfold str at hx
        go_wp2_with fail
        go_quiet (fail)
        go_wp2
        have hE2 : lookH l s = (x == s) := hE.out.trans (by rw [Bool.eq_iff_iff]; simp)
        exact bodyPost_ret (v := .tuple #[.int .i64 (at0 : Nat), .bool (x == s), .int .i64 0]) (by simp [results, Try.f52, go_sem]) rfl ⟨by rw [hN.out, hI.out, hE2]; simp, HBx.out _ (below_drewN B3.out _)⟩
      · have hd : decide ((at0 : Int) < (l.length : Int)) = false := decide_eq_false (by omega)
        have hE := Lib.hid (show lookH l s = false by rw [hH.out, decide_eq_false hlt]; simp)
        go_wp2_with fail
        go_quiet (fail)
        go_wp2
        exact bodyPost_ret (v := .tuple #[.int .i64 (at0 : Nat), .bool false, .int .i64 0]) (by simp [results, Try.f52, go_sem]) rfl ⟨by rw [hN.out, hI.out, hE.out]; simp, HBx.out _ (below_drewN B3.out _)⟩

set_option maxRecDepth 100000 in
theorem find_calls (v : Value) (l : List (List UInt8)) (s : List UInt8) (w : World) (hrow : TRow w v l) (hlen : l.length ≤ 1000000) (hl : ∀ x ∈ l, x.length ≤ 1000000) (hs : s.length ≤ 1000000) :
    Calls Try.prog 22 #[v, str s] w fun e W' => e = .returned (.tuple #[.int .i64 (lookI l s : Nat), .bool (lookH l s)]) ∧ Below w.heap.size w W' := by
  have HL := Lib.hid (look_calls v l s w hrow hlen hl hs)
  generalize lookI l s = i at *
  generalize lookH l s = h at *
  generalize lookE l s = k at *
  obtain ⟨a, n, c, rfl⟩ : ∃ a n c, v = .slice a n c := by
    rcases hrow with ⟨rfl, a, c, rfl⟩ | ⟨b, o, c, rfl, _⟩
    · exact ⟨a, 0, c, rfl⟩
    · exact ⟨_, _, c, rfl⟩
  simp only [str] at *
  clear hrow hlen hl hs
  go_enter Try.func22, Try.ntmps22
  go_wp2_with fail
  refine HL.out.mono ?_
  rintro e w1 ⟨rfl, hb1⟩
  have B1 := Lib.hid hb1
  clear hb1
  go_wp2
  exact bodyPost_ret (v := .tuple #[.int .i64 (i : Nat), .bool h]) (by simp [results, Try.f22, go_sem]) rfl ⟨rfl, B1.out⟩
end Go.Proofs.Ytdaalpiiagmdfaa
