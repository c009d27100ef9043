import Derived.Test.YtcjkeobjojmpfaaGreatMHeapB
import Derived.Test.YtcjkeobjojmpfaaGreatMDrawn3
import Derived.BigQuiet
import Derived.Shelf.SlSortCmp.QuietGrown
import Derived.Deep.CutBlock
import Derived.WalkMore
import Derived.Deep.QuietTactic
/-
  CONTRACT of heap's rise.
-/
namespace Go.Proofs.YtcjkeobjojmpfaaGreat
open Go.RowKit

theorem below_grow (w : World) (q : Nat) (os : Array Obj) : Below w.heap.size w (Go.Sort.grow (w.drewN q) os) := by
  refine ⟨rfl, rfl, rfl, by simp [Go.Sort.grow], fun k hk => ?_⟩
  show (w.heap ++ os)[k]? = w.heap[k]?
  exact Array.getElem?_append_left hk
set_option maxRecDepth 100000 in
set_option maxHeartbeats 4000000 in
theorem rise_calls {w : World} {q g x cap xc n : Nat} {t : List En} {ix : Nat → Int} (h : HB w q g x cap xc n t ix) (i0 : Nat) (hr : Rises t i0 i0) :
    Calls Tryz.prog 82 #[.pointer (some ⟨q, 0, none⟩), .int .i64 i0] w fun e w' => e = .returned (.tuple #[]) ∧ ∃ t' ix', HB w' q g x cap xc n t' ix' ∧ t'.length = t.length ∧ (∀ y, y ∈ t' ↔ y ∈ t) ∧ Sinks t' i0 ∧ Off (Q3 q g x) w w' := by
  have mixed : Tryz.prog.follows .mixedOrders = true := by kernel_rfl
  have hcapn := h.agr.len
  have hn4 := h.caps.2.2.2
  have HH := Lib.hid h
  have HR := Lib.hid hr
  have HI0 := Lib.hid hr.2.1
  obtain ⟨m, hm⟩ : ∃ m, t.length = m := ⟨_, rfl⟩
  rw [hm] at hcapn
  have HM := Lib.hid hm
  clear h hr hm
  go_enter Tryz.func82, Tryz.ntmps82
  go_wp2_with fail
  go_step3
  go_wp2_with fail
  go_step3
  go_wp2_with fail
  go_loopw [1] (fun s1 wr => ∃ (i : Nat) (u : List En) (iy : Nat → Int), s1 = .int .i64 (i : Int) ∧ i ≤ i0 ∧ HB wr q g x cap xc n u iy ∧ u.length = m ∧ (∀ y, y ∈ u ↔ y ∈ t) ∧ Rises u i0 i ∧ Off (Q3 q g x) w wr) (fun s1 _ => (intOf s1).toNat)
  case atStart => exact ⟨i0, t, ix, rfl, Nat.le_refl _, HH.out, HM.out, fun _ => Iff.rfl, HR.out, Off.refl _ _⟩
  case round =>
    obtain ⟨i, u, iy, rfl, hii, hH, hul, hmem, hri, hO⟩ := hrel
    have H1 := Lib.hid hH; have HU := Lib.hid hul; have HMem := Lib.hid hmem; have HRi := Lib.hid hri; have HO := Lib.hid hO
    clear hH hmem hri hO HH HR
    by_cases hi : i = 0
    · subst hi
      clear hul
      go_wp2
      simp only [Exit.noGoto]
      go_end0
      exact ⟨rfl, u, iy, H1.out, HU.out.trans HM.out.symm, HMem.out, HRi.out.ends (.inl rfl), HO.out⟩
    · have hil : i < m := by have := HI0.out; rw [HM.out] at this; omega
      obtain ⟨p, hp⟩ : ∃ p, (i - 1) / 4 = p := ⟨_, rfl⟩
      have hpi : p < i := by omega
      obtain ⟨c0, c1, c2, f⟩ := H1.out.cells
      obtain ⟨xi0, xi1, xi2, xi3⟩ := H1.out.tree.cell i (by rw [HU.out]; exact hil)
      obtain ⟨xj0, xj1, xj2, xj3⟩ := H1.out.tree.cell p (by rw [HU.out]; omega)
      rw [hul] at c0
      obtain ⟨lq, lg, lx⟩ := H1.out.lt
      obtain ⟨A, hA⟩ : ∃ A, en u i = A := ⟨_, rfl⟩
      obtain ⟨B, hB⟩ : ∃ B, en u p = B := ⟨_, rfl⟩
      rw [hA] at xi0 xi1 xi2 xi3
      rw [hB] at xj0 xj1 xj2 xj3
      have HA := Lib.hid hA; have HBb := Lib.hid hB; have HP := Lib.hid hp
      have l0 := fun n os => Go.cell_grown (n := n) (os := os) (w := wr) (a := ⟨q, 0, none⟩) lq c0
      have a0 := fun n os => Go.cell_grown (n := n) (os := os) (w := wr) (a := ⟨g, i * 4, none⟩) lg xi0
      have a1 := fun n os => Go.cell_grown (n := n) (os := os) (w := wr) (a := ⟨g, i * 4 + 1, none⟩) lg xi1
      have a2 := fun n os => Go.cell_grown (n := n) (os := os) (w := wr) (a := ⟨g, i * 4 + 2, none⟩) lg xi2
      have a3 := fun n os => Go.cell_grown (n := n) (os := os) (w := wr) (a := ⟨g, i * 4 + 3, none⟩) lg xi3
      have b0 := fun n os => Go.cell_grown (n := n) (os := os) (w := wr) (a := ⟨g, p * 4, none⟩) lg xj0
      have b1 := fun n os => Go.cell_grown (n := n) (os := os) (w := wr) (a := ⟨g, p * 4 + 1, none⟩) lg xj1
      have b2 := fun n os => Go.cell_grown (n := n) (os := os) (w := wr) (a := ⟨g, p * 4 + 2, none⟩) lg xj2
      have b3 := fun n os => Go.cell_grown (n := n) (os := os) (w := wr) (a := ⟨g, p * 4 + 3, none⟩) lg xj3
      have o0 := Lib.hid (fun n os => Drawn.calls_grow (order_calls A B (Go.Sort.grow (wr.drewN n) os)))
      have HSw := Lib.hid (fun n os => swap_calls (H1.out.below (below_grow wr n os)) i p (by rw [HU.out]; exact hil) (by rw [HU.out]; omega))
      obtain ⟨z, hz⟩ : ∃ z, cfE A B = z := ⟨_, rfl⟩
      have HZ := Lib.hid hz
      rw [hz] at o0
      have hi1 : (i : Int) < (m : Int) := by omega
      have hp1 : (p : Int) < (m : Int) := by omega
      have hgt : (i : Int) > 0 := by omega
      have hw1 : IntKind.i64.wrap ((i : Int) - 1) = (i : Int) - 1 := by rw [IntKind.wrap_i64]; omega
      have hq4 : ((i : Int) - 1).tdiv 4 = (p : Int) := by rw [Int.tdiv_eq_ediv_of_nonneg (by omega)]; omega
      clear xi0 xi1 xi2 xi3 xj0 xj1 xj2 xj3 c0 c1 c2 f hA hB hp hz hul
      by_cases hz0 : 0 ≤ z
      · have hdz : decide ((0 : Int) ≤ z) = true := decide_eq_true hz0
        go_wp2_with fail
        go_quiet_grown (first | (with_reducible exact Calls.grown_of (o0.out _ _)))
        go_wp2_with fail
        simp only [Exit.noGoto]
        go_end0
        refine ⟨rfl, u, iy, H1.out.below (below_grow wr nq osq), HU.out.trans HM.out.symm, HMem.out, HRi.out.ends (.inr ?_), HO.out.to (Off.of_below (below_grow wr _ _))⟩
        rw [HP.out, HBb.out, HA.out]
        intro hlt
        have := cfE_neg.2 hlt
        rw [HZ.out] at this
        omega
      · have hdz : decide ((0 : Int) ≤ z) = false := decide_eq_false hz0
        go_wp2_with fail
        go_quiet_grown (first | (with_reducible exact Calls.grown_of (o0.out _ _)))
        go_wp2_with (first | (go_at_call 107; refine (HSw.out _ _).mono ?_; rintro e w2 ⟨rfl, ix2, hH2, hO2⟩; have H2 := Lib.hid hH2; have HO2 := Lib.hid hO2; clear hH2 hO2) | fail)
        go_roundw
        case rel =>
          refine ⟨p, swE u i p, ix2, rfl, by omega, H2.out, by rw [swE_len]; exact HU.out, fun y => (swE_mem (by rw [HU.out]; exact hil) (by rw [HU.out]; omega) y).trans (HMem.out y), ?_, (HO.out.to (Off.of_below (below_grow wr _ _))).to HO2.out⟩
          have := HRi.out.step (by omega) (by rw [HP.out, HBb.out, HA.out]; exact cfE_neg.1 (by rw [HZ.out]; omega))
          rw [HP.out] at this
          exact this
        case measure => simp [intOf]; omega
end Go.Proofs.YtcjkeobjojmpfaaGreat
