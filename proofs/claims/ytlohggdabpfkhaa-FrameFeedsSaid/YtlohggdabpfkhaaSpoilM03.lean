/-
  CONTRACT of fermatalaw03.spoil at lists of bytes of the call's own: no other block is written.
-/
import Derived.Test.YtlohggdabpfkhaaReads03
namespace Go.Proofs.Ytlohggdabpfkhaa
open Go.RowKit Go.Shelf Pl

/-- ONLY THE BLOCKS OF THESE ROWS ARE WRITTEN: what each such writing keeps is kept. -/
def Spoils (w w' : World) (n : Nat) (V : List Value) : Prop := ∀ Q : World → Prop, Q w → (∀ W W' i, i < n → Q W → W.grownBy W' (V.getD i undef).ownBlock → Q W') → Q w'
theorem Spoils.refl (w : World) (n : Nat) (V : List Value) : Spoils w w n V := fun _ h _ => h
theorem Spoils.step {w W W' : World} {n i : Nat} {V : List Value} (h : Spoils w W n V) (hi : i < n) (hg : W.grownBy W' (V.getD i undef).ownBlock) : Spoils w W' n V := fun Q h0 hs => hs _ _ i hi (h Q h0 hs) hg

set_option maxRecDepth 100000 in
set_option maxHeartbeats 2000000 in
theorem spoilM_calls (v : Value) (n b base : Nat) (V : List Value) (L : List (List Nat)) (w : World) (hr : w.ownsRow b 23 1 v n V) (hM : MVal w base V L) (hn : L.length = n) (hL : ∀ l ∈ L, AllB l) :
    Calls Try.prog 79 #[v] w fun e w' => (∃ r, e = .returned r) ∧ Spoils w w' n V := by
  obtain ⟨a, c, rfl⟩ := owns_shape hr
  have HL := Lib.hid hL; have HN := Lib.hid hn
  have HVl := Lib.hid hM.1
  have HNe := Lib.hid hM.2.2
  have HV0 := Lib.hid (show ∀ i, 0 ≤ i → i < n → Own8 w base (V.getD i undef) (mt L i) from fun i _ hi => hM.2.1 i (by omega))
  have HR0 := Lib.hid hr
  have hnm : (n : Int) ≤ 9223372036854775807 := by
    rcases hr.2 with ⟨e, h0⟩ | ⟨g2, cap, cur, e, _, _, h1, h2, _⟩
    · have : n = 0 := h0
      omega
    · unfold maxLen at h2; omega
  clear hr hM hn hL
  go_enter Try.func79, Try.ntmps79
  go_wp2_with fail
  go_loopw [7] (fun i wr => ∃ k : Nat, k ≤ n ∧ i = .int .i64 k ∧ wr.ownsRow b 23 1 (.slice a n c) n V ∧ (∀ i, k ≤ i → i < n → Own8 wr base (V.getD i undef) (mt L i)) ∧ Spoils w wr n V) (fun i _ => n - (intOf i).toNat)
  case atStart => exact ⟨0, Nat.zero_le _, rfl, HR0.out, HV0.out, Spoils.refl _ _ _⟩
  case round =>
    obtain ⟨k, hk, rfl, hr, hv, hs⟩ := hrel
    have HR := Lib.hid hr; have HV := Lib.hid hv; have HS := Lib.hid hs
    by_cases hlt : k < n
    · have hd : decide ((k : Int) < (n : Int)) = true := decide_eq_true (by omega)
      have hk1 : (k : Int) + 1 ≤ 9223372036854775807 := by omega
      obtain ⟨g, rfl⟩ : ∃ g, a = some ⟨g, 0, none⟩ := by
        rcases hr.2 with ⟨e, h0⟩ | ⟨g2, cap, cur, e, _⟩
        · have : n = 0 := h0
          omega
        · simp only [Value.slice.injEq, true_and] at e; exact ⟨g2, e.1⟩
      have hvk := hv k (Nat.le_refl _) hlt
      have hab : AllB (mt L k) := by
        refine HL.out _ ?_
        simp only [mt, List.getD_eq_getElem?_getD, show k < L.length by have := HN.out; omega, List.getElem?_eq_getElem, Option.getD_some]
        exact List.getElem_mem _
      obtain ⟨ax, nx, cx, hvx⟩ : ∃ a n c, V.getD k undef = .slice a n c := by obtain ⟨a, c, e⟩ := owns_shape hvk; exact ⟨a, _, c, e⟩
      have hcell : wr.cell? ⟨g, k, none⟩ = some (.slice ax nx cx) := by
        have hV : V.length = n := by have := hr.1; omega
        have := rowM_cells hr k (V.getD k undef) (by simp [List.getD_eq_getElem?_getD, hV, hlt])
        have hadd : (⟨g, 0, none⟩ : Addr).add k = ⟨g, k, none⟩ := by unfold Addr.add; split <;> simp_all
        rw [hadd, hvx] at this
        exact this
      rw [hvx] at hvk
      have HVx := Lib.hid hvx
      have HVk := Lib.hid hvk
      rcases hvk.2 with ⟨e, h0⟩ | ⟨q, cap, cur, e, -⟩
      · simp only [Value.slice.injEq] at e
        obtain ⟨rfl, rfl, rfl⟩ := e
        clear hr hv hs hvk hvx hab
        go_wp2_with fail
        go_loopw [13] (fun i w2 => i = .int .i64 0 ∧ w2 = wr) (fun _ _ => 0)
        case atStart => exact ⟨rfl, rfl⟩
        case round =>
          obtain ⟨rfl, rfl⟩ := hrel
          go_wp2_with fail
          go_roundw
          case rel => exact ⟨k + 1, by omega, by go_num, HR.out, fun i hi hin => HV.out i (by omega) hin, HS.out⟩
          case measure => simp [intOf]; omega
      · simp only [Value.slice.injEq] at e
        obtain ⟨rfl, rfl, rfl⟩ := e
        obtain ⟨hnx, hnc, hcm, hL8⟩ := left8_of hvk hab
        have HL8 := Lib.hid hL8
        unfold maxLen at hcm
        clear hr hv hs hvk hvx hab hL8
        go_wp2_with fail
        go_loopw [4, 13] (fun _ i w2 => ∃ j : Nat, j ≤ (mt L k).length ∧ i = .int .i64 j ∧ wr.grownBy w2 (some q) ∧ Left8 w2 q cx (mt L k).length j) (fun _ i _ => (mt L k).length - (intOf i).toNat)
        case atStart => exact ⟨0, Nat.zero_le _, rfl, ⟨rfl, rfl, rfl, Nat.le_refl _, fun _ _ _ => rfl⟩, HL8.out⟩
        case round =>
          obtain ⟨j, hj, rfl, hg, hL⟩ := hrel
          have HG := Lib.hid hg
          have HL1 := Lib.hid hL
          by_cases hjl : j < (mt L k).length
          · obtain ⟨z, hz, c1, f1⟩ := hL.cell hjl
            clear hg hL
            go_wp2_with fail
            go_roundw
            case rel => exact ⟨j + 1, by omega, by go_num, HG.out.trans (grownBy_setCell _ q j _), HL1.out.step _⟩
            case measure => simp [intOf]; omega
          · obtain rfl : j = (mt L k).length := by omega
            clear hL hg
            go_wp2_with fail
            go_roundw
            case rel =>
              refine ⟨k + 1, by omega, by go_num, rowM_gr HR.out HVk.out HG.out, fun i hi hin => own8_gr (HV.out i (by omega) hin) HG.out (fun p hp e => HNe.out k i (by omega) (by have := HN.out; omega) p (by rw [HVx.out]; exact e) hp), HS.out.step (i := k) (by omega) ?_⟩
              rw [HVx.out]
              exact HG.out
            case measure => simp [intOf]; omega
    · obtain rfl : k = n := by omega
      have hd : decide ((k : Int) < (k : Int)) = false := by simp
      clear hr hv hs
      go_wp2_with fail
      go_end0
      exact ⟨⟨_, rfl⟩, HS.out⟩
end Go.Proofs.Ytlohggdabpfkhaa
