import Derived.Test.YtcjkeobjojmpfaaGreatMHeapMem
import Derived.Test.YtcjkeobjojmpfaaGreatMKeyA
/-
  CONTRACTS of heap's order, is, find.
-/
namespace Go.Proofs.YtcjkeobjojmpfaaGreat
open Go.RowKit

set_option maxHeartbeats 1000000 in
/-- cmp.Or of two numbers. -/
theorem or2_calls (g : Nat) (a b : Int) (c : Nat) (w : World) (h0 : w.cell? ⟨g, 0, none⟩ = some (.int .i64 a)) (h1 : w.cell? ⟨g, 1, none⟩ = some (.int .i64 b)) :
    Calls Tryz.prog 111 #[.slice (some ⟨g, 0, none⟩) 2 c] w fun e w' => e = .returned (.int .i64 (if a = 0 then b else a)) ∧ w = w' := by
  have h0' : w.cell? ⟨g, 0 * 1, none⟩ = some (.int .i64 a) := h0
  have h1' : w.cell? ⟨g, 1 * 1, none⟩ = some (.int .i64 b) := h1
  by_cases ha : a = 0
  · have c1 : (a != 0) = false := by simp [ha]
    rw [if_pos ha]
    clear ha
    by_cases hb : b = 0
    · have c2 : (b != 0) = false := by simp [hb]
      have HB := Lib.hid hb
      clear hb
      go_enter Tryz.func111, Tryz.ntmps111
      go_wp2
      go_loopw [8] (fun s8 wr => wr = w ∧ ∃ k : Nat, k ≤ 2 ∧ s8 = .int .i64 (k : Int)) (fun s8 _ => 2 - (intOf s8).toNat)
      case atStart => exact ⟨rfl, 0, by omega, rfl⟩
      case round =>
        obtain ⟨rfl, k, hk, rfl⟩ := hrel
        have h3 : k = 0 ∨ k = 1 ∨ k = 2 := by omega
        rcases h3 with rfl | rfl | rfl
        · go_wp2
          go_roundw
          case rel => exact ⟨trivial, 1, by omega, rfl⟩
          case measure => simp [intOf]
        · go_wp2
          go_roundw
          case rel => exact ⟨trivial, 2, by omega, rfl⟩
          case measure => simp [intOf]
        · go_wp2
          go_ret
          exact ⟨by rw [HB.out]; rfl, rfl⟩
    · have c2 : (b != 0) = true := by simp [hb]
      clear hb
      go_enter Tryz.func111, Tryz.ntmps111
      go_wp2
      go_loopw [8] (fun s8 wr => wr = w ∧ ∃ k : Nat, k ≤ 1 ∧ s8 = .int .i64 (k : Int)) (fun s8 _ => 2 - (intOf s8).toNat)
      case atStart => exact ⟨rfl, 0, by omega, rfl⟩
      case round =>
        obtain ⟨rfl, k, hk, rfl⟩ := hrel
        have h3 : k = 0 ∨ k = 1 := by omega
        rcases h3 with rfl | rfl
        · go_wp2
          go_roundw
          case rel => exact ⟨trivial, 1, by omega, rfl⟩
          case measure => simp [intOf]
        · go_wp2
          go_ret
          exact ⟨rfl, rfl⟩
  · have c1 : (a != 0) = true := by simp [ha]
    rw [if_neg ha]
    clear ha
    go_enter Tryz.func111, Tryz.ntmps111
    go_wp2
    go_loopw [8] (fun s8 wr => wr = w ∧ s8 = .int .i64 0) (fun s8 _ => 2 - (intOf s8).toNat)
    case atStart => exact ⟨rfl, rfl⟩
    case round =>
      obtain ⟨rfl, rfl⟩ := hrel
      go_wp2
      go_ret
      exact ⟨rfl, rfl⟩
theorem cfE_of (a b : En) : cfE a b = if cfK a.1 b.1 = 0 then cmpI (a.2 : Int) (b.2 : Int) else cfK a.1 b.1 := by
  unfold cfE
  by_cases h : LessK a.1 b.1
  · have h1 : LtE a b := .inl h
    rw [if_pos h1]
    unfold cfK
    simp [h]
  · by_cases k : LessK b.1 a.1
    · have h1 : ¬ LtE a b := by rintro (e | e); exact h e; rw [e.1] at k; exact less_irrefl _ k
      have h2 : LtE b a := .inl k
      rw [if_neg h1, if_pos h2]
      unfold cfK
      simp [h, k]
    · have e : a.1 = b.1 := by rcases less_tri a.1 b.1 with q | q | q; exact absurd q h; exact q; exact absurd q k
      have hz : cfK a.1 b.1 = 0 := by unfold cfK; simp [h, k]
      rw [if_pos hz]
      unfold cmpI
      by_cases q : a.2 < b.2
      · have h1 : LtE a b := .inr ⟨e, q⟩
        simp [h1, q]
      · have h1 : ¬ LtE a b := by rintro (z | z); exact h z; exact q z.2
        by_cases q2 : b.2 < a.2
        · have h2 : LtE b a := .inr ⟨e.symm, q2⟩
          simp [h1, h2, q, q2]
        · have h2 : ¬ LtE b a := by rintro (z | z); exact k z; exact q2 z.2
          simp [h1, h2, q, q2]
set_option maxHeartbeats 1000000 in
/-- heap's order: by keys, and then by places. -/
theorem order_calls (a b : En) (w : World) :
    Calls Tryz.prog 87 #[.agg #[.int .i64 a.1.1, .int .i64 a.1.2.1, .int .i64 a.1.2.2, .int .i64 (a.2 : Int)], .agg #[.int .i64 b.1.1, .int .i64 b.1.2.1, .int .i64 b.1.2.2, .int .i64 (b.2 : Int)]] w fun e w' => e = .returned (.int .i64 (cfE a b)) ∧ Below w.heap.size w w' := by
  obtain ⟨⟨a1, a2, a3⟩, ap⟩ := a
  obtain ⟨⟨b1, b2, b3⟩, bp⟩ := b
  have HC := Lib.hid (fun W => compareK_calls (a1, a2, a3) (b1, b2, b3) W)
  have HM := Lib.hid (fun W => cmpInt_calls (ap : Int) (bp : Int) W)
  have HE := Lib.hid (cfE_of ((a1, a2, a3), ap) ((b1, b2, b3), bp))
  have HB0 := Lib.hid (((Below.refl _ w).alloc (Nat.le_refl _) (.cells #[.int .i64 a1, .int .i64 a2, .int .i64 a3, .int .i64 (ap : Int)] 117)).alloc (by simp) (.cells #[.int .i64 b1, .int .i64 b2, .int .i64 b3, .int .i64 (bp : Int)] 117))
  obtain ⟨W, hW⟩ : ∃ W, W = (w.alloc (.cells #[.int .i64 a1, .int .i64 a2, .int .i64 a3, .int .i64 (ap : Int)] 117)).alloc (.cells #[.int .i64 b1, .int .i64 b2, .int .i64 b3, .int .i64 (bp : Int)] 117) := ⟨_, rfl⟩
  have H1 := Lib.hid (show W.cell? ⟨w.heap.size, 3, none⟩ = some (.int .i64 (ap : Int)) ∧ W.cell? ⟨w.heap.size + 1, 3, none⟩ = some (.int .i64 (bp : Int)) ∧ W.heap.size = w.heap.size + 2 by
    subst hW; exact ⟨by simp, by simp, by simp⟩)
  have H2 := Lib.hid (show Below w.heap.size w W by rw [hW]; exact HB0.out)
  have HW := Lib.hid hW
  clear hW HB0
  dsimp only at HE
  generalize cfE ((a1, a2, a3), ap) ((b1, b2, b3), bp) = r at *
  generalize cfK (a1, a2, a3) (b1, b2, b3) = c at *
  generalize cmpI (ap : Int) (bp : Int) = d at *
  have HO := Lib.hid (show ∀ (W : World) (g k : Nat), W.cell? ⟨g, 0, none⟩ = some (.int .i64 c) → W.cell? ⟨g, 1, none⟩ = some (.int .i64 d) → Calls Tryz.prog 111 #[.slice (some ⟨g, 0, none⟩) 2 k] W fun e w' => e = .returned (.int .i64 r) ∧ W = w' from fun W g k h0 h1 => by rw [HE.out]; exact or2_calls g c d k W h0 h1)
  go_enter Tryz.func87, Tryz.ntmps87
  go_wp2_with (first
    | (go_at_call 49; rw [← HW.out]; refine (HC.out _).mono ?_; rintro e w1 ⟨rfl, hb1⟩; have c1 : w1.cell? ⟨w.heap.size, 3, none⟩ = some (.int .i64 (ap : Int)) := (cell_blk (hb1.block _ (by rw [H1.out.2.2]; omega)) 3).trans H1.out.1; have c2 : w1.cell? ⟨w.heap.size + 1, 3, none⟩ = some (.int .i64 (bp : Int)) := (cell_blk (hb1.block _ (by rw [H1.out.2.2]; omega)) 3).trans H1.out.2.1; have HB1 := Lib.hid (H2.out.trans (hb1.mono H2.out.size)); clear hb1; have HB2 := Lib.hid (HB1.out.alloc HB1.out.size (.cells #[.int .i64 c, .int .i64 d] 3)))
    | (go_at_call 69; refine (HM.out _).mono ?_; rintro e w2 ⟨rfl, rfl⟩)
    | (go_at_call 111; refine (HO.out _ _ _ (by simp) (by simp)).mono ?_; rintro e w3 ⟨rfl, rfl⟩)
    | fail)
  go_ret
  exact ⟨rfl, HB2.out⟩
end Go.Proofs.YtcjkeobjojmpfaaGreat
