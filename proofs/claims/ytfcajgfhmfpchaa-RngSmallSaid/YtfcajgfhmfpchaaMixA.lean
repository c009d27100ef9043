/-
  CONTRACTS of mix.fold, mix.unfold, mix.Fold, mix.Unfold, mix.wayBack, mix.Mix, mix.Unmix.
-/
import Derived.Test.YtfcajgfhmfpchaaProg
import Derived.Test.YtfcajgfhmfpchaaMixPlain
import Derived.Handy
import Derived.WalkSpells
import Derived.WalkLawsBesides
import Derived.Lib.Hide
namespace Go.Proofs.Ytfcajgfhmfpchaa
open Go.RowKit

theorem retI {k : IntKind} {a b : Int} (h : a = b) : Ending.returned (.int k a) = .returned (.int k b) := by rw [h]
theorem retB {a b : Bool} (h : a = b) : Ending.returned (.bool a) = .returned (.bool b) := by rw [h]

theorem mfold_calls (x : BitVec 64) (n : Nat) (hn : n ≤ 64) (w : World) :
    Calls Try.prog 46 #[.int .u64 (x.toNat : Int), .int .i64 (n : Int)] w fun e w' => e = .returned (.int .u64 ((foldB x n).toNat : Int)) ∧ w = w' := by
  have hf := uv_fold x n
  go_enter Try.func46, Try.ntmps46
  go_wp2
  go_ret
  exact ⟨rfl, rfl⟩

theorem munfold_calls (x : BitVec 64) (n : Nat) (h1 : 1 ≤ n) (hn : n < 64) (w : World) :
    Calls Try.prog 48 #[.int .u64 (x.toNat : Int), .int .i64 (n : Int)] w fun e w' => e = .returned (.int .u64 ((unfoldB x n).toNat : Int)) ∧ w = w' := by
  go_enter Try.func48, Try.ntmps48
  go_wp2
  go_loop [0, 1] (fun x1 n1 => ∃ j : Nat, ∃ m : Nat, m = n * 2 ^ j ∧ m < 128 ∧ n1 = .int .i64 (m : Int) ∧ x1 = .int .u64 ((rndB x n j).toNat : Int)) (fun _ n1 => 128 - (intOf n1).toNat)
  case atStart => exact ⟨0, n, by simp, by omega, rfl, rfl⟩
  case round =>
    obtain ⟨j, m, hm, hlt, rfl, rfl⟩ := hrel
    have hM := Lib.hid hm
    clear hm
    by_cases h64 : m < 64
    · have hF := Lib.hid (fun W => mfold_calls (rndB x n j) m (by omega) W)
      go_wp2_with (go_at_call 46; refine (hF.out _).mono ?_; rintro e w' ⟨rfl, rfl⟩)
      go_round
      case rel => exact ⟨j + 1, m * 2, by rw [hM.out, Nat.pow_succ, Nat.mul_assoc], by omega, by go_num, by rw [rndB, ← hM.out]⟩
      case measure =>
        have h0 : 1 ≤ m := by rw [hM.out]; exact Nat.mul_pos h1 (Nat.two_pow_pos j)
        simp [intOf]; omega
    · go_wp2
      go_ret
      refine ⟨retI ?_, rfl⟩
      rw [rndB_done x n j h1 (by rw [← hM.out]; omega)]

/-! Products, and their way back. -/
set_option maxRecDepth 100000 in
theorem wayBack_first (w : World) :
    Calls Try.prog 47 #[.int .u64 13787848793156543929] w fun e w' => e = .returned (.func (.func 49) #[] #[.pointer (some ⟨w.heap.size, 0, none⟩)]) ∧ w' = w.alloc (.cells #[.int .u64 (invFirstB.toNat : Int)] 22) := by
  go_enter Try.func47, Try.ntmps47
  go_wp2
  refine wp_loop_rounds 6 ?_
  rw [rounds_succ]
  go_wp2
  rw [rounds_succ]
  go_wp2
  rw [rounds_succ]
  go_wp2
  rw [rounds_succ]
  go_wp2
  rw [rounds_succ]
  go_wp2
  rw [rounds_succ]
  go_wp2
  go_ret
  exact ⟨rfl, rfl⟩
set_option maxRecDepth 100000 in
theorem wayBack_second (w : World) :
    Calls Try.prog 47 #[.int .u64 10723151780598845931] w fun e w' => e = .returned (.func (.func 49) #[] #[.pointer (some ⟨w.heap.size, 0, none⟩)]) ∧ w' = w.alloc (.cells #[.int .u64 (invSecondB.toNat : Int)] 22) := by
  go_enter Try.func47, Try.ntmps47
  go_wp2
  refine wp_loop_rounds 6 ?_
  rw [rounds_succ]
  go_wp2
  rw [rounds_succ]
  go_wp2
  rw [rounds_succ]
  go_wp2
  rw [rounds_succ]
  go_wp2
  rw [rounds_succ]
  go_wp2
  rw [rounds_succ]
  go_wp2
  go_ret
  exact ⟨rfl, rfl⟩
theorem cell_new1 (w : World) (x : Value) (t : TypeId) : (w.alloc (.cells #[x] t)).cell? ⟨w.heap.size, 0, none⟩ = some x := cell_one_new w x t 0 x rfl
theorem wayBack1_calls (x y : BitVec 64) (b : Nat) (w : World) (hc : w.cell? ⟨b, 0, none⟩ = some (.int .u64 (y.toNat : Int))) :
    Calls Try.prog 49 #[.int .u64 (x.toNat : Int), .pointer (some ⟨b, 0, none⟩)] w fun e w' => e = .returned (.int .u64 ((x * y).toNat : Int)) ∧ w = w' := by
  have hm := uv_mul x y
  go_enter Try.func49, Try.ntmps49
  go_wp2
  go_ret
  exact ⟨rfl, rfl⟩
theorem Mix_calls (x : BitVec 64) (w : World) :
    Calls Try.prog 43 #[.int .u64 (x.toNat : Int)] w fun e w' => e = .returned (.int .u64 ((mixB x).toNat : Int)) ∧ w = w' := by
  have h1 := Lib.hid (fun W => mfold_calls x 30 (by omega) W)
  have e1 : IntKind.u64.wrap (((foldB x 30).toNat : Int) * 13787848793156543929) = ((foldB x 30 * firstB).toNat : Int) := uv_mul _ firstB
  have h2 := Lib.hid (fun W => mfold_calls (foldB x 30 * firstB) 27 (by omega) W)
  have e2 : IntKind.u64.wrap (((foldB (foldB x 30 * firstB) 27).toNat : Int) * 10723151780598845931) = ((foldB (foldB x 30 * firstB) 27 * secondB).toNat : Int) := uv_mul _ secondB
  have h3 := Lib.hid (fun W => mfold_calls (foldB (foldB x 30 * firstB) 27 * secondB) 31 (by omega) W)
  have hx : mixB x = foldB (foldB (foldB x 30 * firstB) 27 * secondB) 31 := rfl
  rw [hx]
  generalize foldB (foldB (foldB x 30 * firstB) 27 * secondB) 31 = m5 at *
  generalize foldB (foldB x 30 * firstB) 27 * secondB = m4 at *
  generalize foldB (foldB x 30 * firstB) 27 = m3 at *
  generalize foldB x 30 * firstB = m2 at *
  generalize foldB x 30 = m1 at *
  clear hx
  go_enter Try.func43, Try.ntmps43
  go_wp2_with fail
  refine (h1.out _).mono ?_
  rintro e w' ⟨rfl, rfl⟩
  go_wp2_with fail
  refine (h2.out _).mono ?_
  rintro e w' ⟨rfl, rfl⟩
  go_wp2_with fail
  refine (h3.out _).mono ?_
  rintro e w' ⟨rfl, rfl⟩
  go_wp2
  go_ret
  exact ⟨rfl, rfl⟩
theorem Unmix_calls (x : BitVec 64) (w : World) :
    Calls Try.prog 45 #[.int .u64 (x.toNat : Int)] w fun e w' => e = .returned (.int .u64 ((unmixB x).toNat : Int)) ∧ Below w.heap.size w w' := by
  have h1 := Lib.hid (fun W => munfold_calls x 31 (by omega) (by omega) W)
  have g1 := Lib.hid (fun b W hc => wayBack1_calls (unfoldB x 31) invSecondB b W hc)
  have h2 := Lib.hid (fun W => munfold_calls (unfoldB x 31 * invSecondB) 27 (by omega) (by omega) W)
  have g2 := Lib.hid (fun b W hc => wayBack1_calls (unfoldB (unfoldB x 31 * invSecondB) 27) invFirstB b W hc)
  have h3 := Lib.hid (fun W => munfold_calls (unfoldB (unfoldB x 31 * invSecondB) 27 * invFirstB) 30 (by omega) (by omega) W)
  have hx : unmixB x = unfoldB (unfoldB (unfoldB x 31 * invSecondB) 27 * invFirstB) 30 := rfl
  rw [hx]
  generalize unfoldB (unfoldB (unfoldB x 31 * invSecondB) 27 * invFirstB) 30 = m5 at *
  generalize unfoldB (unfoldB x 31 * invSecondB) 27 * invFirstB = m4 at *
  generalize unfoldB (unfoldB x 31 * invSecondB) 27 = m3 at *
  generalize unfoldB x 31 * invSecondB = m2 at *
  generalize unfoldB x 31 = m1 at *
  clear hx
  go_enter Try.func45, Try.ntmps45
  go_wp2_with fail
  refine (wayBack_second w).mono ?_
  rintro e w1 ⟨rfl, hw1⟩
  have hb1 : Below w.heap.size w w1 := by rw [hw1]; exact (Below.refl _ _).alloc (Nat.le_refl _) _
  have hc1 : w1.cell? ⟨w.heap.size, 0, none⟩ = some (.int .u64 (invSecondB.toNat : Int)) := by rw [hw1]; exact cell_new1 _ _ _
  clear hw1
  have HB1 := Lib.hid hb1
  have HC1 := Lib.hid hc1
  clear hb1 hc1
  go_wp2_with fail
  refine (h1.out _).mono ?_
  rintro e w' ⟨rfl, rfl⟩
  go_wp2_with fail
  refine (g1.out _ _ HC1.out).mono ?_
  rintro e w' ⟨rfl, rfl⟩
  go_wp2_with fail
  refine (wayBack_first _).mono ?_
  rintro e w2 ⟨rfl, hw2⟩
  have hb2 : Below w.heap.size w w2 := HB1.out.trans (by rw [hw2]; exact ((Below.refl _ _).alloc (Nat.le_refl _) _).mono HB1.out.size)
  have hc2 : w2.cell? ⟨w1.heap.size, 0, none⟩ = some (.int .u64 (invFirstB.toNat : Int)) := by rw [hw2]; exact cell_new1 _ _ _
  clear hw2
  have HB2 := Lib.hid hb2
  have HC2 := Lib.hid hc2
  clear hb2 hc2
  go_wp2_with fail
  refine (h2.out _).mono ?_
  rintro e w' ⟨rfl, rfl⟩
  go_wp2_with fail
  refine (g2.out _ _ HC2.out).mono ?_
  rintro e w' ⟨rfl, rfl⟩
  go_wp2_with fail
  refine (h3.out _).mono ?_
  rintro e w' ⟨rfl, rfl⟩
  go_wp2
  go_ret
  exact ⟨rfl, HB2.out⟩
end Go.Proofs.Ytfcajgfhmfpchaa
