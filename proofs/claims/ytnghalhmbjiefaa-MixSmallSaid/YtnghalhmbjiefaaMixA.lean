/-
  CONTRACTS of mix.fold, mix.unfold, mix.Fold, mix.Unfold, mix.wayBack, mix.Mix, mix.Unmix.
-/
import Derived.Test.YtnghalhmbjiefaaProg
import Derived.Test.YtnghalhmbjiefaaMixPlain
import Derived.Handy
import Derived.WalkSpells
import Derived.WalkLawsBesides
import Derived.Lib.Hide
namespace Go.Proofs.Ytnghalhmbjiefaa
open Go.RowKit

theorem retI {k : IntKind} {a b : Int} (h : a = b) : Ending.returned (.int k a) = .returned (.int k b) := by rw [h]
theorem retB {a b : Bool} (h : a = b) : Ending.returned (.bool a) = .returned (.bool b) := by rw [h]

theorem mfold_calls (x : BitVec 64) (n : Nat) (hn : n ≤ 64) (w : World) :
    Calls Try.prog 30 #[.int .u64 (x.toNat : Int), .int .i64 (n : Int)] w fun e w' => e = .returned (.int .u64 ((foldB x n).toNat : Int)) ∧ w = w' := by
  have hf := uv_fold x n
  go_enter Try.func30, Try.ntmps30
  go_wp2
  go_ret
  exact ⟨rfl, rfl⟩

theorem munfold_calls (x : BitVec 64) (n : Nat) (h1 : 1 ≤ n) (hn : n < 64) (w : World) :
    Calls Try.prog 32 #[.int .u64 (x.toNat : Int), .int .i64 (n : Int)] w fun e w' => e = .returned (.int .u64 ((unfoldB x n).toNat : Int)) ∧ w = w' := by
  go_enter Try.func32, Try.ntmps32
  go_wp2
  go_loop [0, 1] (fun x1 n1 => ∃ j : Nat, ∃ m : Nat, m = n * 2 ^ j ∧ m < 128 ∧ n1 = .int .i64 (m : Int) ∧ x1 = .int .u64 ((rndB x n j).toNat : Int)) (fun _ n1 => 128 - (intOf n1).toNat)
  case atStart => exact ⟨0, n, by simp, by omega, rfl, rfl⟩
  case round =>
    obtain ⟨j, m, hm, hlt, rfl, rfl⟩ := hrel
    have hM := Lib.hid hm
    clear hm
    by_cases h64 : m < 64
    · have hF := Lib.hid (fun W => mfold_calls (rndB x n j) m (by omega) W)
      go_wp2_with (go_at_call 30; refine (hF.out _).mono ?_; rintro e w' ⟨rfl, rfl⟩)
      go_round
      case rel => exact ⟨j + 1, m * 2, by rw [hM.out, Nat.pow_succ, Nat.mul_assoc], by omega, by go_num, by rw [rndB, ← hM.out]⟩
      case measure =>
        have h0 : 1 ≤ m := by rw [hM.out]; exact Nat.mul_pos h1 (Nat.two_pow_pos j)
        simp [intOf]; omega
    · go_wp2
      go_ret
      refine ⟨retI ?_, rfl⟩
      rw [rndB_done x n j h1 (by rw [← hM.out]; omega)]

theorem foldable_yes (y : Int) (h1 : 1 ≤ y) (hn : y < 64) (w : World) :
    Calls Try.prog 33 #[.int .i64 y] w fun e w' => e = .returned (.bool true) ∧ w = w' := by
  have h2 : decide (1 ≤ y) = true := by simpa using h1
  have h3 : decide (y < 64) = true := by simpa using hn
  go_enter Try.func33, Try.ntmps33
  go_wp2
  go_ret
  exact ⟨rfl, rfl⟩
theorem foldable_low (y : Int) (h1 : y < 1) (w : World) :
    Calls Try.prog 33 #[.int .i64 y] w fun e w' => e = .returned (.bool false) ∧ w = w' := by
  have h2 : decide (1 ≤ y) = false := by simpa using h1
  go_enter Try.func33, Try.ntmps33
  go_wp2
  go_ret
  exact ⟨rfl, rfl⟩
theorem foldable_high (y : Int) (h1 : 64 ≤ y) (w : World) :
    Calls Try.prog 33 #[.int .i64 y] w fun e w' => e = .returned (.bool false) ∧ w = w' := by
  have h2 : decide (1 ≤ y) = true := by simp; omega
  have h3 : decide (y < 64) = false := by simpa using h1
  go_enter Try.func33, Try.ntmps33
  go_wp2
  go_ret
  exact ⟨rfl, rfl⟩
theorem foldable_no (y : Int) (h : y < 1 ∨ 64 ≤ y) (w : World) :
    Calls Try.prog 33 #[.int .i64 y] w fun e w' => e = .returned (.bool false) ∧ w = w' := by
  rcases h with h | h
  · exact foldable_low y h w
  · exact foldable_high y h w

theorem mFold_calls (x : BitVec 64) (n : Nat) (h1 : 1 ≤ n) (hn : n < 64) (w : World) :
    Calls Try.prog 20 #[.int .u64 (x.toNat : Int), .int .i64 (n : Int)] w fun e w' => e = .returned (.tuple #[.int .u64 ((foldB x n).toNat : Int), .int .i64 0]) ∧ w = w' := by
  have hF := Lib.hid (fun W => mfold_calls x n (by omega) W)
  have hT := Lib.hid (fun W => foldable_yes n (by omega) (by omega) W)
  go_enter Try.func20, Try.ntmps20
  go_wp2_with fail
  refine (hT.out _).mono ?_
  rintro e w' ⟨rfl, rfl⟩
  go_wp2_with fail
  refine (hF.out _).mono ?_
  rintro e w' ⟨rfl, rfl⟩
  go_wp2
  go_ret2
  exact ⟨rfl, rfl⟩
theorem Fold_no (a y : Int) (h : y < 1 ∨ 64 ≤ y) (w : World) :
    Calls Try.prog 20 #[.int .u64 a, .int .i64 y] w fun e w' => e = .returned (.tuple #[.int .u64 0, .int .i64 2]) ∧ w = w' := by
  have hT := Lib.hid (fun W => foldable_no y h W)
  go_enter Try.func20, Try.ntmps20
  go_wp2_with fail
  refine (hT.out _).mono ?_
  rintro e w' ⟨rfl, rfl⟩
  go_wp2
  go_ret2
  exact ⟨rfl, rfl⟩
theorem mUnfold_calls (x : BitVec 64) (n : Nat) (h1 : 1 ≤ n) (hn : n < 64) (w : World) :
    Calls Try.prog 21 #[.int .u64 (x.toNat : Int), .int .i64 (n : Int)] w fun e w' => e = .returned (.tuple #[.int .u64 ((unfoldB x n).toNat : Int), .int .i64 0]) ∧ w = w' := by
  have hF := Lib.hid (fun W => munfold_calls x n h1 hn W)
  have hT := Lib.hid (fun W => foldable_yes n (by omega) (by omega) W)
  go_enter Try.func21, Try.ntmps21
  go_wp2_with fail
  refine (hT.out _).mono ?_
  rintro e w' ⟨rfl, rfl⟩
  go_wp2_with fail
  refine (hF.out _).mono ?_
  rintro e w' ⟨rfl, rfl⟩
  go_wp2
  go_ret2
  exact ⟨rfl, rfl⟩
theorem Unfold_no (a y : Int) (h : y < 1 ∨ 64 ≤ y) (w : World) :
    Calls Try.prog 21 #[.int .u64 a, .int .i64 y] w fun e w' => e = .returned (.tuple #[.int .u64 0, .int .i64 2]) ∧ w = w' := by
  have hT := Lib.hid (fun W => foldable_no y h W)
  go_enter Try.func21, Try.ntmps21
  go_wp2_with fail
  refine (hT.out _).mono ?_
  rintro e w' ⟨rfl, rfl⟩
  go_wp2
  go_ret2
  exact ⟨rfl, rfl⟩

/-! Products, and their way back. -/
set_option maxRecDepth 100000 in
theorem wayBack_first (w : World) :
    Calls Try.prog 31 #[.int .u64 13787848793156543929] w fun e w' => e = .returned (.func (.func 37) #[] #[.pointer (some ⟨w.heap.size, 0, none⟩)]) ∧ w' = w.alloc (.cells #[.int .u64 (invFirstB.toNat : Int)] 22) := by
  go_enter Try.func31, Try.ntmps31
  go_wp2
  refine wp_loop_rounds 6 ?_
  rw [rounds_succ]
  go_wp2
  rw [rounds_succ]
  go_wp2
  rw [rounds_succ]
  go_wp2
  rw [rounds_succ]
  go_wp2
  rw [rounds_succ]
  go_wp2
  rw [rounds_succ]
  go_wp2
  go_ret
  exact ⟨rfl, rfl⟩
set_option maxRecDepth 100000 in
theorem wayBack_second (w : World) :
    Calls Try.prog 31 #[.int .u64 10723151780598845931] w fun e w' => e = .returned (.func (.func 37) #[] #[.pointer (some ⟨w.heap.size, 0, none⟩)]) ∧ w' = w.alloc (.cells #[.int .u64 (invSecondB.toNat : Int)] 22) := by
  go_enter Try.func31, Try.ntmps31
  go_wp2
  refine wp_loop_rounds 6 ?_
  rw [rounds_succ]
  go_wp2
  rw [rounds_succ]
  go_wp2
  rw [rounds_succ]
  go_wp2
  rw [rounds_succ]
  go_wp2
  rw [rounds_succ]
  go_wp2
  rw [rounds_succ]
  go_wp2
  go_ret
  exact ⟨rfl, rfl⟩
theorem cell_new1 (w : World) (x : Value) (t : TypeId) : (w.alloc (.cells #[x] t)).cell? ⟨w.heap.size, 0, none⟩ = some x := cell_one_new w x t 0 x rfl
theorem wayBack1_calls (x y : BitVec 64) (b : Nat) (w : World) (hc : w.cell? ⟨b, 0, none⟩ = some (.int .u64 (y.toNat : Int))) :
    Calls Try.prog 37 #[.int .u64 (x.toNat : Int), .pointer (some ⟨b, 0, none⟩)] w fun e w' => e = .returned (.int .u64 ((x * y).toNat : Int)) ∧ w = w' := by
  have hm := uv_mul x y
  go_enter Try.func37, Try.ntmps37
  go_wp2
  go_ret
  exact ⟨rfl, rfl⟩
theorem Mix_calls (x : BitVec 64) (w : World) :
    Calls Try.prog 18 #[.int .u64 (x.toNat : Int)] w fun e w' => e = .returned (.int .u64 ((mixB x).toNat : Int)) ∧ w = w' := by
  have h1 := Lib.hid (fun W => mfold_calls x 30 (by omega) W)
  have e1 : IntKind.u64.wrap (((foldB x 30).toNat : Int) * 13787848793156543929) = ((foldB x 30 * firstB).toNat : Int) := uv_mul _ firstB
  have h2 := Lib.hid (fun W => mfold_calls (foldB x 30 * firstB) 27 (by omega) W)
  have e2 : IntKind.u64.wrap (((foldB (foldB x 30 * firstB) 27).toNat : Int) * 10723151780598845931) = ((foldB (foldB x 30 * firstB) 27 * secondB).toNat : Int) := uv_mul _ secondB
  have h3 := Lib.hid (fun W => mfold_calls (foldB (foldB x 30 * firstB) 27 * secondB) 31 (by omega) W)
  have hx : mixB x = foldB (foldB (foldB x 30 * firstB) 27 * secondB) 31 := rfl
  rw [hx]
  generalize foldB (foldB (foldB x 30 * firstB) 27 * secondB) 31 = m5 at *
  generalize foldB (foldB x 30 * firstB) 27 * secondB = m4 at *
  generalize foldB (foldB x 30 * firstB) 27 = m3 at *
  generalize foldB x 30 * firstB = m2 at *
  generalize foldB x 30 = m1 at *
  clear hx
  go_enter Try.func18, Try.ntmps18
  go_wp2_with fail
  refine (h1.out _).mono ?_
  rintro e w' ⟨rfl, rfl⟩
  go_wp2_with fail
  refine (h2.out _).mono ?_
  rintro e w' ⟨rfl, rfl⟩
  go_wp2_with fail
  refine (h3.out _).mono ?_
  rintro e w' ⟨rfl, rfl⟩
  go_wp2
  go_ret
  exact ⟨rfl, rfl⟩
theorem Unmix_calls (x : BitVec 64) (w : World) :
    Calls Try.prog 19 #[.int .u64 (x.toNat : Int)] w fun e w' => e = .returned (.int .u64 ((unmixB x).toNat : Int)) ∧ Below w.heap.size w w' := by
  have h1 := Lib.hid (fun W => munfold_calls x 31 (by omega) (by omega) W)
  have g1 := Lib.hid (fun b W hc => wayBack1_calls (unfoldB x 31) invSecondB b W hc)
  have h2 := Lib.hid (fun W => munfold_calls (unfoldB x 31 * invSecondB) 27 (by omega) (by omega) W)
  have g2 := Lib.hid (fun b W hc => wayBack1_calls (unfoldB (unfoldB x 31 * invSecondB) 27) invFirstB b W hc)
  have h3 := Lib.hid (fun W => munfold_calls (unfoldB (unfoldB x 31 * invSecondB) 27 * invFirstB) 30 (by omega) (by omega) W)
  have hx : unmixB x = unfoldB (unfoldB (unfoldB x 31 * invSecondB) 27 * invFirstB) 30 := rfl
  rw [hx]
  generalize unfoldB (unfoldB (unfoldB x 31 * invSecondB) 27 * invFirstB) 30 = m5 at *
  generalize unfoldB (unfoldB x 31 * invSecondB) 27 * invFirstB = m4 at *
  generalize unfoldB (unfoldB x 31 * invSecondB) 27 = m3 at *
  generalize unfoldB x 31 * invSecondB = m2 at *
  generalize unfoldB x 31 = m1 at *
  clear hx
  go_enter Try.func19, Try.ntmps19
  go_wp2_with fail
  refine (wayBack_second w).mono ?_
  rintro e w1 ⟨rfl, hw1⟩
  have hb1 : Below w.heap.size w w1 := by rw [hw1]; exact (Below.refl _ _).alloc (Nat.le_refl _) _
  have hc1 : w1.cell? ⟨w.heap.size, 0, none⟩ = some (.int .u64 (invSecondB.toNat : Int)) := by rw [hw1]; exact cell_new1 _ _ _
  clear hw1
  have HB1 := Lib.hid hb1
  have HC1 := Lib.hid hc1
  clear hb1 hc1
  go_wp2_with fail
  refine (h1.out _).mono ?_
  rintro e w' ⟨rfl, rfl⟩
  go_wp2_with fail
  refine (g1.out _ _ HC1.out).mono ?_
  rintro e w' ⟨rfl, rfl⟩
  go_wp2_with fail
  refine (wayBack_first _).mono ?_
  rintro e w2 ⟨rfl, hw2⟩
  have hb2 : Below w.heap.size w w2 := HB1.out.trans (by rw [hw2]; exact ((Below.refl _ _).alloc (Nat.le_refl _) _).mono HB1.out.size)
  have hc2 : w2.cell? ⟨w1.heap.size, 0, none⟩ = some (.int .u64 (invFirstB.toNat : Int)) := by rw [hw2]; exact cell_new1 _ _ _
  clear hw2
  have HB2 := Lib.hid hb2
  have HC2 := Lib.hid hc2
  clear hb2 hc2
  go_wp2_with fail
  refine (h2.out _).mono ?_
  rintro e w' ⟨rfl, rfl⟩
  go_wp2_with fail
  refine (g2.out _ _ HC2.out).mono ?_
  rintro e w' ⟨rfl, rfl⟩
  go_wp2_with fail
  refine (h3.out _).mono ?_
  rintro e w' ⟨rfl, rfl⟩
  go_wp2
  go_ret
  exact ⟨rfl, HB2.out⟩
end Go.Proofs.Ytnghalhmbjiefaa
