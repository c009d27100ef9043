/-
  CONTRACTS of the reference's Fold and Unfold (layer 1): each returns what the plain functions say; the world is left alone.
-/
import Derived.Test.YteaeedhhdnkldaaNumFold
namespace Go.Proofs.Yteaeedhhdnkldaa
open Go.RowKit

theorem refFold_calls (y : Int) (w : World) (h1 : -9223372036854775808 ≤ y) (h2 : y ≤ 9223372036854775807) :
    Calls Try.prog 65 #[.int .i64 y] w fun e w' => e = .returned (.int .u64 (foldI y)) ∧ w = w' := by
  by_cases h : y < 0
  · go_enter Try.func65, Try.ntmps65
    go_wp2
    go_ret
    refine ⟨ret_int ?_, rfl⟩
    unfold foldI
    rw [if_pos h]
    omega
  · go_enter Try.func65, Try.ntmps65
    go_wp2
    go_ret
    refine ⟨ret_int ?_, rfl⟩
    unfold foldI
    rw [if_neg (by omega)]

theorem refUnfold_calls (x : Int) (w : World) (h1 : 0 ≤ x) (h2 : x ≤ 18446744073709551615) :
    Calls Try.prog 67 #[.int .u64 x] w fun e w' => e = .returned (.int .i64 (unfoldI x)) ∧ w = w' := by
  by_cases h : x % 2 = 1
  · have hb : (x % 2 == 0) = false := by simp; omega
    go_enter Try.func67, Try.ntmps67
    go_wp2
    go_ret
    refine ⟨ret_int ?_, rfl⟩
    unfold unfoldI
    rw [if_pos h]
  · have hb : (x % 2 == 0) = true := by simp; omega
    go_enter Try.func67, Try.ntmps67
    go_wp2
    go_ret
    refine ⟨ret_int ?_, rfl⟩
    unfold unfoldI
    rw [if_neg h]

end Go.Proofs.Yteaeedhhdnkldaa
