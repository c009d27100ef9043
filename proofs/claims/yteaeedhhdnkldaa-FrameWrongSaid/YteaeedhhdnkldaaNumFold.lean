/-
  CONTRACTS of num.Fold, num.Unfold and of the documents' own Fold and Unfold: each returns what the plain functions say; the world is left alone.
-/
import Derived.Test.YteaeedhhdnkldaaProg
import Derived.Handy
import Derived.WalkSpells
import Derived.WalkLawsBesides
import Derived.Lib.Hide
namespace Go.Proofs.Yteaeedhhdnkldaa
open Go.RowKit

theorem ret_int {k : IntKind} {a b : Int} (h : a = b) : Ending.returned (.int k a) = .returned (.int k b) := by rw [h]

/-- The fold of a signed number. -/
def foldI (y : Int) : Int := if y < 0 then -2 * y - 1 else 2 * y
def unfoldI (x : Int) : Int := if x % 2 = 1 then -(x / 2) - 1 else x / 2

theorem fold_calls (y : Int) (w : World) (h1 : -9223372036854775808 ≤ y) (h2 : y ≤ 9223372036854775807) :
    Calls Try.prog 64 #[.int .i64 y] w fun e w' => e = .returned (.int .u64 (foldI y)) ∧ w = w' := by
  by_cases h : y < 0
  · go_enter Try.func64, Try.ntmps64
    go_wp2
    go_ret
    refine ⟨ret_int ?_, rfl⟩
    unfold foldI
    rw [if_pos h]
    omega
  · go_enter Try.func64, Try.ntmps64
    go_wp2
    go_ret
    refine ⟨ret_int ?_, rfl⟩
    unfold foldI
    rw [if_neg (by omega)]

theorem unfold_calls (x : Int) (w : World) (h1 : 0 ≤ x) (h2 : x ≤ 18446744073709551615) :
    Calls Try.prog 66 #[.int .u64 x] w fun e w' => e = .returned (.int .i64 (unfoldI x)) ∧ w = w' := by
  by_cases h : x % 2 = 1
  · have hb : (x % 2 == 1) = true := by simpa using h
    go_enter Try.func66, Try.ntmps66
    go_wp2
    go_ret
    refine ⟨ret_int ?_, rfl⟩
    unfold unfoldI
    rw [if_pos h]
  · have hb : (x % 2 == 1) = false := by simpa using h
    go_enter Try.func66, Try.ntmps66
    go_wp2
    go_ret
    refine ⟨ret_int ?_, rfl⟩
    unfold unfoldI
    rw [if_neg h]

/-! The folds as numbers. -/
theorem foldI_range (y : Int) (h1 : -9223372036854775808 ≤ y) (h2 : y ≤ 9223372036854775807) : 0 ≤ foldI y ∧ foldI y ≤ 18446744073709551615 := by
  unfold foldI; split <;> omega
theorem unfoldI_range (x : Int) (h1 : 0 ≤ x) (h2 : x ≤ 18446744073709551615) : -9223372036854775808 ≤ unfoldI x ∧ unfoldI x ≤ 9223372036854775807 := by
  unfold unfoldI; split <;> omega
theorem unfold_foldI (y : Int) : unfoldI (foldI y) = y := by
  unfold foldI unfoldI; split <;> split <;> omega
theorem fold_unfoldI (x : Int) (h1 : 0 ≤ x) : foldI (unfoldI x) = x := by
  unfold foldI unfoldI; split <;> split <;> omega
end Go.Proofs.Yteaeedhhdnkldaa
