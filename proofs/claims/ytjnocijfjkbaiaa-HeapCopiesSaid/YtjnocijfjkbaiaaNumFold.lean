/-
  CONTRACTS of num.Fold, num.Unfold and of the documents' own Fold and Unfold: each returns what the plain functions say; the world is left alone.
-/
import Derived.Test.YtjnocijfjkbaiaaProg
import Derived.Handy
import Derived.WalkSpells
import Derived.WalkLawsBesides
import Derived.Lib.Hide
namespace Go.Proofs.Ytjnocijfjkbaiaa
open Go.RowKit

theorem ret_int {k : IntKind} {a b : Int} (h : a = b) : Ending.returned (.int k a) = .returned (.int k b) := by rw [h]

/-- The fold of a signed number. -/
def foldI (y : Int) : Int := if y < 0 then -2 * y - 1 else 2 * y
def unfoldI (x : Int) : Int := if x % 2 = 1 then -(x / 2) - 1 else x / 2

/-! The folds as numbers. -/
theorem foldI_range (y : Int) (h1 : -9223372036854775808 ≤ y) (h2 : y ≤ 9223372036854775807) : 0 ≤ foldI y ∧ foldI y ≤ 18446744073709551615 := by
  unfold foldI; split <;> omega
theorem unfoldI_range (x : Int) (h1 : 0 ≤ x) (h2 : x ≤ 18446744073709551615) : -9223372036854775808 ≤ unfoldI x ∧ unfoldI x ≤ 9223372036854775807 := by
  unfold unfoldI; split <;> omega
theorem unfold_foldI (y : Int) : unfoldI (foldI y) = y := by
  unfold foldI unfoldI; split <;> split <;> omega
theorem fold_unfoldI (x : Int) (h1 : 0 ≤ x) : foldI (unfoldI x) = x := by
  unfold foldI unfoldI; split <;> split <;> omega
end Go.Proofs.Ytjnocijfjkbaiaa
