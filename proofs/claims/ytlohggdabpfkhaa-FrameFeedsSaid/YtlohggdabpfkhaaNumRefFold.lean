/-
  CONTRACTS of the reference's Fold and Unfold (layer 1): each returns what the plain functions say; the world is left alone.
-/
import Derived.Test.YtlohggdabpfkhaaNumFold
namespace Go.Proofs.Ytlohggdabpfkhaa
open Go.RowKit

end Go.Proofs.Ytlohggdabpfkhaa
