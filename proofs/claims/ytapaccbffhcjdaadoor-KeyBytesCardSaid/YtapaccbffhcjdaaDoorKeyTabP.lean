/-
  FROM THE CONDITION OF A TIED ROW TO THE TABLE OF POWERS OF TEN; and what the frames of tied cards import.
-/
import Derived.Test.YtapaccbffhcjdaaDoorKeyText
import Derived.Test.YtapaccbffhcjdaaDoorKeyStructs
import Derived.Test.YtapaccbffhcjdaaDoorTie
import Derived.Test.YtapaccbffhcjdaaDoorCards
import Derived.Lay
import Derived.LaidOnce
import Derived.MakeChecks
import Derived.Lib.LaidTab
import Derived.Stop.LaidErr
import Derived.SevenTiedAt
namespace Go.Proofs.YtapaccbffhcjdaaDoor
open Go.RowKit Go.Shelf

set_option maxRecDepth 100000 in
theorem tab_of_laid {W : World} {a b : String × DataW Unit} {r : List (String × DataW Unit)} (h : laidMet Tryd.prog (a :: b :: ("internal/strconv.uint64pow10", Rows.laid_internal_strconv_uint64pow10) :: r) W) : Tab W := by
  have h2 : laidMet Tryd.prog (("internal/strconv.uint64pow10", Lib.tabData .u64 Lib.pow10Tab) :: r) W := h.tail.tail
  have hs : (Tryd.prog.globalNamed "internal/strconv.uint64pow10").isSome = true := by kernel_rfl
  obtain ⟨g, hg⟩ := Option.isSome_iff_exists.1 hs
  exact Lib.tabIs_of_head (g := g) (t := 161) (e := 30) (n := 20) hg (by
    have e : (Tryd.prog.globalNamed "internal/strconv.uint64pow10").bind (fun g => (Tryd.prog.globals[g]?).map (·.type)) = some 161 := by kernel_rfl
    rw [hg] at e
    exact e) Tryd.underlying161 Tryd.underlying30 (by kernel_rfl) (by kernel_rfl) h2
end Go.Proofs.YtapaccbffhcjdaaDoor
