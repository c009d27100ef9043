/-
  No cell of these rows narrows 'for every input' (looked for: loops, veiled, ifaces, maps, wideKeys, modest, calm, conditions, laid).
  DERIVED. THE GIVEN ROWS OF THIS SEAT. 4 by the template 'for every input the law returns true; each argument reads behind the call as it read before'; 0 by the template 'total and deterministic' (their statements: YtloplephdogbhaaTotals.lean).
  GIVEN WITH THE SEED: the statements are not yours to turn. If you find one false, say at which input.
  Laid BY PROGRAM, IN A SANDBOX (cutbox-rows.mjs): the forced cells as the released guide's own fill.sh prints them over the translation 6cecc4bb829d95a7… (all of the seat's roots in one cut). By AI agents, Wed Nov 11 2026. No macro, syntax, notation, axiom, sorry.
-/
import Derived.Test.YtloplephdogbhaaChecked
import GoSem.Claim
import GoSem.ClaimJoined
import GoSem.ClaimMapViews
import Derived.JoinedTies
import Derived.KernelRfl
namespace Go.Proofs.Ytloplephdogbhaa
/- THE CELL 'sum', in the pinned program and in every row, IS THE sha256 OF THE DUMP (.gsa) THAT YtloplephdogbhaaProg.lean LOADS. Nothing in Lean hashes anything: it is a label: what it is worth is what the hold of that sum in a sandbox is worth. -/
noncomputable def Try.pinned : Pinned := { name := "ytloplephdogbhaa", sum := "6cecc4bb829d95a7235425cf26bbe62e01ad7060570ba2f8a9a06050fa5af397", checked := Try.checked }
namespace Rows
def none {H : Type} : Left H := { results := [], args := [] }

/-- 'fermatalaw10.EvqRoom': WHATEVER THE INPUT: true; the input reads as it did. -/
def evqRoomSpec : ChangeSpec := { name := "evqRoom", fn := fun _ => fun
  | [d1, d2] => { results := [.lit (.bool true)], args := [d1, d2] }
  | _ => none }
def evqRoomRow : OpenClaim := { program := "ytloplephdogbhaa", sum := "6cecc4bb829d95a7235425cf26bbe62e01ad7060570ba2f8a9a06050fa5af397", func := "fermata/fermatalaw10.EvqRoom", spec := "evqRoom", inPlace := ["slices.overlaps[fermata/api.Event]"], unfollowed := true, recurses := true, plainKeys := false, apart := false }
def EvqRoomSaid : Prop := evqRoomRow.holds Try.pinned (OpenSpec.ofChange evqRoomSpec)

/-- ITS FALSE NEIGHBOUR: 'it returns false'. Refute it at one input. -/
def evqRoomWrong : ChangeSpec := { name := "evqRoom", fn := fun _ => fun
  | [d1, d2] => { results := [.lit (.bool false)], args := [d1, d2] }
  | _ => none }
def EvqRoomWrongFalsely : Prop := evqRoomRow.holds Try.pinned (OpenSpec.ofChange evqRoomWrong)

/-- 'fermatalaw11.MergeTells': WHATEVER THE INPUT: true; the input reads as it did. -/
def mergeTellsSpec : ChangeSpec := { name := "mergeTells", fn := fun _ => fun
  | [d] => { results := [.lit (.bool true)], args := [d] }
  | _ => none }
def mergeTellsRow : OpenClaim := { program := "ytloplephdogbhaa", sum := "6cecc4bb829d95a7235425cf26bbe62e01ad7060570ba2f8a9a06050fa5af397", func := "fermata/fermatalaw11.MergeTells", spec := "mergeTells", unfollowed := true, recurses := true, plainKeys := false, apart := false }
def MergeTellsSaid : Prop := mergeTellsRow.holds Try.pinned (OpenSpec.ofChange mergeTellsSpec)

/-- ITS FALSE NEIGHBOUR: 'it returns false'. Refute it at one input. -/
def mergeTellsWrong : ChangeSpec := { name := "mergeTells", fn := fun _ => fun
  | [d] => { results := [.lit (.bool false)], args := [d] }
  | _ => none }
def MergeTellsWrongFalsely : Prop := mergeTellsRow.holds Try.pinned (OpenSpec.ofChange mergeTellsWrong)

/-- 'fermatalaw11.MergeLists': WHATEVER THE INPUT: true; the input reads as it did. -/
def mergeListsSpec : ChangeSpec := { name := "mergeLists", fn := fun _ => fun
  | [d1, d2, d3, d4] => { results := [.lit (.bool true)], args := [d1, d2, d3, d4] }
  | _ => none }
def mergeListsRow : OpenClaim := { program := "ytloplephdogbhaa", sum := "6cecc4bb829d95a7235425cf26bbe62e01ad7060570ba2f8a9a06050fa5af397", func := "fermata/fermatalaw11.MergeLists", spec := "mergeLists", unfollowed := true, recurses := true, plainKeys := false, apart := false }
def MergeListsSaid : Prop := mergeListsRow.holds Try.pinned (OpenSpec.ofChange mergeListsSpec)

/-- ITS FALSE NEIGHBOUR: 'it returns false'. Refute it at one input. -/
def mergeListsWrong : ChangeSpec := { name := "mergeLists", fn := fun _ => fun
  | [d1, d2, d3, d4] => { results := [.lit (.bool false)], args := [d1, d2, d3, d4] }
  | _ => none }
def MergeListsWrongFalsely : Prop := mergeListsRow.holds Try.pinned (OpenSpec.ofChange mergeListsWrong)

/-- 'fermatalaw11.MergeSmall': WHATEVER THE INPUT: true; the input reads as it did. -/
def mergeSmallSpec : ChangeSpec := { name := "mergeSmall", fn := fun _ => fun
  | [] => { results := [.lit (.bool true)], args := [] }
  | _ => none }
def mergeSmallRow : OpenClaim := { program := "ytloplephdogbhaa", sum := "6cecc4bb829d95a7235425cf26bbe62e01ad7060570ba2f8a9a06050fa5af397", func := "fermata/fermatalaw11.MergeSmall", spec := "mergeSmall", unfollowed := true, recurses := true, plainKeys := false, apart := false }
def MergeSmallSaid : Prop := mergeSmallRow.holds Try.pinned (OpenSpec.ofChange mergeSmallSpec)

/-- ITS FALSE NEIGHBOUR: 'it returns false'. Refute it at one input. -/
def mergeSmallWrong : ChangeSpec := { name := "mergeSmall", fn := fun _ => fun
  | [] => { results := [.lit (.bool false)], args := [] }
  | _ => none }
def MergeSmallWrongFalsely : Prop := mergeSmallRow.holds Try.pinned (OpenSpec.ofChange mergeSmallWrong)

/- THE SECOND FORM. 'bulk': how many values and letters a reading holds, each counted each time it is reached (what is shared counts as often as it is met; a slice's spare places count too). A statement '..UptoSaid' is the law's where the arguments, and the package variables that the reading takes, are together of bulk at most 1048576: NARROWER than '..Said'. Prove '..Said' where nothing that the law and all that it calls make is longer than what came in: it says more and counts as full. Else prove '..UptoSaid'. A law counts once. -/
mutual
def uptoBulk {H : Type} : DataW H → Nat
  | .lit (.string bytes) => bytes.length + 1
  | .lit _ => 1
  | .nil => 1
  | .ptr d => uptoBulk d + 1
  | .slice elems spare => uptoBulkAll elems + uptoBulkAll spare + 1
  | .agg parts => uptoBulkAll parts + 1
  | .iface _ d => uptoBulk d + 1
  | .map entries => uptoBulkEntries entries + 1
  | .held _ => 1
def uptoBulkAll {H : Type} : List (DataW H) → Nat
  | [] => 0
  | d :: r => uptoBulk d + uptoBulkAll r
def uptoBulkEntries {H : Type} : List (Lit × DataW H) → Nat
  | [] => 0
  | x :: r => uptoBulkEntry x + uptoBulkEntries r
def uptoBulkEntry {H : Type} : Lit × DataW H → Nat
  | (.string bytes, d) => bytes.length + uptoBulk d + 1
  | (_, d) => uptoBulk d + 1
 end
def uptoSmall : (H : Type) → List (DataW H) → Bool := fun _ ds => decide (uptoBulkAll ds ≤ 1048576)
def OpenSpec.upto (s : _root_.Go.ChangeSpec) : _root_.Go.OpenSpec := { _root_.Go.OpenSpec.ofChange s with cond := some uptoSmall }

/-- 'fermatalaw10.EvqRoom', WHERE WHAT IT READS IS OF BULK AT MOST 1048576: true; the input reads as it did. -/
def evqRoomUptoRow : OpenClaim := { program := "ytloplephdogbhaa", sum := "6cecc4bb829d95a7235425cf26bbe62e01ad7060570ba2f8a9a06050fa5af397", func := "fermata/fermatalaw10.EvqRoom", spec := "evqRoom", inPlace := ["slices.overlaps[fermata/api.Event]"], unfollowed := true, recurses := true, plainKeys := false, apart := false, narrowed := true }
def EvqRoomUptoSaid : Prop := evqRoomUptoRow.holds Try.pinned (OpenSpec.upto evqRoomSpec)

/-- 'fermatalaw11.MergeTells', WHERE WHAT IT READS IS OF BULK AT MOST 1048576: true; the input reads as it did. -/
def mergeTellsUptoRow : OpenClaim := { program := "ytloplephdogbhaa", sum := "6cecc4bb829d95a7235425cf26bbe62e01ad7060570ba2f8a9a06050fa5af397", func := "fermata/fermatalaw11.MergeTells", spec := "mergeTells", unfollowed := true, recurses := true, plainKeys := false, apart := false, narrowed := true }
def MergeTellsUptoSaid : Prop := mergeTellsUptoRow.holds Try.pinned (OpenSpec.upto mergeTellsSpec)

/-- 'fermatalaw11.MergeLists', WHERE WHAT IT READS IS OF BULK AT MOST 1048576: true; the input reads as it did. -/
def mergeListsUptoRow : OpenClaim := { program := "ytloplephdogbhaa", sum := "6cecc4bb829d95a7235425cf26bbe62e01ad7060570ba2f8a9a06050fa5af397", func := "fermata/fermatalaw11.MergeLists", spec := "mergeLists", unfollowed := true, recurses := true, plainKeys := false, apart := false, narrowed := true }
def MergeListsUptoSaid : Prop := mergeListsUptoRow.holds Try.pinned (OpenSpec.upto mergeListsSpec)

/-- 'fermatalaw11.MergeSmall', WHERE WHAT IT READS IS OF BULK AT MOST 1048576: true; the input reads as it did. -/
def mergeSmallUptoRow : OpenClaim := { program := "ytloplephdogbhaa", sum := "6cecc4bb829d95a7235425cf26bbe62e01ad7060570ba2f8a9a06050fa5af397", func := "fermata/fermatalaw11.MergeSmall", spec := "mergeSmall", unfollowed := true, recurses := true, plainKeys := false, apart := false, narrowed := true }
def MergeSmallUptoSaid : Prop := mergeSmallUptoRow.holds Try.pinned (OpenSpec.upto mergeSmallSpec)

end Rows
end Go.Proofs.Ytloplephdogbhaa
