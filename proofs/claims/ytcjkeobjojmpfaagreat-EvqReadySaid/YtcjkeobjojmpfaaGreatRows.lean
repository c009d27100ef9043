/-
  No cell of these rows narrows 'for every input' (looked for: loops, veiled, ifaces, maps, wideKeys, modest, calm, conditions, laid).
  DERIVED. THE GIVEN ROWS OF THIS SEAT. 5 by the template 'for every input the law returns true; each argument reads behind the call as it read before'; 0 by the template 'total and deterministic' (their statements: YtcjkeobjojmpfaaGreatTotals.lean).
  GIVEN WITH THE SEED: the statements are not yours to turn. If you find one false, say at which input.
  Laid BY PROGRAM, IN A SANDBOX (cutbox-rows.mjs): the forced cells as the released guide's own fill.sh prints them over the translation e7f4a460b06df1a5… (all of the seat's roots in one cut). By AI agents, Wed Nov 11 2026. No macro, syntax, notation, axiom, sorry.
-/
import Derived.Test.YtcjkeobjojmpfaaGreatChecked
import GoSem.Claim
import GoSem.ClaimJoined
import GoSem.ClaimMapViews
import Derived.JoinedTies
import Derived.KernelRfl
namespace Go.Proofs.YtcjkeobjojmpfaaGreat
/- THE CELL 'sum', in the pinned program and in every row, IS THE sha256 OF THE DUMP (.gsa) THAT YtcjkeobjojmpfaaGreatProg.lean LOADS. Nothing in Lean hashes anything: it is a label: what it is worth is what the hold of that sum in a sandbox is worth. -/
noncomputable def Tryz.pinned : Pinned := { name := "ytcjkeobjojmpfaagreat", sum := "e7f4a460b06df1a5b581bed4e064492b5bf0ad2965b10311831bc7ba081f75a5", checked := Tryz.checked }
namespace Rows
def none {H : Type} : Left H := { results := [], args := [] }

/-- 'fermatalaw10.EvqOrder': WHATEVER THE INPUT: true; the input reads as it did. -/
def evqOrderSpec : ChangeSpec := { name := "evqOrder", fn := fun _ => fun
  | [d1, d2] => { results := [.lit (.bool true)], args := [d1, d2] }
  | _ => none }
def evqOrderRow : OpenClaim := { program := "ytcjkeobjojmpfaagreat", sum := "e7f4a460b06df1a5b581bed4e064492b5bf0ad2965b10311831bc7ba081f75a5", func := "fermata/fermatalaw10.EvqOrder", spec := "evqOrder", inPlace := ["slices.overlaps[fermata/api.Event]"], unfollowed := true, recurses := true, plainKeys := false, apart := false }
def EvqOrderSaid : Prop := evqOrderRow.holds Tryz.pinned (OpenSpec.ofChange evqOrderSpec)

/-- ITS FALSE NEIGHBOUR: 'it returns false'. Refute it at one input. -/
def evqOrderWrong : ChangeSpec := { name := "evqOrder", fn := fun _ => fun
  | [d1, d2] => { results := [.lit (.bool false)], args := [d1, d2] }
  | _ => none }
def EvqOrderWrongFalsely : Prop := evqOrderRow.holds Tryz.pinned (OpenSpec.ofChange evqOrderWrong)

/-- 'fermatalaw10.EvqCuts': WHATEVER THE INPUT: true; the input reads as it did. -/
def evqCutsSpec : ChangeSpec := { name := "evqCuts", fn := fun _ => fun
  | [d1, d2, d3] => { results := [.lit (.bool true)], args := [d1, d2, d3] }
  | _ => none }
def evqCutsRow : OpenClaim := { program := "ytcjkeobjojmpfaagreat", sum := "e7f4a460b06df1a5b581bed4e064492b5bf0ad2965b10311831bc7ba081f75a5", func := "fermata/fermatalaw10.EvqCuts", spec := "evqCuts", inPlace := ["slices.overlaps[fermata/api.Event]"], unfollowed := true, recurses := true, plainKeys := false, apart := false }
def EvqCutsSaid : Prop := evqCutsRow.holds Tryz.pinned (OpenSpec.ofChange evqCutsSpec)

/-- ITS FALSE NEIGHBOUR: 'it returns false'. Refute it at one input. -/
def evqCutsWrong : ChangeSpec := { name := "evqCuts", fn := fun _ => fun
  | [d1, d2, d3] => { results := [.lit (.bool false)], args := [d1, d2, d3] }
  | _ => none }
def EvqCutsWrongFalsely : Prop := evqCutsRow.holds Tryz.pinned (OpenSpec.ofChange evqCutsWrong)

/-- 'fermatalaw10.EvqCancels': WHATEVER THE INPUT: true; the input reads as it did. -/
def evqCancelsSpec : ChangeSpec := { name := "evqCancels", fn := fun _ => fun
  | [d1, d2] => { results := [.lit (.bool true)], args := [d1, d2] }
  | _ => none }
def evqCancelsRow : OpenClaim := { program := "ytcjkeobjojmpfaagreat", sum := "e7f4a460b06df1a5b581bed4e064492b5bf0ad2965b10311831bc7ba081f75a5", func := "fermata/fermatalaw10.EvqCancels", spec := "evqCancels", inPlace := ["slices.overlaps[fermata/api.Event]"], unfollowed := true, recurses := true, plainKeys := false, apart := false }
def EvqCancelsSaid : Prop := evqCancelsRow.holds Tryz.pinned (OpenSpec.ofChange evqCancelsSpec)

/-- ITS FALSE NEIGHBOUR: 'it returns false'. Refute it at one input. -/
def evqCancelsWrong : ChangeSpec := { name := "evqCancels", fn := fun _ => fun
  | [d1, d2] => { results := [.lit (.bool false)], args := [d1, d2] }
  | _ => none }
def EvqCancelsWrongFalsely : Prop := evqCancelsRow.holds Tryz.pinned (OpenSpec.ofChange evqCancelsWrong)

/-- 'fermatalaw10.EvqReady': WHATEVER THE INPUT: true; the input reads as it did. -/
def evqReadySpec : ChangeSpec := { name := "evqReady", fn := fun _ => fun
  | [d1, d2, d3] => { results := [.lit (.bool true)], args := [d1, d2, d3] }
  | _ => none }
def evqReadyRow : OpenClaim := { program := "ytcjkeobjojmpfaagreat", sum := "e7f4a460b06df1a5b581bed4e064492b5bf0ad2965b10311831bc7ba081f75a5", func := "fermata/fermatalaw10.EvqReady", spec := "evqReady", inPlace := ["slices.overlaps[fermata/api.Event]"], unfollowed := true, recurses := true, plainKeys := false, apart := false }
def EvqReadySaid : Prop := evqReadyRow.holds Tryz.pinned (OpenSpec.ofChange evqReadySpec)

/-- ITS FALSE NEIGHBOUR: 'it returns false'. Refute it at one input. -/
def evqReadyWrong : ChangeSpec := { name := "evqReady", fn := fun _ => fun
  | [d1, d2, d3] => { results := [.lit (.bool false)], args := [d1, d2, d3] }
  | _ => none }
def EvqReadyWrongFalsely : Prop := evqReadyRow.holds Tryz.pinned (OpenSpec.ofChange evqReadyWrong)

/-- 'fermatalaw10.EvqWrong': WHATEVER THE INPUT: true; the input reads as it did. -/
def evqWrongSpec : ChangeSpec := { name := "evqWrong", fn := fun _ => fun
  | [d1, d2, d3, d4] => { results := [.lit (.bool true)], args := [d1, d2, d3, d4] }
  | _ => none }
def evqWrongRow : OpenClaim := { program := "ytcjkeobjojmpfaagreat", sum := "e7f4a460b06df1a5b581bed4e064492b5bf0ad2965b10311831bc7ba081f75a5", func := "fermata/fermatalaw10.EvqWrong", spec := "evqWrong", inPlace := ["slices.overlaps[fermata/api.Event]"], unfollowed := true, recurses := true, plainKeys := false, apart := false }
def EvqWrongSaid : Prop := evqWrongRow.holds Tryz.pinned (OpenSpec.ofChange evqWrongSpec)

/-- ITS FALSE NEIGHBOUR: 'it returns false'. Refute it at one input. -/
def evqWrongWrong : ChangeSpec := { name := "evqWrong", fn := fun _ => fun
  | [d1, d2, d3, d4] => { results := [.lit (.bool false)], args := [d1, d2, d3, d4] }
  | _ => none }
def EvqWrongWrongFalsely : Prop := evqWrongRow.holds Tryz.pinned (OpenSpec.ofChange evqWrongWrong)

/- THE SECOND FORM. 'bulk': how many values and letters a reading holds, each counted each time it is reached (what is shared counts as often as it is met; a slice's spare places count too). A statement '..UptoSaid' is the law's where the arguments, and the package variables that the reading takes, are together of bulk at most 1048576: NARROWER than '..Said'. Prove '..Said' where nothing that the law and all that it calls make is longer than what came in: it says more and counts as full. Else prove '..UptoSaid'. A law counts once. -/
mutual
def uptoBulk {H : Type} : DataW H → Nat
  | .lit (.string bytes) => bytes.length + 1
  | .lit _ => 1
  | .nil => 1
  | .ptr d => uptoBulk d + 1
  | .slice elems spare => uptoBulkAll elems + uptoBulkAll spare + 1
  | .agg parts => uptoBulkAll parts + 1
  | .iface _ d => uptoBulk d + 1
  | .map entries => uptoBulkEntries entries + 1
  | .held _ => 1
def uptoBulkAll {H : Type} : List (DataW H) → Nat
  | [] => 0
  | d :: r => uptoBulk d + uptoBulkAll r
def uptoBulkEntries {H : Type} : List (Lit × DataW H) → Nat
  | [] => 0
  | x :: r => uptoBulkEntry x + uptoBulkEntries r
def uptoBulkEntry {H : Type} : Lit × DataW H → Nat
  | (.string bytes, d) => bytes.length + uptoBulk d + 1
  | (_, d) => uptoBulk d + 1
 end
def uptoSmall : (H : Type) → List (DataW H) → Bool := fun _ ds => decide (uptoBulkAll ds ≤ 1048576)
def OpenSpec.upto (s : _root_.Go.ChangeSpec) : _root_.Go.OpenSpec := { _root_.Go.OpenSpec.ofChange s with cond := some uptoSmall }

/-- 'fermatalaw10.EvqOrder', WHERE WHAT IT READS IS OF BULK AT MOST 1048576: true; the input reads as it did. -/
def evqOrderUptoRow : OpenClaim := { program := "ytcjkeobjojmpfaagreat", sum := "e7f4a460b06df1a5b581bed4e064492b5bf0ad2965b10311831bc7ba081f75a5", func := "fermata/fermatalaw10.EvqOrder", spec := "evqOrder", inPlace := ["slices.overlaps[fermata/api.Event]"], unfollowed := true, recurses := true, plainKeys := false, apart := false, narrowed := true }
def EvqOrderUptoSaid : Prop := evqOrderUptoRow.holds Tryz.pinned (OpenSpec.upto evqOrderSpec)

/-- 'fermatalaw10.EvqCuts', WHERE WHAT IT READS IS OF BULK AT MOST 1048576: true; the input reads as it did. -/
def evqCutsUptoRow : OpenClaim := { program := "ytcjkeobjojmpfaagreat", sum := "e7f4a460b06df1a5b581bed4e064492b5bf0ad2965b10311831bc7ba081f75a5", func := "fermata/fermatalaw10.EvqCuts", spec := "evqCuts", inPlace := ["slices.overlaps[fermata/api.Event]"], unfollowed := true, recurses := true, plainKeys := false, apart := false, narrowed := true }
def EvqCutsUptoSaid : Prop := evqCutsUptoRow.holds Tryz.pinned (OpenSpec.upto evqCutsSpec)

/-- 'fermatalaw10.EvqCancels', WHERE WHAT IT READS IS OF BULK AT MOST 1048576: true; the input reads as it did. -/
def evqCancelsUptoRow : OpenClaim := { program := "ytcjkeobjojmpfaagreat", sum := "e7f4a460b06df1a5b581bed4e064492b5bf0ad2965b10311831bc7ba081f75a5", func := "fermata/fermatalaw10.EvqCancels", spec := "evqCancels", inPlace := ["slices.overlaps[fermata/api.Event]"], unfollowed := true, recurses := true, plainKeys := false, apart := false, narrowed := true }
def EvqCancelsUptoSaid : Prop := evqCancelsUptoRow.holds Tryz.pinned (OpenSpec.upto evqCancelsSpec)

/-- 'fermatalaw10.EvqReady', WHERE WHAT IT READS IS OF BULK AT MOST 1048576: true; the input reads as it did. -/
def evqReadyUptoRow : OpenClaim := { program := "ytcjkeobjojmpfaagreat", sum := "e7f4a460b06df1a5b581bed4e064492b5bf0ad2965b10311831bc7ba081f75a5", func := "fermata/fermatalaw10.EvqReady", spec := "evqReady", inPlace := ["slices.overlaps[fermata/api.Event]"], unfollowed := true, recurses := true, plainKeys := false, apart := false, narrowed := true }
def EvqReadyUptoSaid : Prop := evqReadyUptoRow.holds Tryz.pinned (OpenSpec.upto evqReadySpec)

/-- 'fermatalaw10.EvqWrong', WHERE WHAT IT READS IS OF BULK AT MOST 1048576: true; the input reads as it did. -/
def evqWrongUptoRow : OpenClaim := { program := "ytcjkeobjojmpfaagreat", sum := "e7f4a460b06df1a5b581bed4e064492b5bf0ad2965b10311831bc7ba081f75a5", func := "fermata/fermatalaw10.EvqWrong", spec := "evqWrong", inPlace := ["slices.overlaps[fermata/api.Event]"], unfollowed := true, recurses := true, plainKeys := false, apart := false, narrowed := true }
def EvqWrongUptoSaid : Prop := evqWrongUptoRow.holds Tryz.pinned (OpenSpec.upto evqWrongSpec)

end Rows
end Go.Proofs.YtcjkeobjojmpfaaGreat
