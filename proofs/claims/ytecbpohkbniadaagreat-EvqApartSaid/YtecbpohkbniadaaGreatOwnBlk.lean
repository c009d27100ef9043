/-
  WHAT A CHANGE THAT LEAVES ALL CELLS LEAVES: laws for ranges over iterators.
-/
import Derived.Test.YtecbpohkbniadaaGreatHeapMem
import Derived.RangeFuncNested
import Derived.RangeFuncBox
import Derived.RangeFuncCalls
import Derived.RangeFuncBound
import Derived.RangeFuncLeaves
namespace Go.Proofs.YtecbpohkbniadaaGreat
open Go Go.RowKit

/-- EACH BLOCK OF CELLS stays as it is. -/
def KeepsCells (W W' : World) : Prop := ∀ (k : Nat) (o : Obj), W.heap[k]? = some o → o.isCells = true → W'.heap[k]? = some o
theorem KeepsCells.of_grown {W W' : World} {row : Option Nat} (h : W.grownBy W' row) (hr : ∀ r, row = some r → ∃ o : Obj, W.heap[r]? = some o ∧ o.isCells = false) : KeepsCells W W' := fun k o hk ho => by
  refine (h.block k (Array.getElem?_eq_some_iff.1 hk).1 (fun e => ?_)).trans hk
  obtain ⟨o2, e2, e3⟩ := hr k e.symm
  rw [hk] at e2
  cases e2
  rw [ho] at e3
  cases e3
theorem ownFrom_cells {β : Type} {B : Nat} (I : β → World → Prop) (h : ∀ s W W', I s W → KeepsCells W W' → Below B W W' → I s W') (hB : ∀ s W, I s W → B ≤ W.heap.size) : OwnFrom B I := by
  intro s W W' row hs hg hr
  refine h s W W' hs (KeepsCells.of_grown hg fun r e => (hr r e).2) ⟨hg.os, hg.tape, hg.output, hg.size, fun k hk => ?_⟩
  refine hg.block k (Nat.lt_of_lt_of_le hk (hB s W hs)) (fun e => ?_)
  have := (hr k e.symm).1
  omega
/-- What turns blocks of cells alone keeps all others. -/
theorem keepsFrom_off {F : Nat → Prop} {B : Nat} {W W' : World} (h : Off F W W') (hF : ∀ (k : Nat) (o : Obj), F k → W.heap[k]? = some o → o.isCells = true) : KeepsFrom B W W' :=
  ⟨h.size, fun k o _ hk ho => (h.block k (Array.getElem?_eq_some_iff.1 hk).1 (fun hf => by rw [hF k o hf hk] at ho; cases ho)).trans hk⟩
end Go.Proofs.YtecbpohkbniadaaGreat
