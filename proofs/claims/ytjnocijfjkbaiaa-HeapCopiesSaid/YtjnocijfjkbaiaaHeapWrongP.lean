/-
  WHAT HeapWrong ASKS: where it stands.
-/
import Derived.Test.YtjnocijfjkbaiaaHeapAwC
namespace Go.Proofs.Ytjnocijfjkbaiaa
open Go.RowKit Go.Shelf

/-- WHERE HeapWrong STANDS: the heap, the arrays, what Order gave. -/
structure WrAt (w wr : World) (q b g c : Nat) (K : Nat → Ky) (T : Nat → Bool) (l : List Int) (F : Nat → Prop) : Prop where
  heap : HA wr q F 24 (mKT K T)
  keys : KArr wr b K
  there : TArr wr (b + 1) T
  row : IR wr g c l
  below : Below w.heap.size w wr
theorem WrAt.to {w wr w' : World} {q b g c : Nat} {K : Nat → Ky} {T : Nat → Bool} {l : List Int} {F : Nat → Prop} (h : WrAt w wr q b g c K T l F) (hb : Below wr.heap.size wr w') : WrAt w w' q b g c K T l F :=
  ⟨h.heap.below hb, (hb.block _ (Array.getElem?_eq_some_iff.1 h.keys).1).trans h.keys, (hb.block _ (Array.getElem?_eq_some_iff.1 h.there).1).trans h.there, h.row.below hb, h.below.trans (hb.mono h.below.size)⟩
/-- TWO INTEGERS IN A BLOCK. -/
structure Two (w : World) (b : Nat) (p0 p1 : Int) : Prop where
  blk : ∃ ty, w.heap[b]? = some (.cells #[.int .i64 p0, .int .i64 p1] ty (0, 0))
theorem Two.to {w w' : World} {b : Nat} {p0 p1 : Int} (h : Two w b p0 p1) (hb : Below w.heap.size w w') : Two w' b p0 p1 := by
  obtain ⟨ty, e⟩ := h.blk
  exact ⟨ty, (hb.block _ (Array.getElem?_eq_some_iff.1 e).1).trans e⟩
theorem Two.cell {w : World} {b : Nat} {p0 p1 : Int} (h : Two w b p0 p1) (k : Nat) (hk : k < 2) : ∃ p, w.cell? ⟨b, k, none⟩ = some (.int .i64 p) ∧ (p = p0 ∨ p = p1) := by
  obtain ⟨ty, e⟩ := h.blk
  match k, hk with
  | 0, _ => exact ⟨p0, by simp [World.cell?, e], .inl rfl⟩
  | 1, _ => exact ⟨p1, by simp [World.cell?, e], .inr rfl⟩
/-- All that HeapWrong carries from world to world. -/
structure WrIn (w wr : World) (q b g c : Nat) (K : Nat → Ky) (T : Nat → Bool) (l : List Int) (F : Nat → Prop) (xa xb xc xd lb : Nat) (p0 p1 : Int) : Prop where
  here : WrAt w wr q b g c K T l F
  box : XBox wr w.heap.size xa xb xc xd
  two : Two wr lb p0 p1
theorem WrIn.to {w wr w' : World} {q b g c : Nat} {K : Nat → Ky} {T : Nat → Bool} {l : List Int} {F : Nat → Prop} {xa xb xc xd lb : Nat} {p0 p1 : Int} (h : WrIn w wr q b g c K T l F xa xb xc xd lb p0 p1) (hb : Below wr.heap.size wr w') : WrIn w w' q b g c K T l F xa xb xc xd lb p0 p1 :=
  ⟨h.here.to hb, h.box.to hb, h.two.to hb⟩
theorem two_new (w : World) (p0 p1 : Int) (ty : TypeId) : Two (w.alloc (.cells #[.int .i64 p0, .int .i64 p1] ty)) w.heap.size p0 p1 := ⟨ty, World.alloc_heap_new w _⟩
end Go.Proofs.Ytjnocijfjkbaiaa
