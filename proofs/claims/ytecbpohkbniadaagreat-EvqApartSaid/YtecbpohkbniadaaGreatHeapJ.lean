/-
  CONTRACTS of heap's Take and Change.
-/
import Derived.Test.YtecbpohkbniadaaGreatHeapI
namespace Go.Proofs.YtecbpohkbniadaaGreat
open Go.RowKit Go.Shelf

/-- THE BLOCK p IS A BOX with the key k. -/
abbrev KBox (w : World) (p : Nat) (k : Ky) : Prop := w.heap[p]? = some (.cells #[.int .i64 k.1, .int .i64 k.2.1, .int .i64 k.2.2] 26 (0, 0))
theorem KBox.cells {w : World} {p : Nat} {k : Ky} (h : KBox w p k) : w.cell? ⟨p, 0, none⟩ = some (.int .i64 k.1) ∧ w.cell? ⟨p, 1, none⟩ = some (.int .i64 k.2.1) ∧ w.cell? ⟨p, 2, none⟩ = some (.int .i64 k.2.2) ∧ ∀ i, w.frozen? ⟨p, i, none⟩ = false :=
  ⟨by simp [World.cell?, h], by simp [World.cell?, h], by simp [World.cell?, h], fun i => by simp [World.frozen?, h]⟩
theorem KBox.lt {w : World} {p : Nat} {k : Ky} (h : KBox w p k) : p < w.heap.size := (Array.getElem?_eq_some_iff.1 h).1
theorem three_0 (w : World) (o1 o2 o3 : Obj) : (((w.alloc o1).alloc o2).alloc o3).heap[w.heap.size]? = some o1 := by
  rw [Below.heap_alloc _ _ _ (by simp; omega), Below.heap_alloc _ _ _ (by simp)]; exact World.alloc_heap_new w _
theorem three_1 (w : World) (o1 o2 o3 : Obj) : (((w.alloc o1).alloc o2).alloc o3).heap[w.heap.size + 1]? = some o2 := by
  rw [Below.heap_alloc _ _ _ (by simp)]
  have := World.alloc_heap_new (w.alloc o1) o2
  rwa [World.size_alloc] at this
theorem three_2 (w : World) (o1 o2 o3 : Obj) : (((w.alloc o1).alloc o2).alloc o3).heap[w.heap.size + 1 + 1]? = some o3 := by
  have := World.alloc_heap_new ((w.alloc o1).alloc o2) o3
  rwa [World.size_alloc, World.size_alloc] at this
section
variable {w : World} {q : Nat} {F : Nat → Prop} {n : Nat} {M : Mp}
end
end Go.Proofs.YtecbpohkbniadaaGreat
