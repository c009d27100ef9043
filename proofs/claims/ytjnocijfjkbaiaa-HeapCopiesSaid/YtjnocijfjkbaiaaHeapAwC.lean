/-
  WHAT THE LAWS BEGIN WITH: awake, and the two arrays that made gives back, in boxes.
-/
import Derived.Test.YtjnocijfjkbaiaaHeapTreesP
namespace Go.Proofs.Ytjnocijfjkbaiaa
open Go.RowKit Go.Shelf

theorem two_rows (w : World) (K : Nat → Ky) (T : Nat → Bool) (a b : Array Value) (_ha : a.size = 72) (_hb : b.size = 24) :
    KArr ((((w.alloc (.cells a 53)).alloc (.cells b 54)).setRow w.heap.size (kcs K)).setRow (w.heap.size + 1) (tcs T)) w.heap.size K ∧
    TArr ((((w.alloc (.cells a 53)).alloc (.cells b 54)).setRow w.heap.size (kcs K)).setRow (w.heap.size + 1) (tcs T)) (w.heap.size + 1) T ∧
    Below w.heap.size w ((((w.alloc (.cells a 53)).alloc (.cells b 54)).setRow w.heap.size (kcs K)).setRow (w.heap.size + 1) (tcs T)) := by
  have h1 : ((w.alloc (.cells a 53)).alloc (.cells b 54)).heap[w.heap.size]? = some (.cells a 53 (0, 0)) := (Below.heap_alloc _ _ _ (by simp)).trans (World.alloc_heap_new w _)
  have h2 : ((w.alloc (.cells a 53)).alloc (.cells b 54)).heap[w.heap.size + 1]? = some (.cells b 54 (0, 0)) := by
    have := World.alloc_heap_new (w.alloc (.cells a 53)) (.cells b 54)
    rwa [World.size_alloc] at this
  refine ⟨(setRow_other _ _ _ _ (by omega)).trans (setRow_heap _ _ _ _ _ _ h1), setRow_heap _ _ _ _ _ _ ((setRow_other _ _ _ _ (by omega)).trans h2), ?_⟩
  exact below_setRow (below_setRow (((Below.refl _ w).alloc (Nat.le_refl _) _).alloc (by simp) _) (Nat.le_refl _) _) (by omega) _
end Go.Proofs.Ytjnocijfjkbaiaa
