/-
  CONTRACT of the examples of layer 1 (fermatalaw01.awake): they hold; nothing that was there is written.
-/
import Derived.Test.YtlohggdabpfkhaaNumSplitB
import Derived.Test.YtlohggdabpfkhaaNumCmp
namespace Go.Proofs.Ytlohggdabpfkhaa
open Go.RowKit Pl

theorem below_drewN' {w w' : World} (h : ∃ n, w' = w.drewN n) : Below w.heap.size w w' := by
  obtain ⟨n, rfl⟩ := h
  exact ⟨rfl, rfl, rfl, Nat.le_refl _, fun _ _ => rfl⟩
theorem sameBytes_b (v v' : Value) (l m : List Nat) (w : World) (h : BRow w v l) (h' : BRow w v' m) :
    Calls Try.prog 65 #[v, v'] w fun e w' => e = .returned (.bool (decide (l = m))) ∧ Below w.heap.size w w' :=
  (sameBytes_calls v v' l m w h h').mono fun _ _ ⟨he, hw⟩ => ⟨he, below_drewN' hw⟩
theorem AllB.of {l : List Nat} (h : (l.all fun d => decide (d < 256)) = true) : AllB l := by
  intro d hd
  have := List.all_eq_true.1 h d hd
  simpa using this
theorem BRow.litAt (w : World) (l : List Nat) (t : TypeId) (cs : Array Value) (g n : Nat) (hcs : cs = (l.map fun d : Nat => Value.int .u8 d).toArray) (hg : g = w.heap.size) (hn : n = l.length) (hb : AllB l) (hl : l.length ≤ 1000) : BRow (w.alloc (.cells cs t)) (.slice (some ⟨g, 0, none⟩) n n) l := by
  subst hcs hg hn; exact BRow.lit w l t hb hl
theorem NRow.litAt (w : World) (l : List Nat) (t : TypeId) (cs : Array Value) (g n : Nat) (hcs : cs = (l.map fun d : Nat => Value.int .u64 d).toArray) (hg : g = w.heap.size) (hn : n = l.length) (hb : ∀ x ∈ l, x < 18446744073709551616) (hl : l.length ≤ 1000) : NRow (w.alloc (.cells cs t)) (.slice (some ⟨g, 0, none⟩) n n) l := by
  subst hcs hg hn; exact NRow.lit w l t hb hl

theorem read_lit (W : World) (l : List Nat) (t : TypeId) (cs : Array Value) (g n : Nat) (r : Nat × Nat × Nat) (hcs : cs = (l.map fun d : Nat => Value.int .u8 d).toArray) (hg : g = W.heap.size) (hn : n = l.length) (hb : AllB l) (hl : l.length ≤ 1000) (hr : rdAt l 0 = r) :
    Calls Try.prog 126 #[.slice (some ⟨g, 0, none⟩) n n, .int .i64 0] (W.alloc (.cells cs t)) fun e w' => e = .returned (.tuple #[.int .u64 r.1, .int .i64 r.2.1, .int .i64 r.2.2]) ∧ W.alloc (.cells cs t) = w' := by
  have := read_calls _ l _ (BRow.litAt W l t cs g n hcs hg hn hb hl) 0 (by omega) (by omega)
  rw [hr] at this
  exact this
theorem int_lit (W : World) (l : List Nat) (t : TypeId) (cs : Array Value) (g n : Nat) (least most : Int) (r : Int × Nat × Nat) (hcs : cs = (l.map fun d : Nat => Value.int .u8 d).toArray) (hg : g = W.heap.size) (hn : n = l.length) (hb : AllB l) (hl : l.length ≤ 1000) (hr : intN l 0 least most = r) :
    Calls Try.prog 133 #[.slice (some ⟨g, 0, none⟩) n n, .int .i64 0, .int .i64 least, .int .i64 most] (W.alloc (.cells cs t)) fun e w' => e = .returned (.tuple #[.int .i64 r.1, .int .i64 r.2.1, .int .i64 r.2.2]) ∧ W.alloc (.cells cs t) = w' := by
  have := int_calls _ l _ (BRow.litAt W l t cs g n hcs hg hn hb hl) 0 (by omega) (by omega) least most
  rw [hr] at this
  exact this
end Go.Proofs.Ytlohggdabpfkhaa
