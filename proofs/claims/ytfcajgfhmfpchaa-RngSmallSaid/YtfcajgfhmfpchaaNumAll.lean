/-
  CONTRACT of num.All: the forms of a list's numbers, one behind the other, in new memory; nothing that was there is written.
-/
import Derived.Test.YtfcajgfhmfpchaaNumAppendB
import Derived.Test.YtfcajgfhmfpchaaSame
namespace Go.Proofs.Ytfcajgfhmfpchaa
open Go.RowKit Pl

def allF (l : List Nat) : List Nat := l.flatMap form
theorem allF_length (l : List Nat) : (allF l).length ≤ 9 * l.length := by
  induction l with
  | nil => simp [allF]
  | cons x l ih => have := form_length x; simp [allF] at ih ⊢; omega
theorem allF_allB (l : List Nat) : AllB (allF l) := by
  intro d hd
  simp only [allF, List.mem_flatMap] at hd
  obtain ⟨x, _, h⟩ := hd
  exact form_allB x d h
theorem allF_snoc (l : List Nat) (x : Nat) : allF (l ++ [x]) = allF l ++ form x := by simp [allF]
theorem take_snoc_gt {l : List Nat} (k : Nat) (h : k < l.length) : l.take (k + 1) = l.take k ++ [gt l k] := by
  rw [List.take_succ_eq_append_getElem h]; simp [gt, h]
theorem gt_mem {l : List Nat} {k : Nat} (h : k < l.length) : gt l k ∈ l := by simp [gt, h]

/-- An owned row reads as its bytes. -/
theorem BRow.of_own {w : World} {base : Nat} {v : Value} {l : List Nat} (h : Own8 w base v l) (hb : AllB l) : BRow w v l := by
  refine ⟨hb, ?_⟩
  obtain ⟨hlen, ⟨rfl, hn⟩ | ⟨g, cap, cur, rfl, h1, h2, h3, h4, h5, h6⟩⟩ := h
  · exact .inl ⟨none, 0, rfl, List.eq_nil_of_length_eq_zero hn, Nat.zero_le _⟩
  · refine .inr ⟨g, 0, cap, rfl, h3, h4, fun i hi => ?_⟩
    rw [Nat.zero_add, cell_of_row w g i cur _ (0, 0) h2]
    have e : (cur.toList.take (l.length * 1))[i]? = (l.map B8)[i]? := by rw [h6]
    rw [List.getElem?_take, if_pos (by omega)] at e
    simp only [Array.getElem?_toList] at e
    rw [e]
    simp [gt, hi, B8]
theorem BRow.below {w w' : World} {v : Value} {l : List Nat} (h : BRow w v l) (hb : Below w.heap.size w w') : BRow w' v l := by
  obtain ⟨ha, hn | ⟨b, off, cap, rfl, h1, h2, h3⟩⟩ := h
  · exact ⟨ha, .inl hn⟩
  · exact ⟨ha, .inr ⟨b, off, cap, rfl, h1, h2, fun i hi => (hb.cell (p := ⟨b, off + i, none⟩) (block_lt_of_cell (h3 i hi))).trans (h3 i hi)⟩⟩
theorem NRow.below {w w' : World} {v : Value} {l : List Nat} (h : NRow w v l) (hb : Below w.heap.size w w') : NRow w' v l := by
  obtain ⟨ha, hn | ⟨b, off, cap, rfl, h1, h2, h3⟩⟩ := h
  · exact ⟨ha, .inl hn⟩
  · exact ⟨ha, .inr ⟨b, off, cap, rfl, h1, h2, fun i hi => (hb.cell (p := ⟨b, off + i, none⟩) (block_lt_of_cell (h3 i hi))).trans (h3 i hi)⟩⟩
/-- A literal in a block that was just made. -/
theorem BRow.lit (w : World) (l : List Nat) (t : TypeId) (hb : AllB l) (hl : l.length ≤ 1000) : BRow (w.alloc (.cells (l.map fun d : Nat => Value.int .u8 d).toArray t)) (.slice (some ⟨w.heap.size, 0, none⟩) l.length l.length) l := by
  refine ⟨hb, .inr ⟨w.heap.size, 0, l.length, rfl, Nat.le_refl _, by unfold maxLen; omega, fun i hi => ?_⟩⟩
  rw [Nat.zero_add, cell_of_row _ _ i _ t (0, 0) (heap_alloc_new w _)]
  simp [gt, hi]
theorem NRow.lit (w : World) (l : List Nat) (t : TypeId) (hb : ∀ x ∈ l, x < 18446744073709551616) (hl : l.length ≤ 1000) : NRow (w.alloc (.cells (l.map fun d : Nat => Value.int .u64 d).toArray t)) (.slice (some ⟨w.heap.size, 0, none⟩) l.length l.length) l := by
  refine ⟨hb, .inr ⟨w.heap.size, 0, l.length, rfl, Nat.le_refl _, by unfold maxLen; omega, fun i hi => ?_⟩⟩
  rw [Nat.zero_add, cell_of_row _ _ i _ t (0, 0) (heap_alloc_new w _)]
  simp [gt, hi]
end Go.Proofs.Ytfcajgfhmfpchaa
