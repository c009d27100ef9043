/-
  CONTRACT of num.All: the forms of a list's numbers, one behind the other, in new memory; nothing that was there is written.
-/
import Derived.Test.YteaeedhhdnkldaaNumAppendB
import Derived.Test.YteaeedhhdnkldaaSame
namespace Go.Proofs.Yteaeedhhdnkldaa
open Go.RowKit Pl

def allF (l : List Nat) : List Nat := l.flatMap form
theorem allF_length (l : List Nat) : (allF l).length ≤ 9 * l.length := by
  induction l with
  | nil => simp [allF]
  | cons x l ih => have := form_length x; simp [allF] at ih ⊢; omega
theorem allF_allB (l : List Nat) : AllB (allF l) := by
  intro d hd
  simp only [allF, List.mem_flatMap] at hd
  obtain ⟨x, _, h⟩ := hd
  exact form_allB x d h
theorem allF_snoc (l : List Nat) (x : Nat) : allF (l ++ [x]) = allF l ++ form x := by simp [allF]
theorem take_snoc_gt {l : List Nat} (k : Nat) (h : k < l.length) : l.take (k + 1) = l.take k ++ [gt l k] := by
  rw [List.take_succ_eq_append_getElem h]; simp [gt, h]
theorem gt_mem {l : List Nat} {k : Nat} (h : k < l.length) : gt l k ∈ l := by simp [gt, h]

set_option maxRecDepth 100000 in
set_option maxHeartbeats 1000000 in
theorem all_calls (v : Value) (l : List Nat) (w : World) (h : NRow w v l) (hlen : l.length ≤ 10000000000000) :
    Calls Try.prog 70 #[v] w fun e w' => ∃ v', e = .returned v' ∧ Own8 w' w.heap.size v' (allF l) ∧ Below w.heap.size w w' := by
  obtain ⟨hb, ⟨a, c, rfl, rfl, hac⟩ | ⟨b, off, cap, rfl, hc, hm, hcell⟩⟩ := h
  · clear hac
    go_enter Try.func70, Try.ntmps70
    go_wp2
    refine wp_loop_rounds 1 ?_
    rw [rounds_succ]
    go_wp2
    go_ret
    exact ⟨_, rfl, own8_nil _ _, Below.refl _ _⟩
  · have hblk : ∀ i, i < l.length → b < w.heap.size := fun i hi => block_lt_of_cell (hcell i hi)
    have hH := Lib.hid hcell; clear hcell
    have hK := Lib.hid hblk; clear hblk
    have hB := Lib.hid hb; clear hb
    unfold maxLen at hm
    go_enter Try.func70, Try.ntmps70
    go_wp2
    go_loopw [3, 8] (fun v3 i wr => ∃ k : Nat, k ≤ l.length ∧ i = .int .i64 k ∧ Own8 wr w.heap.size v3 (allF (l.take k)) ∧ Below w.heap.size w wr) (fun _ i _ => l.length - (intOf i).toNat)
    case atStart => exact ⟨0, by omega, rfl, own8_nil _ _, Below.refl _ _⟩
    case round =>
      obtain ⟨k, hk, rfl, hown, hbel⟩ := hrel
      have hO := Lib.hid hown; clear hown
      by_cases hlt : k < l.length
      · have hcell : wr.cell? ⟨b, off + k, none⟩ = some (.int .u64 (gt l k : Int)) := (hbel.cell (p := ⟨b, off + k, none⟩) (hK.out k hlt)).trans (hH.out k hlt)
        have hA := Lib.hid (append_calls (gt l k) (hB.out _ (gt_mem hlt)) wr w.heap.size hbel.size _ _ hO.out (by have := allF_length (l.take k); simp at this; omega))
        have hlt2 := Lib.hid (take_snoc_gt k hlt)
        go_wp2_with (go_at_call 62; refine hA.out.mono ?_; rintro e w' ⟨v2, rfl, hown2, hbel2⟩; have hO2 := Lib.hid hown2; clear hown2)
        go_roundw
        case rel => exact ⟨k + 1, by omega, by go_num, by rw [hlt2.out, allF_snoc]; exact hO2.out, hbel.trans hbel2⟩
        case measure => simp [intOf]; omega
      · obtain rfl : k = l.length := by omega
        have hO' := hO.out
        rw [List.take_length] at hO'
        have hO2 := Lib.hid hO'; clear hO' hO
        go_wp2
        go_ret
        exact ⟨_, rfl, hO2.out, hbel⟩

/-- An owned row reads as its bytes. -/
theorem BRow.of_own {w : World} {base : Nat} {v : Value} {l : List Nat} (h : Own8 w base v l) (hb : AllB l) : BRow w v l := by
  refine ⟨hb, ?_⟩
  obtain ⟨hlen, ⟨rfl, hn⟩ | ⟨g, cap, cur, rfl, h1, h2, h3, h4, h5, h6⟩⟩ := h
  · exact .inl ⟨none, 0, rfl, List.eq_nil_of_length_eq_zero hn, Nat.zero_le _⟩
  · refine .inr ⟨g, 0, cap, rfl, h3, h4, fun i hi => ?_⟩
    rw [Nat.zero_add, cell_of_row w g i cur _ (0, 0) h2]
    have e : (cur.toList.take (l.length * 1))[i]? = (l.map B8)[i]? := by rw [h6]
    rw [List.getElem?_take, if_pos (by omega)] at e
    simp only [Array.getElem?_toList] at e
    rw [e]
    simp [gt, hi, B8]
theorem BRow.below {w w' : World} {v : Value} {l : List Nat} (h : BRow w v l) (hb : Below w.heap.size w w') : BRow w' v l := by
  obtain ⟨ha, hn | ⟨b, off, cap, rfl, h1, h2, h3⟩⟩ := h
  · exact ⟨ha, .inl hn⟩
  · exact ⟨ha, .inr ⟨b, off, cap, rfl, h1, h2, fun i hi => (hb.cell (p := ⟨b, off + i, none⟩) (block_lt_of_cell (h3 i hi))).trans (h3 i hi)⟩⟩
theorem NRow.below {w w' : World} {v : Value} {l : List Nat} (h : NRow w v l) (hb : Below w.heap.size w w') : NRow w' v l := by
  obtain ⟨ha, hn | ⟨b, off, cap, rfl, h1, h2, h3⟩⟩ := h
  · exact ⟨ha, .inl hn⟩
  · exact ⟨ha, .inr ⟨b, off, cap, rfl, h1, h2, fun i hi => (hb.cell (p := ⟨b, off + i, none⟩) (block_lt_of_cell (h3 i hi))).trans (h3 i hi)⟩⟩
/-- A literal in a block that was just made. -/
theorem BRow.lit (w : World) (l : List Nat) (t : TypeId) (hb : AllB l) (hl : l.length ≤ 1000) : BRow (w.alloc (.cells (l.map fun d : Nat => Value.int .u8 d).toArray t)) (.slice (some ⟨w.heap.size, 0, none⟩) l.length l.length) l := by
  refine ⟨hb, .inr ⟨w.heap.size, 0, l.length, rfl, Nat.le_refl _, by unfold maxLen; omega, fun i hi => ?_⟩⟩
  rw [Nat.zero_add, cell_of_row _ _ i _ t (0, 0) (heap_alloc_new w _)]
  simp [gt, hi]
theorem NRow.lit (w : World) (l : List Nat) (t : TypeId) (hb : ∀ x ∈ l, x < 18446744073709551616) (hl : l.length ≤ 1000) : NRow (w.alloc (.cells (l.map fun d : Nat => Value.int .u64 d).toArray t)) (.slice (some ⟨w.heap.size, 0, none⟩) l.length l.length) l := by
  refine ⟨hb, .inr ⟨w.heap.size, 0, l.length, rfl, Nat.le_refl _, by unfold maxLen; omega, fun i hi => ?_⟩⟩
  rw [Nat.zero_add, cell_of_row _ _ i _ t (0, 0) (heap_alloc_new w _)]
  simp [gt, hi]
end Go.Proofs.Yteaeedhhdnkldaa
