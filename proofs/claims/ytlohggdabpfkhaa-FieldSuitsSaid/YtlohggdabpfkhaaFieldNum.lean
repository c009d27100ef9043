/-
  CONTRACTS of field.Number and field.Value: a number as a field, and back; nothing that was there is written.
-/
import Derived.Test.YtlohggdabpfkhaaFieldWrite
namespace Go.Proofs.Ytlohggdabpfkhaa
open Go.RowKit Pl

set_option maxRecDepth 100000 in
set_option maxHeartbeats 1000000 in
theorem fieldNumber_calls (t : Int) (x : Nat) (hx : x < 18446744073709551616) (w : World) :
    Calls Try.prog 67 #[.int .i64 t, .int .u64 x] w fun e w' => ∃ v', e = .returned (.agg #[.int .i64 t, v']) ∧ Own8 w' w.heap.size v' (form x) ∧ Below w.heap.size w w' := by
  go_enter Try.func67, Try.ntmps67
  go_wp2_with (go_at_call 99; refine (append_calls_g x hx _ w.heap.size (by simp) _ [] (own8_nil _ _) (by simp)).mono ?_; rintro e w1 ⟨v1, rfl, hown, hgr, hat⟩; rw [List.nil_append] at hown; obtain ⟨a1, c1, rfl⟩ := owns_shape hown; have hA := ((Below.refl w.heap.size w).alloc (Nat.le_refl _) (.cells #[.int .i64 0, .slice none 0 0] 25)); have HB := Lib.hid (hA.grown hgr hA.size (fun j hj => by simp [Value.ownBlock] at hj)); have hne := Lib.hid (at8_ne (F := w.heap.size) hat (by simp) (by simp [Value.ownBlock])); have hblk := hgr.block w.heap.size (by simp) (by simp [Value.ownBlock]); rw [World.alloc_heap_new] at hblk; have hf0 : ∀ i, w1.frozen? ⟨w.heap.size, i, none⟩ = false := fun i => by { simp [World.frozen?, hblk] }; have hf1 := hf0 0; have hf2 := hf0 1; have hc1 : w1.cell? ⟨w.heap.size, 0, none⟩ = some (.int .i64 0) := by { simp [World.cell?, hblk] }; have hc2 : w1.cell? ⟨w.heap.size, 1, none⟩ = some (.slice none 0 0) := by { simp [World.cell?, hblk] }; have HO := Lib.hid hown; have HK := Lib.hid hblk; clear hown hgr hat hA hblk hf0)
  refine bodyPost_ret (v := .agg #[.int .i64 t, .slice a1 (form x).length c1]) ?_ rfl ⟨_, rfl, ?_, ?_⟩
  · have hW := setCell_cells (setCell_cells HK.out 0 (.int .i64 t)) 1 (.slice a1 (form x).length c1)
    generalize (w1.setCell ⟨w.heap.size, 0, none⟩ (.int .i64 t)).setCell ⟨w.heap.size, 1, none⟩ (.slice a1 (form x).length c1) = W at *
    have g0 : W.cell? ⟨w.heap.size, 0, none⟩ = some (.int .i64 t) := by simp [World.cell?, hW]
    have g1 : W.cell? ⟨w.heap.size, 1, none⟩ = some (.slice a1 (form x).length c1) := by simp [World.cell?, hW]
    simp [results, Try.results67, go_sem, g0, g1]
  · exact (HO.out.kept (grownBy_setCell w1 w.heap.size 0 _) (.inr hne.out)).kept (grownBy_setCell _ w.heap.size 1 _) (.inr hne.out)
  · exact (HB.out.grown (grownBy_setCell w1 w.heap.size 0 _) HB.out.size (fun j hj => by cases hj; exact Nat.le_refl _)).grown (grownBy_setCell _ w.heap.size 1 _) (by simp [World.setCell]; exact HB.out.size) (fun j hj => by cases hj; exact Nat.le_refl _)

set_option maxRecDepth 100000 in
set_option maxHeartbeats 1000000 in
theorem fieldValue_calls (t : Int) (v : Value) (l : List Nat) (w : World) (h : BRow w v l) :
    Calls Try.prog 63 #[.agg #[.int .i64 t, v]] w fun e w' => e = .returned (.tuple #[.int .u64 (lastN l).1, .int .i64 (lastN l).2.2]) ∧ Below w.heap.size w w' := by
  go_enter Try.func63, Try.ntmps63
  have HL := fun W (hb : Below w.heap.size w W) => last_calls v l W (h.below hb)
  go_wp2_with (go_at_call 109; refine (HL _ ((Below.refl _ _).alloc (Nat.le_refl _) _)).mono ?_; rintro e w1 ⟨rfl, rfl⟩)
  go_ret2
  exact ⟨rfl, (Below.refl _ _).alloc (Nat.le_refl _) _⟩
end Go.Proofs.Ytlohggdabpfkhaa
