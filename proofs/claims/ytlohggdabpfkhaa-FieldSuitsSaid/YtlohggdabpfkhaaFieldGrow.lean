/-
  CONTRACT of slices.Grow at fields, from nothing: a row of the call's own with no field in it.
-/
import Derived.Test.YtlohggdabpfkhaaTheirs02
import Derived.Lib.AppendZeros
namespace Go.Proofs.Ytlohggdabpfkhaa
open Go.RowKit Pl

set_option maxRecDepth 100000 in
set_option maxHeartbeats 1000000 in
theorem growF_calls (n : Nat) (hn : n ≤ 1000) (w : World) :
    Calls Try.prog 125 #[.slice none 0 0, .int .i64 n] w fun e w' => ∃ v', e = .returned v' ∧ w'.ownsRow w.heap.size 25 2 v' 0 [] ∧ Below w.heap.size w w' := by
  by_cases h0 : n = 0
  · subst h0
    go_enter Try.func125, Try.ntmps125
    go_wp2
    go_ret
    exact ⟨_, rfl, World.ownsRow_nil _ _ _ _, Below.refl _ _⟩
  · obtain ⟨i0, hi, hz0, hz1, hz2⟩ := info_parts info_field
    have hr := Lib.run_append_nil_zeros (P := Try.prog) w 22 3 22 25 i0 (.agg #[.int .i64 0, .slice none 0 0]) .i64 .i64 Try.underlying22 Try.underlying3 hi hz0 n (by omega) (by omega) (by omega) (by rw [hz2]; omega)
    have hcap := grownCap_le_maxLen w n 0 25 (by unfold maxLen; omega)
    have hcapge := grownCap_ge w n 0 25
    have hsz : (Builtin.zeroCells (Value.agg #[.int .i64 0, .slice none 0 0]).cells n ++ Builtin.zeroCells (Value.agg #[.int .i64 0, .slice none 0 0]).cells (grownCap w n 0 25 - n)).size = grownCap w n 0 25 * 2 := by
      rw [Array.size_append, size_zeroCells, size_zeroCells, ← Nat.add_mul, Nat.add_sub_cancel' hcapge]
      rfl
    generalize grownCap w n 0 25 = C at *
    generalize Builtin.zeroCells (Value.agg #[.int .i64 0, .slice none 0 0]).cells n ++ Builtin.zeroCells (Value.agg #[.int .i64 0, .slice none 0 0]).cells (C - n) = cur at *
    have HR := Lib.hid hr
    have HO := Lib.hid (show (w.drew.alloc (.cells cur 25)).ownsRow w.heap.size 25 2 (.slice (some ⟨w.heap.size, 0, none⟩) 0 C) 0 [] from ⟨rfl, .inr ⟨w.heap.size, C, cur, rfl, Nat.le_refl _, heap_alloc_new w.drew _, Nat.zero_le _, hcap, hsz, rfl⟩⟩)
    have HB := Lib.hid (show Below w.heap.size w (w.drew.alloc (.cells cur 25)) from (Below.refl _ w).drew.alloc (Nat.le_refl _) _)
    have d0 : decide ((0 : Int) < (n : Int)) = true := decide_eq_true (by omega)
    have d1 : decide ((n : Int) > 0) = true := decide_eq_true (by omega)
    have d2 : decide ((n : Int) < 0) = false := decide_eq_false (by omega)
    clear hr hsz hi hz0 hz1 hz2 hcap
    go_enter Try.func125, Try.ntmps125
    go_wp2_with (at_builtin; refine Lib.wpList_append_run _ rfl _ _ _ _ rfl _ _ rfl rfl _ _ HR.out ?_)
    go_ret
    exact ⟨_, rfl, HO.out, HB.out⟩
end Go.Proofs.Ytlohggdabpfkhaa
