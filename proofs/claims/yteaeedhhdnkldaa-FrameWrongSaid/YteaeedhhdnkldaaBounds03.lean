/-
  CONTRACTS of frame.told, sizes.empty, sizes.within and frame.bounds: where the body of a frame begins and ends at least; nothing that was there is written.
-/
import Derived.Test.YteaeedhhdnkldaaFieldOwn
import Derived.WalkMore
import Derived.Deep.CutBlock
import Derived.Deep.DeepCutAuto
namespace Go.Proofs.Yteaeedhhdnkldaa
open Go.RowKit Pl

/-- What the first byte tells. -/
def toldS (d : Nat) : Int × Int × Int := if d ≤ 246 then (0, d, d) else if d = 247 then (1, 247, 255) else if d = 248 then (2, 256, 16384) else ((d : Int) - 246, 1, 0)
/-- Where the body begins, and where the frame ends at least. -/
def bnd : List Nat → Option (Nat × Nat)
  | [] => some (1, 1)
  | d :: t => if d ≤ 246 then some (1, 1 + d) else if d = 247 then (match t with | [] => some (2, 249) | x :: _ => if x < 247 then none else some (2, 2 + x))
    else if d = 248 then (match t with | [] => some (3, 259) | [x] => if x = 0 ∨ 64 < x then none else some (3, 3 + 256 * x) | x :: y :: _ => if x = 0 ∨ 16384 < 256 * x + y then none else some (3, 3 + (256 * x + y))) else none
/-- The numbers that bounds returns. -/
def bndV (l : List Nat) : Int × Int × Int := match bnd l with | some (f, t) => ((f : Int), (t : Int), 0) | none => (0, 0, 31)

set_option maxRecDepth 100000 in
set_option maxHeartbeats 1000000 in
theorem toldS_calls (d : Nat) (hd : d < 256) (w : World) :
    Calls Try.prog 133 #[.int .u8 d] w fun e w' => e = .returned (.tuple #[.int .i64 (toldS d).1, .agg #[.int .i64 (toldS d).2.1, .int .i64 (toldS d).2.2]]) ∧ Below w.heap.size w w' := by
  have hc : (Below.refl w.heap.size w).alloc (Nat.le_refl _) (.cells #[.int .i64 0, .int .i64 0] 193) = (Below.refl w.heap.size w).alloc (Nat.le_refl _) (.cells #[.int .i64 0, .int .i64 0] 193) := rfl
  clear hc
  by_cases h1 : d ≤ 246
  · have hs : toldS d = (0, (d : Int), (d : Int)) := by unfold toldS; rw [if_pos h1]
    rw [hs]
    clear hs
    have e1 : decide ((d : Int) - 246 ≤ 0) = true := decide_eq_true (by omega)
    go_enter Try.func133, Try.ntmps133
    go_wp2
    refine bodyPost_ret (v := .tuple #[.int .i64 0, .agg #[.int .i64 d, .int .i64 d]]) (by simp [results, Try.results133, go_sem]) rfl ⟨rfl, ?_⟩
    exact (Below.refl _ _).alloc (Nat.le_refl _) _
  by_cases h2 : d = 247
  · subst h2
    clear hd h1
    go_enter Try.func133, Try.ntmps133
    go_wp2
    refine bodyPost_ret (v := .tuple #[.int .i64 1, .agg #[.int .i64 247, .int .i64 255]]) (by simp [results, Try.results133, go_sem]) rfl ⟨rfl, ?_⟩
    exact (Below.refl _ _).alloc (Nat.le_refl _) _
  by_cases h3 : d = 248
  · subst h3
    clear hd h1 h2
    go_enter Try.func133, Try.ntmps133
    go_wp2
    refine bodyPost_ret (v := .tuple #[.int .i64 2, .agg #[.int .i64 256, .int .i64 16384]]) (by simp [results, Try.results133, go_sem]) rfl ⟨rfl, ?_⟩
    exact (Below.refl _ _).alloc (Nat.le_refl _) _
  · have hs : toldS d = ((d : Int) - 246, 1, 0) := by unfold toldS; rw [if_neg h1, if_neg h2, if_neg h3]
    rw [hs]
    have e1 : decide ((d : Int) - 246 ≤ 0) = false := decide_eq_false (by omega)
    have e2 : ((d : Int) - 246 == 1) = false := by rw [beq_eq_false_iff_ne]; omega
    have e3 : ((d : Int) - 246 == 2) = false := by rw [beq_eq_false_iff_ne]; omega
    have e4 : (d : Int) ≤ 255 := by omega
    clear hs h1 h2 h3 hd
    go_enter Try.func133, Try.ntmps133
    go_wp2
    refine bodyPost_ret (v := .tuple #[.int .i64 ((d : Int) - 246), .agg #[.int .i64 1, .int .i64 0]]) (by simp [results, Try.results133, go_sem]) rfl ⟨rfl, ?_⟩
    exact (Below.refl _ _).alloc (Nat.le_refl _) _
set_option maxHeartbeats 1000000 in
theorem empty_calls (a b : Int) (w : World) :
    Calls Try.prog 134 #[.agg #[.int .i64 a, .int .i64 b]] w fun e w' => e = .returned (.bool (decide (b < a))) ∧ Below w.heap.size w w' := by
  go_enter Try.func134, Try.ntmps134
  go_wp2
  go_ret
  exact ⟨rfl, (Below.refl _ _).alloc (Nat.le_refl _) _⟩
set_option maxHeartbeats 1000000 in
theorem within_calls (a b c d : Int) (w : World) :
    Calls Try.prog 135 #[.agg #[.int .i64 a, .int .i64 b], .int .i64 c, .int .i64 d] w fun e w' => e = .returned (.agg #[.int .i64 (max a c), .int .i64 (min b d)]) ∧ Below w.heap.size w w' := by
  go_enter Try.func135, Try.ntmps135
  go_wp2
  all_goals
  · refine bodyPost_ret (v := .agg #[.int .i64 (max a c), .int .i64 (min b d)]) (by simp [results, Try.results135, go_sem]; try omega) rfl ⟨rfl, ?_⟩
    exact ((Below.refl _ _).alloc (Nat.le_refl _) _).alloc (by simp) _
end Go.Proofs.Yteaeedhhdnkldaa
