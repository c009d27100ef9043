import Derived.Test.YtcjkeobjojmpfaaGreatProg
import Derived.Test.YtcjkeobjojmpfaaGreatMEvqP
import Derived.Handy
import Derived.Below
import Derived.Laws.StructEq
import Derived.BigQuiet
import Derived.BigRegion
import Derived.Deep.QuietTactic
/-
  CONTRACTS of cmp.Compare of integers, and of key's Compare and order.
-/
namespace Go.Proofs.YtcjkeobjojmpfaaGreat
open Go.RowKit

theorem keyFields : Tryz.prog.underlying 31 = some (.struct (Tryz.prog.fieldsOf 31)) := by kernel_rfl
theorem keyGuard : Tryz.prog.eqGuardType Tryz.prog.depth 31 = false := by kernel_rfl
theorem keyHeld : Tryz.prog.stoodInHeld 31 = false := by kernel_rfl
theorem equalK (a1 a2 a3 b1 b2 b3 : Int) (w : World) : (Op.equalIn 10000 31 (.agg #[.int .i64 a1, .int .i64 a2, .int .i64 a3]) (.agg #[.int .i64 b1, .int .i64 b2, .int .i64 b3])).run Tryz.prog w = .ok (decide ((a1, a2, a3) = (b1, b2, b3))) w := by
  rw [run_equalIn_struct (P := Tryz.prog) w 9999 31 _ _ keyFields keyHeld]
  by_cases h1 : a1 = b1
  · by_cases h2 : a2 = b2
    · by_cases h3 : a3 = b3
      · subst h1 h2 h3
        simp [Op.eqFields, go_sem, Program.fieldsOf, Tryz.underlying31]
      · subst h1 h2
        simp [Op.eqFields, go_sem, Program.fieldsOf, Tryz.underlying31, h3]
    · subst h1
      simp [Op.eqFields, go_sem, Program.fieldsOf, Tryz.underlying31, h2]
  · simp [Op.eqFields, go_sem, Program.fieldsOf, Tryz.underlying31, h1]
theorem eqlK (a1 a2 a3 b1 b2 b3 : Int) (w : World) : (binOp .eql 31 (.agg #[.int .i64 a1, .int .i64 a2, .int .i64 a3]) (.agg #[.int .i64 b1, .int .i64 b2, .int .i64 b3])).run Tryz.prog w = .ok (.bool (decide ((a1, a2, a3) = (b1, b2, b3)))) w := by
  rw [run_eql_struct, equalK]; rfl
theorem neqK (a1 a2 a3 b1 b2 b3 : Int) (w : World) : (binOp .neq 31 (.agg #[.int .i64 a1, .int .i64 a2, .int .i64 a3]) (.agg #[.int .i64 b1, .int .i64 b2, .int .i64 b3])).run Tryz.prog w = .ok (.bool (!decide ((a1, a2, a3) = (b1, b2, b3)))) w := by
  rw [run_neq_struct, equalK]; rfl

def cmpI (a b : Int) : Int := if a < b then -1 else if b < a then 1 else 0
theorem isNaN_calls (a : Int) (w : World) : Calls Tryz.prog 88 #[.int .i64 a] w fun e w' => e = .returned (.bool false) ∧ w = w' := by
  go_enter Tryz.func88, Tryz.ntmps88
  go_wp2
  go_ret
  exact ⟨by simp, rfl⟩
theorem cmpInt_calls (a b : Int) (w : World) : Calls Tryz.prog 69 #[.int .i64 a, .int .i64 b] w fun e w' => e = .returned (.int .i64 (cmpI a b)) ∧ w = w' := by
  have hA := Lib.hid (fun W => isNaN_calls a W)
  have hB := Lib.hid (fun W => isNaN_calls b W)
  unfold cmpI
  by_cases h1 : a < b
  · rw [if_pos h1]
    go_enter Tryz.func69, Tryz.ntmps69
    go_wp2_with fail
    refine (hA.out _).mono ?_
    rintro e w' ⟨rfl, rfl⟩
    go_wp2_with fail
    refine (hB.out _).mono ?_
    rintro e w' ⟨rfl, rfl⟩
    go_wp2
    go_ret
    exact ⟨rfl, rfl⟩
  · rw [if_neg h1]
    by_cases h2 : b < a
    · rw [if_pos h2]
      go_enter Tryz.func69, Tryz.ntmps69
      go_wp2_with fail
      refine (hA.out _).mono ?_
      rintro e w' ⟨rfl, rfl⟩
      go_wp2_with fail
      refine (hB.out _).mono ?_
      rintro e w' ⟨rfl, rfl⟩
      go_wp2
      go_ret
      exact ⟨rfl, rfl⟩
    · rw [if_neg h2]
      go_enter Tryz.func69, Tryz.ntmps69
      go_wp2_with fail
      refine (hA.out _).mono ?_
      rintro e w' ⟨rfl, rfl⟩
      go_wp2_with fail
      refine (hB.out _).mono ?_
      rintro e w' ⟨rfl, rfl⟩
      go_wp2
      go_ret
      exact ⟨rfl, rfl⟩

set_option maxHeartbeats 1000000 in
theorem compareK_calls (a b : Ky) (w : World) :
    Calls Tryz.prog 49 #[.agg #[.int .i64 a.1, .int .i64 a.2.1, .int .i64 a.2.2], .agg #[.int .i64 b.1, .int .i64 b.2.1, .int .i64 b.2.2]] w fun e w' => e = .returned (.tuple #[.int .i64 (cfK a b), .int .i64 (byK a b)]) ∧ Below w.heap.size w w' := by
  obtain ⟨a1, a2, a3⟩ := a
  obtain ⟨b1, b2, b3⟩ := b
  have hE := eqlK a1 a2 a3 b1 b2 b3
  have hB : Below w.heap.size w ((w.alloc (.cells #[.int .i64 a1, .int .i64 a2, .int .i64 a3] 31)).alloc (.cells #[.int .i64 b1, .int .i64 b2, .int .i64 b3] 31)) := ((Below.refl _ w).alloc (Nat.le_refl _) _).alloc (by simp) _
  have HB := Lib.hid hB
  clear hB
  by_cases h1 : a1 = b1
  · by_cases h2 : a2 = b2
    · have hC := Lib.hid (show cfK (a1, a2, a3) (b1, b2, b3) = cmpI a3 b3 from cfK_third h1 h2)
      by_cases h3 : a3 = b3
      · have hD : decide ((a1, a2, a3) = (b1, b2, b3)) = true := decide_eq_true (by rw [h1, h2, h3])
        have hBy := Lib.hid (show byK (a1, a2, a3) (b1, b2, b3) = 0 by unfold byK; simp [h1, h2, h3])
        have hC0 := Lib.hid (show cfK (a1, a2, a3) (b1, b2, b3) = 0 from cfK_zero.2 (of_decide_eq_true hD))
        generalize decide ((a1, a2, a3) = (b1, b2, b3)) = d at *
        subst hD
        clear h1 h2 h3
        go_enter Tryz.func49, Tryz.ntmps49
        go_wp2
        go_ret2
        exact ⟨by rw [hC0.out, hBy.out]; rfl, HB.out⟩
      · have hD : decide ((a1, a2, a3) = (b1, b2, b3)) = false := decide_eq_false (by simp only [Prod.mk.injEq]; omega)
        have hBy := Lib.hid (show byK (a1, a2, a3) (b1, b2, b3) = 3 by unfold byK; simp [h1, h2, h3])
        generalize decide ((a1, a2, a3) = (b1, b2, b3)) = d at *
        subst hD
        have c1 : (a1 != b1) = false := by simp [h1]
        have c2 : (a2 != b2) = false := by simp [h2]
        have hM := Lib.hid (fun W => cmpInt_calls a3 b3 W)
        clear h1 h2 h3
        go_enter Tryz.func49, Tryz.ntmps49
        go_wp2_with fail
        refine (hM.out _).mono ?_
        rintro e w' ⟨rfl, rfl⟩
        go_wp2
        go_ret2
        exact ⟨by rw [hC.out, hBy.out]; rfl, HB.out⟩
    · have hD : decide ((a1, a2, a3) = (b1, b2, b3)) = false := decide_eq_false (by simp only [Prod.mk.injEq]; omega)
      have hBy := Lib.hid (show byK (a1, a2, a3) (b1, b2, b3) = 2 by unfold byK; simp [h1, h2])
      have hC := Lib.hid (show cfK (a1, a2, a3) (b1, b2, b3) = cmpI a2 b2 from cfK_second h1 h2)
      generalize decide ((a1, a2, a3) = (b1, b2, b3)) = d at *
      subst hD
      have c1 : (a1 != b1) = false := by simp [h1]
      have c2 : (a2 != b2) = true := by simp [h2]
      have hM := Lib.hid (fun W => cmpInt_calls a2 b2 W)
      clear h1 h2
      go_enter Tryz.func49, Tryz.ntmps49
      go_wp2_with fail
      refine (hM.out _).mono ?_
      rintro e w' ⟨rfl, rfl⟩
      go_wp2
      go_ret2
      exact ⟨by rw [hC.out, hBy.out]; rfl, HB.out⟩
  · have hD : decide ((a1, a2, a3) = (b1, b2, b3)) = false := decide_eq_false (by simp only [Prod.mk.injEq]; omega)
    have hBy := Lib.hid (show byK (a1, a2, a3) (b1, b2, b3) = 1 by unfold byK; simp [h1])
    have hC := Lib.hid (show cfK (a1, a2, a3) (b1, b2, b3) = cmpI a1 b1 from cfK_first h1)
    generalize decide ((a1, a2, a3) = (b1, b2, b3)) = d at *
    subst hD
    have c1 : (a1 != b1) = true := by simp [h1]
    have hM := Lib.hid (fun W => cmpInt_calls a1 b1 W)
    clear h1
    go_enter Tryz.func49, Tryz.ntmps49
    go_wp2_with fail
    refine (hM.out _).mono ?_
    rintro e w' ⟨rfl, rfl⟩
    go_wp2
    go_ret2
    exact ⟨by rw [hC.out, hBy.out]; rfl, HB.out⟩
end Go.Proofs.YtcjkeobjojmpfaaGreat
