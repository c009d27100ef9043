/-
  THE WALK of fermatalaw01.NumFolds: it returns true, and writes nothing that was there.
-/
import Derived.Test.YtflenhbkpaondaaFrame
import Derived.Test.YtflenhbkpaondaaAwake01
import Derived.Laws.DeepNot64
namespace Go.Proofs.Ytflenhbkpaondaa
open Go.RowKit

theorem not_i64 (y : Int) (h1 : -9223372036854775808 ≤ y) (h2 : y ≤ 9223372036854775807) : bits .xor .i64 (-1) y = -1 - y := by
  show IntKind.i64.wrap ((BitVec.ofInt 64 (-1) ^^^ BitVec.ofInt 64 y).toNat : Int) = _
  have h : BitVec.ofInt 64 (-1) = BitVec.allOnes 64 := by decide
  rw [h, BitVec.allOnes_xor, BitVec.toNat_not, BitVec.toNat_ofInt]
  simp only [IntKind.wrap, IntKind.bits, IntKind.signed]
  simp
  omega

theorem far_calls (y : Int) (w : World) (h1 : -9223372036854775808 ≤ y) (h2 : y ≤ 9223372036854775807) :
    Calls Try.prog 27 #[.int .i64 y] w fun e w' => e = .returned (.int .u64 (foldI y)) ∧ w = w' := by
  by_cases h : y < 0
  · have hn := not_i64 y h1 h2
    go_enter Try.func27, Try.ntmps27
    go_wp2
    all_goals go_ret
    all_goals refine ⟨ret_int ?_, rfl⟩
    all_goals (unfold foldI; rw [if_pos (by assumption)]; simp only [IntKind.wrap_u64]; omega)
  · go_enter Try.func27, Try.ntmps27
    go_wp2
    go_ret
    refine ⟨ret_int ?_, rfl⟩
    unfold foldI
    rw [if_neg (by omega)]
    omega

theorem unfold_fold_calls (y : Int) (w : World) (h1 : -9223372036854775808 ≤ y) (h2 : y ≤ 9223372036854775807) :
    Calls Try.prog 26 #[.int .u64 (foldI y)] w fun e w' => e = .returned (.int .i64 y) ∧ w = w' := by
  have hr := foldI_range y h1 h2
  have := unfold_calls (foldI y) w hr.1 hr.2
  rwa [unfold_foldI] at this

set_option maxHeartbeats 2000000 in
theorem numFolds_walk (a b x : Int) (w : World) (h0 : -9223372036854775808 ≤ a ∧ a ≤ 9223372036854775807) (h1 : -9223372036854775808 ≤ b ∧ b ≤ 9223372036854775807) (h2 : 0 ≤ x ∧ x < 18446744073709551616) :
    Calls Try.prog 8 #[.int .i64 a, .int .i64 b, .int .u64 x] w fun e w' => e = .returned (.bool true) ∧ Below w.heap.size w w' := by
  obtain ⟨a1, a2⟩ := h0
  obtain ⟨b1, b2⟩ := h1
  obtain ⟨x1, x2⟩ := h2
  obtain ⟨p1, p2⟩ := foldI_range a a1 a2
  obtain ⟨q1, q2⟩ := foldI_range b b1 b2
  have hu := unfoldI_range x x1 (by omega)
  have e1 : (a != a) = false := by simp
  have e2 : (b != b) = false := by simp
  have e3 : (x != x) = false := by simp
  have e5 : (decide (a < 0) == (foldI a % 2 == 1)) = true := by
    unfold foldI
    by_cases h : a < 0
    · rw [if_pos h]
      have : (-2 * a - 1) % 2 = 1 := by omega
      rw [this]; simp [h]
    · rw [if_neg h]
      have : (2 * a) % 2 = 0 := by omega
      rw [this]; simp; omega
  have e6 : (decide (foldI a < foldI b) == decide (foldI a < foldI b)) = true := by simp
  have F1 := Lib.hid (fold_calls a · a1 a2)
  have F2 := Lib.hid (fold_calls b · b1 b2)
  have U1 := Lib.hid (unfold_fold_calls a · a1 a2)
  have U2 := Lib.hid (unfold_fold_calls b · b1 b2)
  have UX := Lib.hid (unfold_calls x · x1 (by omega))
  have FX := Lib.hid (fun W => by have := fold_calls (unfoldI x) W hu.1 hu.2; rw [fold_unfoldI x x1] at this; exact this)
  have V1 := Lib.hid (far_calls a · a1 a2)
  have V2 := Lib.hid (far_calls b · b1 b2)
  have hinj : foldI a = foldI b → a = b := fun h => by rw [← unfold_foldI a, h, unfold_foldI]
  by_cases hab : a = b
  · subst hab
    clear hinj
    generalize foldI a = p at *
    generalize unfoldI x = u at *
    go_enter Try.func8, Try.ntmps8
    go_wp2_with fail
    refine (awake_calls w).mono ?_
    rintro e w1 ⟨rfl, hb⟩
    go_wp2_with fail
    refine (F1.out _).mono ?_
    rintro e w' ⟨rfl, rfl⟩
    go_wp2_with fail
    refine (F2.out _).mono ?_
    rintro e w' ⟨rfl, rfl⟩
    go_wp2_with fail
    refine (U1.out _).mono ?_
    rintro e w' ⟨rfl, rfl⟩
    go_wp2_with fail
    refine (U2.out _).mono ?_
    rintro e w' ⟨rfl, rfl⟩
    go_wp2_with fail
    refine (UX.out _).mono ?_
    rintro e w' ⟨rfl, rfl⟩
    go_wp2_with fail
    refine (FX.out _).mono ?_
    rintro e w' ⟨rfl, rfl⟩
    go_wp2_with fail
    refine (V1.out _).mono ?_
    rintro e w' ⟨rfl, rfl⟩
    go_wp2_with fail
    refine (V2.out _).mono ?_
    rintro e w' ⟨rfl, rfl⟩
    go_wp2
    go_ret
    exact ⟨rfl, hb⟩
  · have hpq : (foldI a == foldI b) = false := beq_eq_false_iff_ne.2 (fun e => hab (hinj e))
    have hab' : (a == b) = false := beq_eq_false_iff_ne.2 hab
    clear hinj hab
    generalize foldI a = p at *
    generalize foldI b = q at *
    generalize unfoldI x = u at *
    go_enter Try.func8, Try.ntmps8
    go_wp2_with fail
    refine (awake_calls w).mono ?_
    rintro e w1 ⟨rfl, hb⟩
    go_wp2_with fail
    refine (F1.out _).mono ?_
    rintro e w' ⟨rfl, rfl⟩
    go_wp2_with fail
    refine (F2.out _).mono ?_
    rintro e w' ⟨rfl, rfl⟩
    go_wp2_with fail
    refine (U1.out _).mono ?_
    rintro e w' ⟨rfl, rfl⟩
    go_wp2_with fail
    refine (U2.out _).mono ?_
    rintro e w' ⟨rfl, rfl⟩
    go_wp2_with fail
    refine (UX.out _).mono ?_
    rintro e w' ⟨rfl, rfl⟩
    go_wp2_with fail
    refine (FX.out _).mono ?_
    rintro e w' ⟨rfl, rfl⟩
    go_wp2_with fail
    refine (V1.out _).mono ?_
    rintro e w' ⟨rfl, rfl⟩
    go_wp2_with fail
    refine (V2.out _).mono ?_
    rintro e w' ⟨rfl, rfl⟩
    go_wp2
    go_ret
    exact ⟨rfl, hb⟩
end Go.Proofs.Ytflenhbkpaondaa
