/-
  THE WALK of fermatalaw06.RngOrder: it returns true, and writes nothing that was there.
-/
import Derived.Test.YtfcajgfhmfpchaaWRngOnce
namespace Go.Proofs.Ytfcajgfhmfpchaa
open Go.RowKit Pl

/-- A bound out of any number of 32 bits. -/
theorem bound32 (n : Int) (n0 : -2147483648 ≤ n) (n1 : n ≤ 2147483647) : ∃ (k : Int) (P : Nat), wrap32 (-wrap32 (n + 1)) = k ∧ 1 ≤ P ∧ P ≤ 2147483648 ∧
    ((k ≤ n ∧ wrap64 (wrap64 n + 1) = (P : Int)) ∨ (n < k ∧ wrap64 (wrap64 k + 1) = (P : Int))) := by
  by_cases h : 0 ≤ n
  · refine ⟨_, (n + 1).toNat, rfl, by omega, by omega, .inl ⟨?_, ?_⟩⟩
    · unfold wrap32; omega
    · unfold wrap64; omega
  · refine ⟨-(n + 1), (-n).toNat, ?_, by omega, by omega, .inr ⟨by omega, ?_⟩⟩
    · unfold wrap32; omega
    · unfold wrap64; omega

theorem quo64 (d Q a : Nat) (h : d / Q = a) (ha : a < 4611686018427387904) : wrap64 ((d : Int).tdiv (Q : Int)) = (a : Int) := by
  have e : (d : Int).tdiv (Q : Int) = (a : Int) := by
    rw [Int.tdiv_eq_ediv_of_nonneg (Int.natCast_nonneg d), ← h]; exact (Int.natCast_ediv d Q).symm
  rw [e]
  clear e h
  unfold wrap64
  omega
set_option maxRecDepth 100000 in
set_option maxHeartbeats 1000000 in
theorem rngOrder_walk (v u : Nat) (n m : Int) (hv : v < 18446744073709551616) (hu : u < 18446744073709551616) (n0 : -2147483648 ≤ n) (n1 : n ≤ 2147483647) (m0 : -2147483648 ≤ m) (m1 : m ≤ 2147483647) (w : World) :
    Calls Try.prog 8 #[.int .u64 (v : Int), .int .u64 (u : Int), .int .i32 n, .int .i32 m] w fun e w' => e = .returned (.bool true) ∧ Below w.heap.size w w' := by
  obtain ⟨k, P, hk, hP1, hP2, hkP⟩ := bound32 n n0 n1
  obtain ⟨l, Q, hl, hQ1, hQ2, hlQ⟩ := bound32 m m0 m1
  clear n0 n1 m0 m1
  obtain ⟨S, hS⟩ : ∃ S, P + Q = S := ⟨_, rfl⟩
  obtain ⟨M, hM⟩ : ∃ M, P * Q = M := ⟨_, rfl⟩
  have hM1 : 0 < M := by rw [← hM]; exact Nat.mul_pos hP1 hQ1
  have hM2 : M ≤ 4611686018427387904 := by
    rw [← hM]; exact Nat.le_trans (Nat.mul_le_mul hP2 hQ2) (by decide)
  have hS2 : wrap64 ((P : Int) + (Q : Int)) = (S : Int) := by unfold wrap64; omega
  have hM3 : wrap64 ((P : Int) * (Q : Int)) = (M : Int) := by
    rw [← Int.natCast_mul, hM]; unfold wrap64; omega
  have G1 := Lib.hid hk
  have G2 := Lib.hid hl
  have G3 := Lib.hid hkP
  have G4 := Lib.hid hlQ
  have G5 := Lib.hid hS2
  have G6 := Lib.hid hM3
  clear hk hl hkP hlQ hS2 hM3
  have B1 := Lib.hid (fun W => below_yes v P hv (by omega) (by omega) W)
  have B2 := Lib.hid (fun W => below_yes u P hu (by omega) (by omega) W)
  have B3 := Lib.hid (fun W => below_yes v S hv (by omega) (by omega) W)
  have B4 := Lib.hid (fun W => below_yes v M hv (by omega) (by omega) W)
  have AW := Lib.hid (fun W => awakeR_calls W)
  have ha := belN_lt v P hv (by omega)
  have hc : belN v P ≤ belN v S := belN_mono (Nat.le_refl _) (by omega)
  have hd : belN v M / Q = belN v P := by rw [← hM]; exact belN_mul v P Q (by omega)
  have hle : v ≤ u → belN v P ≤ belN u P := fun h => belN_mono h (Nat.le_refl _)
  have hge : u ≤ v → belN u P ≤ belN v P := fun h => belN_mono h (Nat.le_refl _)
  have hdl := belN_lt v M hv hM1
  generalize belN v P = a at *
  generalize belN u P = b at *
  generalize belN v S = c at *
  generalize belN v M = d at *
  have HA1 := Lib.hid (show (d : Int) / (Q : Int) = (a : Int) by rw [← hd]; exact (Int.natCast_ediv d Q).symm)
  have ha60 : a < 4611686018427387904 := by clear hd; omega
  have HA2 := Lib.hid (quo64 d Q a hd ha60)
  clear hd
  have hQ0 : ((Q : Int) == 0) = false := by rw [beq_eq_false_iff_ne]; omega
  have hQ3 : ¬ (Q : Int) = 0 := by omega
  have hac : (a : Int) ≤ (c : Int) := by omega
  have haP : (a : Int) < (P : Int) := by omega
  have hvu : ((v : Int) < (u : Int) ∧ (a : Int) ≤ (b : Int)) ∨ ((v : Int) = (u : Int) ∧ (a : Int) = (b : Int)) ∨ ((u : Int) < (v : Int) ∧ (b : Int) ≤ (a : Int)) := by
    rcases Nat.lt_trichotomy v u with h | h | h
    · exact .inl ⟨by omega, by have := hle (by omega); omega⟩
    · exact .inr (.inl ⟨by omega, by have := hle (by omega); have := hge (by omega); omega⟩)
    · exact .inr (.inr ⟨by omega, by have := hge (by omega); omega⟩)
  clear hle hge hS hM hP2 hQ2 hc ha
  have HA3 := Lib.hid hac
  have HA4 := Lib.hid haP
  have HA5 := Lib.hid hvu
  clear hac haP hvu hdl hM1 hM2 hQ0 hQ3
  obtain ⟨q, hq⟩ : ∃ q : Int, (Q : Int) = q := ⟨_, rfl⟩
  have hq1 : 1 ≤ q := by omega
  rw [hq] at G4 G5 G6 HA2
  clear hq HA1
  obtain ⟨dz, hdz⟩ : ∃ z : Int, (d : Int) = z := ⟨_, rfl⟩
  rw [hdz] at HA2
  simp only [hdz] at B4
  clear hdz
  have hk := G1.out
  have hl := G2.out
  have hkP := G3.out
  have hlQ := G4.out
  have hS2 := G5.out
  have hM3 := G6.out
  rcases hkP with ⟨hk1, hk2⟩ | ⟨hk1, hk2⟩ <;> rcases hlQ with ⟨hl1, hl2⟩ | ⟨hl1, hl2⟩
  all_goals (
    go_enter Try.func8, Try.ntmps8
    go_wp2_with fail
    refine (B1.out _).mono ?_
    rintro e w' ⟨rfl, rfl⟩
    go_wp2_with fail
    refine (B2.out _).mono ?_
    rintro e w' ⟨rfl, rfl⟩
    go_wp2_with fail
    refine (B3.out _).mono ?_
    rintro e w' ⟨rfl, rfl⟩
    go_wp2_with fail
    refine (B4.out _).mono ?_
    rintro e w' ⟨rfl, rfl⟩
    have hvu := HA5.out
    rcases hvu with ⟨h1, h2⟩ | ⟨h1, h2⟩ | ⟨h1, h2⟩
    all_goals (
      have hac := HA3.out
      have haP := HA4.out
      have hQ3 : (q == 0) = false := by rw [beq_eq_false_iff_ne]; omega
      have hdq := HA2.out
      go_wp2_with fail
      refine (AW.out _).mono ?_
      rintro e w5 ⟨rfl, hb⟩
      go_wp2
      go_ret
      exact ⟨rfl, hb⟩))
end Go.Proofs.Ytfcajgfhmfpchaa
