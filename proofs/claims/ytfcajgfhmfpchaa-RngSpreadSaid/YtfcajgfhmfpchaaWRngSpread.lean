/-
  THE WALK of fermatalaw06.RngSpread: it returns true, and writes nothing that was there.
-/
import Derived.Test.YtfcajgfhmfpchaaWRngOrder
namespace Go.Proofs.Ytfcajgfhmfpchaa
open Go.RowKit Pl

/-- A number that is not negative out of any number of 64 bits. -/
theorem bound64 (n : Int) (n0 : -9223372036854775808 ≤ n) (n1 : n ≤ 9223372036854775807) : ∃ X : Nat, X ≤ 9223372036854775807 ∧
    ((wrap64 (-wrap64 (n + 1)) ≤ n ∧ n = (X : Int)) ∨ (n < wrap64 (-wrap64 (n + 1)) ∧ wrap64 (-wrap64 (n + 1)) = (X : Int))) := by
  by_cases h : 0 ≤ n
  · refine ⟨n.toNat, by omega, .inl ⟨?_, by omega⟩⟩
    unfold wrap64; omega
  · have e : wrap64 (-wrap64 (n + 1)) = -(n + 1) := by unfold wrap64; omega
    rw [e]
    exact ⟨(-(n + 1)).toNat, by omega, .inr ⟨by omega, by omega⟩⟩
theorem tmod_nat (X N : Nat) : ((X : Int)).tmod (N : Int) = ((X % N : Nat) : Int) := by
  rw [Int.tmod_eq_emod_of_nonneg (Int.natCast_nonneg X)]; exact (Int.natCast_emod X N).symm
theorem bound_one (X : Nat) : wrap64 ((X : Int).tmod 9223372036854775807 + 1) = ((X % 9223372036854775807 + 1 : Nat) : Int) := by
  have h := tmod_nat X 9223372036854775807
  rw [show ((9223372036854775807 : Nat) : Int) = 9223372036854775807 from rfl] at h
  rw [h]
  unfold wrap64; omega

/-- What the law asks, as numbers. -/
theorem spread_facts (N K L : Nat) (hN : N ≤ 9223372036854775807) (hK : K < N) (hL : L < N) :
    ∃ a b c d p q : Nat, a = ceiN K N ∧ b = ceiN (K + 1) N - 1 ∧ c = ceiN L N ∧ d = ceiN (L + 1) N - 1 ∧ a ≤ b ∧ c ≤ d ∧ b < 18446744073709551616 ∧ d < 18446744073709551616 ∧ p = b - a ∧ q = d - c ∧ p ≤ q + 1 ∧ q ≤ p + 1 ∧ (K = 0 → a = 0) ∧ (K + 1 = N → b = 18446744073709551615)
    ∧ (∀ v, a ≤ v → v ≤ b → belN v N = K) ∧ (0 < K → 0 < a ∧ belN (a - 1) N = K - 1) ∧ (K + 1 < N → b + 1 < 18446744073709551616 ∧ belN (b + 1) N = K + 1) := by
  have hN0 : 0 < N := by omega
  have s1 := ceiN_step K N hN0 (by omega)
  have s2 := ceiN_step L N hN0 (by omega)
  have u1 := ceiN_low K N hN0
  have u2 := ceiN_high K N hN0
  have u3 := ceiN_low L N hN0
  have u4 := ceiN_high L N hN0
  have m1 := ceiN_mono N hN0 (show K + 1 ≤ N from hK)
  have m2 := ceiN_mono N hN0 (show L + 1 ≤ N from hL)
  have hall := ceiN_all N hN0
  rw [hall] at m1 m2
  refine ⟨_, _, _, _, _, _, rfl, rfl, rfl, rfl, by omega, by omega, by omega, by omega, rfl, rfl, ?_, ?_, ?_, ?_, ?_, ?_, ?_⟩
  · generalize 18446744073709551616 / N = D at *; omega
  · generalize 18446744073709551616 / N = D at *; omega
  · rintro rfl; exact ceiN_zero N hN0
  · rintro h; rw [h, hall]
  · intro v h1 h2; exact belN_is hN0 h1 (by omega)
  · intro h
    have s0 := ceiN_step (K - 1) N hN0 (by omega)
    rw [show K - 1 + 1 = K by omega] at s0
    exact ⟨by omega, belN_is hN0 (by omega) (by rw [show K - 1 + 1 = K by omega]; omega)⟩
  · intro h
    have s0 := ceiN_step (K + 1) N hN0 (by omega)
    have m3 := ceiN_lt (K + 1) N h (by omega)
    exact ⟨by omega, belN_is hN0 (by omega) (by omega)⟩

set_option maxRecDepth 100000 in
set_option maxHeartbeats 1000000 in
theorem spread_walk (n k l : Int) (N K L a b c d p q v3 : Nat) (NZ : Int) (hNZ : (N : Int) = NZ) (hN : N ≤ 9223372036854775807) (hK : K < N)
    (hn : (wrap64 (-wrap64 (n + 1)) ≤ n ∧ wrap64 (n.tmod 9223372036854775807 + 1) = NZ) ∨ (n < wrap64 (-wrap64 (n + 1)) ∧ wrap64 ((wrap64 (-wrap64 (n + 1))).tmod 9223372036854775807 + 1) = NZ))
    (hk : (wrap64 (-wrap64 (k + 1)) ≤ k ∧ k.tmod NZ = (K : Int)) ∨ (k < wrap64 (-wrap64 (k + 1)) ∧ (wrap64 (-wrap64 (k + 1))).tmod NZ = (K : Int)))
    (hl : (wrap64 (-wrap64 (l + 1)) ≤ l ∧ l.tmod NZ = (L : Int)) ∨ (l < wrap64 (-wrap64 (l + 1)) ∧ (wrap64 (-wrap64 (l + 1))).tmod NZ = (L : Int)))
    (hR1 : ∀ W, Calls Try.prog 25 #[.int .i64 NZ, .int .i64 (K : Int)] W fun e w' => e = .returned (.tuple #[.int .u64 (a : Int), .int .u64 (b : Int), .int .i64 0]) ∧ W = w')
    (hR2 : ∀ W, Calls Try.prog 25 #[.int .i64 NZ, .int .i64 (L : Int)] W fun e w' => e = .returned (.tuple #[.int .u64 (c : Int), .int .u64 (d : Int), .int .i64 0]) ∧ W = w')
    (hab : a ≤ b) (hcd : c ≤ d) (hb : b < 18446744073709551616) (hd : d < 18446744073709551616) (hp : p = b - a) (hq : q = d - c) (hpq : p ≤ q + 1) (hqp : q ≤ p + 1)
    (hv3 : v3 = a + p / 2)
    (hM : ∀ v W, a ≤ v → v ≤ b → Calls Try.prog 26 #[.int .u64 (v : Int), .int .i64 NZ] W fun e w' => e = .returned (.tuple #[.int .i64 (K : Int), .int .i64 0]) ∧ W = w')
    (hK0 : K = 0 → a = 0) (hKN : K + 1 = N → b = 18446744073709551615)
    (hA : 0 < K → 0 < a ∧ ∀ W, Calls Try.prog 26 #[.int .u64 ((a - 1 : Nat) : Int), .int .i64 NZ] W fun e w' => e = .returned (.tuple #[.int .i64 ((K - 1 : Nat) : Int), .int .i64 0]) ∧ W = w')
    (hB : K + 1 < N → b + 1 < 18446744073709551616 ∧ ∀ W, Calls Try.prog 26 #[.int .u64 ((b + 1 : Nat) : Int), .int .i64 NZ] W fun e w' => e = .returned (.tuple #[.int .i64 ((K + 1 : Nat) : Int), .int .i64 0]) ∧ W = w')
    (w : World) : Calls Try.prog 7 #[.int .i64 n, .int .i64 k, .int .i64 l] w fun e w' => e = .returned (.bool true) ∧ Below w.heap.size w w' := by
  have hN0 : (NZ == 0) = false := by rw [beq_eq_false_iff_ne]; omega
  have HR1 := Lib.hid hR1
  have HR2 := Lib.hid hR2
  have HMM := Lib.hid hM
  clear hR1 hR2 hM
  have AW := Lib.hid (fun W => awakeR_calls W)
  have h3a : a ≤ v3 := by omega
  have h3b : v3 ≤ b := by omega
  have hpz : (b : Int) - (a : Int) = (p : Int) := by omega
  have hqz : (d : Int) - (c : Int) = (q : Int) := by omega
  have hvz : (a : Int) + (p : Int) / 2 = (v3 : Int) := by omega
  have hpw : p < 18446744073709551616 := by omega
  have hqw : q < 18446744073709551616 := by omega
  have hw3 : v3 < 18446744073709551616 := by omega
  have HM1 := Lib.hid (fun W => HMM.out a W (Nat.le_refl _) hab)
  have HM2 := Lib.hid (fun W => HMM.out b W hab (Nat.le_refl _))
  have HM3 := Lib.hid (fun W => HMM.out v3 W h3a h3b)
  have Hpq := Lib.hid hpq
  have Hqp := Lib.hid hqp
  have hN3 : N = NZ.toNat := by omega
  have hN1 : (1 : Int) ≤ NZ := by omega
  have hN2 : NZ ≤ 9223372036854775807 := by omega
  have hKZ : (K : Int) < NZ := by omega
  have HA := Lib.hid hA
  have HB := Lib.hid hB
  have HK0 := Lib.hid hK0
  have HKN := Lib.hid hKN
  have HNN3 := Lib.hid hN3
  clear hA hB hK0 hKN
  clear HMM hp hq hv3 hpq hqp hN3 hNZ
  have HNN := Lib.hid hn
  have HKK := Lib.hid hk
  have HLL := Lib.hid hl
  clear hn hk hl
  go_enter Try.func7, Try.ntmps7
  go_upto_region 1 with fail
  go_cut [0] (fun x wx => x = .int .i64 NZ ∧ wx = w)
  case first =>
    have hn := HNN.out
    rcases hn with ⟨n1, n2⟩ | ⟨n1, n2⟩
    all_goals
      go_wp2_with fail
      go_meet
      exact ⟨by rw [n2], rfl⟩
  case rest =>
    obtain ⟨rfl, rfl⟩ := hcut
    go_upto_region 2 with fail
    go_cut [1, 2] (fun x y wx => x = .int .i64 (K : Int) ∧ y = .int .i64 (L : Int) ∧ Below wc.heap.size wc wx)
    case first =>
      have hk := HKK.out
      have hl := HLL.out
      rcases hk with ⟨k1, k2⟩ | ⟨k1, k2⟩ <;> rcases hl with ⟨l1, l2⟩ | ⟨l1, l2⟩
      all_goals
        go_region
        go_wp2_with fail
        go_meet
        exact ⟨by first | rfl | rw [k2], by first | rfl | rw [l2], by go_grown⟩
    case rest =>
      obtain ⟨rfl, rfl, hbw⟩ := hcut
      have HBW := Lib.hid hbw
      clear hbw
      go_wp2_with fail
      refine (HR1.out _).mono ?_
      rintro e w' ⟨rfl, rfl⟩
      go_wp2_with fail
      refine (HR2.out _).mono ?_
      rintro e w' ⟨rfl, rfl⟩
      go_wp2_with fail
      refine wp_loop_rounds 4 ?_
      rw [rounds_succ]
      go_wp2_with fail
      refine (HM1.out _).mono ?_
      rintro e w' ⟨rfl, rfl⟩
      go_wp2_with fail
      rw [rounds_succ]
      go_wp2_with fail
      refine (HM2.out _).mono ?_
      rintro e w' ⟨rfl, rfl⟩
      go_wp2_with fail
      rw [rounds_succ]
      go_wp2_with fail
      refine (HM3.out _).mono ?_
      rintro e w' ⟨rfl, rfl⟩
      go_wp2_with fail
      rw [rounds_succ]
      have hpq := Hpq.out
      have hqp := Hqp.out
      have hNz := HNN3.out
      have hend : ((p : Int) ≤ (q : Int) ∧ (q : Int) - (p : Int) ≤ 1) ∨ ((q : Int) < (p : Int) ∧ (p : Int) - (q : Int) ≤ 1) := by omega
      have HEND := Lib.hid hend
      clear hend hpq hqp
      by_cases hK0 : K = 0
      · have ha0 : ((a : Int) == 0) = true := by rw [beq_iff_eq]; have := HK0.out hK0; omega
        have hKp : ¬ (0 : Int) < (K : Int) := by omega
        by_cases hKN : K + 1 = N
        · have hbN2 : ((b : Int) == 18446744073709551615) = true := by rw [beq_iff_eq]; have := HKN.out hKN; omega
          have hlast : ¬ (K : Int) < NZ - 1 := by omega
          clear hNz HNN3 hK0 hKN
          have hend := HEND.out
          rcases hend with ⟨h1, h2⟩ | ⟨h1, h2⟩
          all_goals go_wp2_with fail
          all_goals
            refine (AW.out _).mono ?_
            rintro e w5 ⟨rfl, hb⟩
            have hsz := HBW.out.size
            go_wp2
            go_ret
            exact ⟨rfl, HBW.out.trans (Below.trans (by go_grown) (hb.mono (by go_size)))⟩
        · obtain ⟨hb1, hB1⟩ := HB.out (by omega)
          have HB1 := Lib.hid hB1
          have e1 : ((b + 1 : Nat) : Int) = (b : Int) + 1 := by omega
          have e2 : ((K + 1 : Nat) : Int) = (K : Int) + 1 := by omega
          rw [e1, e2] at HB1
          have hlast : (K : Int) < NZ - 1 := by omega
          clear hNz HNN3 hB1 hK0 hKN e1 e2
          go_wp2_with fail
          refine (HB1.out _).mono ?_
          rintro e w' ⟨rfl, rfl⟩
          have hend := HEND.out
          rcases hend with ⟨h1, h2⟩ | ⟨h1, h2⟩
          all_goals go_wp2_with fail
          all_goals
            refine (AW.out _).mono ?_
            rintro e w5 ⟨rfl, hb⟩
            have hsz := HBW.out.size
            go_wp2
            go_ret
            exact ⟨rfl, HBW.out.trans (Below.trans (by go_grown) (hb.mono (by go_size)))⟩
      · obtain ⟨ha1, hA1⟩ := HA.out (by omega)
        have HA1 := Lib.hid hA1
        have e1 : ((a - 1 : Nat) : Int) = (a : Int) - 1 := by omega
        have e2 : ((K - 1 : Nat) : Int) = (K : Int) - 1 := by omega
        rw [e1, e2] at HA1
        have hKp : (0 : Int) < (K : Int) := by omega
        by_cases hKN : K + 1 = N
        · have hbN2 : ((b : Int) == 18446744073709551615) = true := by rw [beq_iff_eq]; have := HKN.out hKN; omega
          have hlast : ¬ (K : Int) < NZ - 1 := by omega
          clear hNz HNN3 hA1 hKN hK0 e1 e2
          go_wp2_with fail
          refine (HA1.out _).mono ?_
          rintro e w' ⟨rfl, rfl⟩
          have hend := HEND.out
          rcases hend with ⟨h1, h2⟩ | ⟨h1, h2⟩
          all_goals go_wp2_with fail
          all_goals
            refine (AW.out _).mono ?_
            rintro e w5 ⟨rfl, hb⟩
            have hsz := HBW.out.size
            go_wp2
            go_ret
            exact ⟨rfl, HBW.out.trans (Below.trans (by go_grown) (hb.mono (by go_size)))⟩
        · obtain ⟨hb1, hB1⟩ := HB.out (by omega)
          have HB1 := Lib.hid hB1
          have e3 : ((b + 1 : Nat) : Int) = (b : Int) + 1 := by omega
          have e4 : ((K + 1 : Nat) : Int) = (K : Int) + 1 := by omega
          rw [e3, e4] at HB1
          have hlast : (K : Int) < NZ - 1 := by omega
          clear hNz HNN3 hA1 hB1 hKN hK0 e1 e2 e3 e4
          go_wp2_with fail
          refine (HA1.out _).mono ?_
          rintro e w' ⟨rfl, rfl⟩
          go_wp2_with fail
          refine (HB1.out _).mono ?_
          rintro e w' ⟨rfl, rfl⟩
          have hend := HEND.out
          rcases hend with ⟨h1, h2⟩ | ⟨h1, h2⟩
          all_goals go_wp2_with fail
          all_goals
            refine (AW.out _).mono ?_
            rintro e w5 ⟨rfl, hb⟩
            have hsz := HBW.out.size
            go_wp2
            go_ret
            exact ⟨rfl, HBW.out.trans (Below.trans (by go_grown) (hb.mono (by go_size)))⟩

theorem rngSpread_walk (n k l : Int) (n0 : -9223372036854775808 ≤ n) (n1 : n ≤ 9223372036854775807) (k0 : -9223372036854775808 ≤ k) (k1 : k ≤ 9223372036854775807) (l0 : -9223372036854775808 ≤ l) (l1 : l ≤ 9223372036854775807) (w : World) :
    Calls Try.prog 7 #[.int .i64 n, .int .i64 k, .int .i64 l] w fun e w' => e = .returned (.bool true) ∧ Below w.heap.size w w' := by
  obtain ⟨X, hX, hXn⟩ := bound64 n n0 n1
  obtain ⟨Y, hY, hYk⟩ := bound64 k k0 k1
  obtain ⟨Z, hZ, hZl⟩ := bound64 l l0 l1
  clear n0 n1 k0 k1 l0 l1
  obtain ⟨N, hN⟩ : ∃ N, X % 9223372036854775807 + 1 = N := ⟨_, rfl⟩
  have hNb : N ≤ 9223372036854775807 := by clear hXn hYk hZl; omega
  have hN0 : 0 < N := by clear hXn hYk hZl; omega
  have hone := bound_one X
  rw [hN] at hone
  obtain ⟨a, b, c, d, p, q, ha, hb, hc, hd, hab, hcd, hbl, hdl, hp, hq, hpq, hqp, hK0, hKN, hM, hA, hB⟩ := spread_facts N (Y % N) (Z % N) hNb (Nat.mod_lt _ hN0) (Nat.mod_lt _ hN0)
  refine spread_walk n k l N (Y % N) (Z % N) a b c d p q (a + p / 2) N rfl hNb (Nat.mod_lt _ hN0) ?_ ?_ ?_ ?_ ?_ hab hcd hbl hdl hp hq hpq hqp rfl ?_ hK0 hKN ?_ ?_ w
  · rcases hXn with ⟨h1, h2⟩ | ⟨h1, h2⟩
    · exact .inl ⟨h1, by rw [h2]; exact hone⟩
    · exact .inr ⟨h1, by rw [h2]; exact hone⟩
  · rcases hYk with ⟨h1, h2⟩ | ⟨h1, h2⟩
    · exact .inl ⟨h1, by rw [h2]; exact tmod_nat Y N⟩
    · exact .inr ⟨h1, by rw [h2]; exact tmod_nat Y N⟩
  · rcases hZl with ⟨h1, h2⟩ | ⟨h1, h2⟩
    · exact .inl ⟨h1, by rw [h2]; exact tmod_nat Z N⟩
    · exact .inr ⟨h1, by rw [h2]; exact tmod_nat Z N⟩
  · intro W; rw [ha, hb]; exact range_yes N (Y % N) (Nat.mod_lt _ hN0) (Nat.lt_of_le_of_lt hNb (by decide)) W
  · intro W; rw [hc, hd]; exact range_yes N (Z % N) (Nat.mod_lt _ hN0) (Nat.lt_of_le_of_lt hNb (by decide)) W
  · intro v W h1 h2
    have h := below_yes v N (Nat.lt_of_le_of_lt h2 hbl) hN0 (Nat.lt_of_le_of_lt hNb (by decide)) W
    rw [hM v h1 h2] at h
    exact h
  · intro h0
    obtain ⟨h1, h2⟩ := hA h0
    refine ⟨h1, fun W => ?_⟩
    have h := below_yes (a - 1) N (Nat.lt_of_le_of_lt (Nat.sub_le a 1) (Nat.lt_of_le_of_lt hab hbl)) hN0 (Nat.lt_of_le_of_lt hNb (by decide)) W
    rw [h2] at h
    exact h
  · intro h0
    obtain ⟨h1, h2⟩ := hB h0
    refine ⟨h1, fun W => ?_⟩
    have h := below_yes (b + 1) N h1 hN0 (Nat.lt_of_le_of_lt hNb (by decide)) W
    rw [h2] at h
    exact h
end Go.Proofs.Ytfcajgfhmfpchaa
