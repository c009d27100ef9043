/-
  CONTRACTS of rng.scaled and rng.least, and of what the reference has for them.
-/
import Derived.Test.YtfcajgfhmfpchaaRngPlain
import Derived.Test.YtfcajgfhmfpchaaMixRefA
import Derived.Deep.CutBlock
import Derived.WalkMore
import Derived.Deep.DeepCutAuto
namespace Go.Proofs.Ytfcajgfhmfpchaa
open Go.RowKit Pl

set_option maxRecDepth 100000 in
set_option maxHeartbeats 1000000 in
theorem scaled_calls (v n : Nat) (hv : v < 18446744073709551616) (hn : 0 < n) (hn2 : n < 9223372036854775808) (w : World) :
    Calls Try.prog 39 #[.int .u64 (v : Int), .int .u64 (n : Int)] w fun e w' => e = .returned (.int .u64 (belN v n : Int)) ∧ w = w' := by
  go_enter Try.func39, Try.ntmps39
  go_wp2_with fail
  go_step3
  go_upto_region 1 with fail
  go_wp2_with fail
  go_step3
  go_upto_block 0 with fail
  go_cut [5] (fun q wx => q = .int .u64 (belN v n : Int) ∧ wx = w)
  case first =>
    go_wp2_with fail
    go_loopw [0, 5, 7] (fun u q i wr => ∃ k V Q : Nat, k ≤ 64 ∧ i = .int .i64 (k : Int) ∧ V = v / 2 ^ k ∧ Q = partN v n k ∧ u = .int .u64 (V : Int) ∧ q = .int .u64 (Q : Int) ∧ wr = w) (fun _ _ i _ => 64 - (intOf i).toNat)
    case atStart => exact ⟨0, v, 0, by omega, rfl, by simp, (partN_zero v n).symm, rfl, rfl, rfl⟩
    case round =>
      obtain ⟨k, V, Q, hk, rfl, hV, hQ, rfl, rfl, rfl⟩ := hrel
      by_cases hlt : k < 64
      · have hQn : Q < n := hQ ▸ partN_lt v n k hn
        obtain ⟨m, hm⟩ : ∃ m : Nat, (64 : Int) - (k : Int) = (m : Int) := ⟨64 - k, by omega⟩
        have hm2 : m = 64 - k := by omega
        by_cases h0 : V = 0
        · have hd := partN_done v n k hk (by rw [← hV]; exact h0)
          rw [← hQ, ← hm2] at hd
          have hsh := div_pow_cast Q m
          rw [hd] at hsh
          subst h0
          clear hV hQ hd hm2
          go_wp2_with fail
          go_meet
          exact ⟨rfl, rfl⟩
        · have hb0 : ((V : Int) == 0) = false := by rw [beq_eq_false_iff_ne]; omega
          obtain ⟨b, hb⟩ : ∃ b : Nat, V % 2 = b := ⟨_, rfl⟩
          have hVl : V < 18446744073709551616 := by have := Nat.div_le_self v (2 ^ k); omega
          have hand : bits .and .u64 (V : Int) 1 = (b : Int) := by
            have := bits_and_u64_nat V 1 hVl (by omega)
            rw [Nat.and_one_is_mod, hb] at this
            exact this
          obtain ⟨P, hP⟩ : ∃ P : Nat, b * n = P := ⟨_, rfl⟩
          have hPn : P ≤ n := by
            have : b < 2 := by omega
            rw [← hP]
            calc b * n ≤ 1 * n := Nat.mul_le_mul_right n (by omega)
              _ = n := Nat.one_mul n
          have e1 : IntKind.u64.wrap ((b : Int) * (n : Int)) = (P : Int) := by
            rw [← Int.natCast_mul, hP, IntKind.wrap_u64]; omega
          have e2 : IntKind.u64.wrap ((Q : Int) + (P : Int)) = ((Q + P : Nat) : Int) := by rw [IntKind.wrap_u64]; omega
          have e3 : IntKind.u64.wrap (((Q + P : Nat) : Int).tdiv 2) = (((Q + P) / 2 : Nat) : Int) := by
            rw [IntKind.wrap_u64, Int.tdiv_eq_ediv_of_nonneg (by omega)]; omega
          have e4 : IntKind.u64.wrap ((V : Int).tdiv 2) = ((V / 2 : Nat) : Int) := by
            rw [IntKind.wrap_u64, Int.tdiv_eq_ediv_of_nonneg (by omega)]; omega
          have h5 : (Q + P) / 2 = partN v n (k + 1) := by rw [partN_succ, ← hQ, ← hV, hb, hP]
          have h6 : V / 2 = v / 2 ^ (k + 1) := by rw [hV, Nat.div_div_eq_div_mul, Nat.pow_succ]
          obtain ⟨S, hS⟩ : ∃ S, Q + P = S := ⟨_, rfl⟩
          rw [hS] at e2 e3 h5
          have hSl : S < 18446744073709551616 := by omega
          have H5 := Lib.hid h5
          have H6 := Lib.hid h6
          clear hV hQ hm2 hm hb hP h5 h6 hS hPn h0
          go_wp2_with fail
          go_roundw
          case rel => exact ⟨k + 1, V / 2, S / 2, by omega, by go_num, H6.out, H5.out, by first | rfl | rw [e4], by simp, by first | rfl | trivial⟩
          case measure => simp [intOf]; omega
      · obtain rfl : k = 64 := by omega
        rw [partN_all v n hv] at hQ
        subst hQ
        clear hV
        go_wp2_with fail
        go_meet
        exact ⟨rfl, rfl⟩
  case rest =>
    obtain ⟨rfl, rfl⟩ := hcut
    go_wp2
    simp only [Exit.noGoto]
    go_ret
    exact ⟨rfl, rfl⟩

set_option maxRecDepth 100000 in
set_option maxHeartbeats 1000000 in
theorem leastR_calls (k n : Nat) (hk : k ≤ n) (hn : 0 < n) (hn2 : n < 9223372036854775808) (w : World) :
    Calls Try.prog 38 #[.int .u64 (k : Int), .int .u64 (n : Int)] w fun e w' => e = .returned (.int .u64 ((ceiN k n % 18446744073709551616 : Nat) : Int)) ∧ w = w' := by
  obtain ⟨r, hr⟩ : ∃ r, k % n = r := ⟨_, rfl⟩
  have hrn : r < n := hr ▸ Nat.mod_lt _ hn
  have hr2 : (k : Int) % (n : Int) = (r : Int) := by rw [← hr]; exact (Int.natCast_emod k n).symm
  have hn0 : ((n : Int) == 0) = false := by rw [beq_eq_false_iff_ne]; omega
  go_enter Try.func38, Try.ntmps38
  go_wp2_with fail
  go_step3
  go_upto_region 3 with fail
  rw [hr2]
  clear hr2
  go_wp2_with fail
  go_step3
  go_upto_block 0 with fail
  go_cut [5, 6] (fun q s wx => q = .int .u64 (quoN r n 64 : Int) ∧ s = .int .u64 (remN r n 64 : Int) ∧ wx = w)
  case first =>
    go_wp2_with fail
    go_loopw [5, 6, 7] (fun q s i wr => ∃ d Q R : Nat, d ≤ 64 ∧ i = .int .i64 ((d : Int) - 1) ∧ Q = quoN r n (64 - d) * 2 ^ d ∧ R = remN r n (64 - d) ∧ q = .int .u64 (Q : Int) ∧ s = .int .u64 (R : Int) ∧ wr = w) (fun _ _ i _ => (intOf i + 1).toNat)
    case atStart => exact ⟨64, 0, r, by omega, rfl, by rw [(quoN_zero r n hrn).1, Nat.zero_mul], (quoN_zero r n hrn).2.symm, rfl, rfl, rfl⟩
    case round =>
      obtain ⟨d, Q, R, hd, rfl, hQ, hR, rfl, rfl, rfl⟩ := hrel
      by_cases hlt : 0 < d
      · obtain ⟨b, rfl⟩ : ∃ b, d = b + 1 := ⟨d - 1, by omega⟩
        have ej : ((b + 1 : Nat) : Int) - 1 = (b : Int) := by omega
        rw [ej]
        have hRn : R < n := hR ▸ remN_lt r n _ hn
        by_cases h0 : R = 0
        · have hdn := quoN_done r n (64 - (b + 1)) 64 hn (by omega) (by rw [← hR]; exact h0)
          rw [show 64 - (64 - (b + 1)) = b + 1 by omega, ← hQ] at hdn
          obtain ⟨h1, h2⟩ := hdn
          have H1 := Lib.hid h1
          have H2 := Lib.hid h2
          have hb : b < 64 := by omega
          subst h0
          clear hQ hR h1 h2 hRn
          go_wp2_with fail
          go_meet
          exact ⟨by rw [H1.out], by rw [H2.out], rfl⟩
        · have hR0 : ((R : Int) == 0) = false := by rw [beq_eq_false_iff_ne]; omega
          have hb : b < 64 := by omega
          obtain ⟨j, hj⟩ : ∃ j, 64 - (b + 1) = j := ⟨_, rfl⟩
          have hj2 : 64 - b = j + 1 := by omega
          rw [hj] at hQ hR
          have hst := quoN_step r n j hn
          rw [← hR] at hst
          obtain ⟨Y, hY⟩ : ∃ Y, 2 ^ b = Y := ⟨_, rfl⟩
          have hYc : (2 : Int) ^ b = (Y : Int) := by rw [← hY, Int.natCast_pow]; rfl
          have hYl : Y < 18446744073709551616 := by
            rw [← hY]; exact Nat.pow_lt_pow_right (a := 2) (by omega) (show b < 64 from hb)
          have hql := quoN_lt r n (j + 1) hrn
          have hpw : 2 ^ (j + 1) * Y = 18446744073709551616 := by rw [← hY, ← Nat.pow_add, show j + 1 + b = 64 by omega]
          have hQl : Q < 18446744073709551616 := by
            rw [hQ, Nat.pow_succ]
            have h1 := quoN_lt r n j hrn
            have h2 : quoN r n j + 1 ≤ 2 ^ j := h1
            have h3 : (quoN r n j + 1) * (2 ^ b * 2) ≤ 2 ^ j * (2 ^ b * 2) := Nat.mul_le_mul_right _ h2
            have h4 : 2 ^ j * (2 ^ b * 2) = 18446744073709551616 := by rw [← hpw, ← hY, Nat.pow_succ, Nat.mul_assoc, Nat.mul_comm 2]
            have h5 : 0 < 2 ^ b := Nat.pow_pos (by omega)
            rw [Nat.succ_mul, h4] at h3
            omega
          have hor : bits .or .u64 (Q : Int) (Y : Int) = ((Q + Y : Nat) : Int) := by
            rw [bits_or_nat Q Y hQl hYl, hQ, ← hY, or_low]
          have hsh : IntKind.u64.wrap (1 * (2 : Int) ^ b) = (Y : Int) := by rw [hYc, Int.one_mul, IntKind.wrap_u64]; omega
          have hd2 : IntKind.u64.wrap ((R : Int) * 2) = ((2 * R : Nat) : Int) := by rw [IntKind.wrap_u64]; omega
          by_cases hge : n ≤ 2 * R
          · obtain ⟨s1, s2⟩ := hst.1 hge
            have h1 : Q + Y = quoN r n (64 - b) * 2 ^ b := by
              rw [hj2, s1, hQ, Nat.pow_succ, ← hY, Nat.add_mul, Nat.one_mul, Nat.mul_comm (2 ^ b) 2, ← Nat.mul_assoc, Nat.mul_comm _ 2]
            have h2 : 2 * R - n = remN r n (64 - b) := by rw [hj2, s2]
            obtain ⟨T, hT⟩ : ∃ T, 2 * R - n = T := ⟨_, rfl⟩
            have hsub : (2 * (R : Int)) - (n : Int) = (T : Int) := by omega
            have hsub2 : ((R : Int) * 2) - (n : Int) = (T : Int) := by omega
            have hTn : T < n := by omega
            have hg2 : decide ((n : Int) ≤ 2 * (R : Int)) = true := decide_eq_true (by omega)
            have hg3 : decide (n ≤ 2 * R) = true := decide_eq_true (by omega)
            rw [hT] at h2
            have H1 := Lib.hid h1
            have H2 := Lib.hid h2
            have hge2 : (n : Int) ≤ (R : Int) * 2 := by omega
            clear hQ hR h1 h2 hst hY hpw hql hj hj2 s1 s2 hT ej hlt
            go_wp2_with fail
            go_roundw
            case rel => exact ⟨b, Q + Y, T, by omega, by go_num, H1.out, H2.out, by go_num, rfl, trivial⟩
            case measure => simp [intOf]
          · obtain ⟨s1, s2⟩ := hst.2 (by omega)
            have h1 : Q = quoN r n (64 - b) * 2 ^ b := by
              rw [hj2, s1, hQ, Nat.pow_succ, Nat.mul_comm (2 ^ b) 2, ← Nat.mul_assoc, Nat.mul_comm _ 2]
            have h2 : 2 * R = remN r n (64 - b) := by rw [hj2, s2]
            have H1 := Lib.hid h1
            have H2 := Lib.hid h2
            have hge2 : ¬ (n : Int) ≤ (R : Int) * 2 := by omega
            clear hQ hR h1 h2 hst hY hpw hql hj hj2 s1 s2 ej hlt
            go_wp2_with fail
            go_roundw
            case rel => exact ⟨b, Q, 2 * R, by omega, by go_num, H1.out, H2.out, rfl, by go_num, trivial⟩
            case measure => simp [intOf]
      · obtain rfl : d = 0 := by omega
        rw [Nat.pow_zero, Nat.mul_one, Nat.sub_zero] at hQ
        rw [Nat.sub_zero] at hR
        subst hQ
        subst hR
        go_wp2_with fail
        go_meet
        exact ⟨rfl, rfl, rfl⟩
  case rest =>
    obtain ⟨rfl, rfl, rfl⟩ := hcut
    have hl := remN_lt r n 64 hn
    have hc : (ceiN k n % 18446744073709551616 : Nat) = quoN r n 64 + if 0 < remN r n 64 then 1 else 0 := by
      by_cases hkn : k = n
      · subst hkn
        rw [Nat.mod_self] at hr
        subst hr
        rw [ceiN_all k hn]
        simp [quoN, remN]
      · rw [← hr, Nat.mod_eq_of_lt (show k < n by omega), Nat.mod_eq_of_lt (ceiN_lt k n (by omega) (by omega)), ceiN_quo k n hn]
    have hq := quoN_lt r n 64 hrn
    generalize quoN r n 64 = Q at *
    generalize remN r n 64 = R at *
    have hcl : ceiN k n % 18446744073709551616 < 18446744073709551616 := Nat.mod_lt _ (by omega)
    by_cases h0 : R = 0
    · rw [if_neg (by omega)] at hc
      have HC := Lib.hid hc
      subst h0
      clear hc
      go_wp2
      simp only [Exit.noGoto]
      go_ret
      exact ⟨by rw [HC.out]; rfl, rfl⟩
    · rw [if_pos (by omega)] at hc
      have h1 : (decide ((0 : Int) < (R : Int))) = true := decide_eq_true (by omega)
      have hQ1 : Q + 1 < 18446744073709551616 := by omega
      have HC := Lib.hid hc
      clear hc
      go_wp2
      simp only [Exit.noGoto]
      go_ret
      exact ⟨by rw [HC.out]; simp, rfl⟩
end Go.Proofs.Ytfcajgfhmfpchaa
