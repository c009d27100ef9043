/-
  CONTRACTS of rng.Below and rng.Range, and of Below, least and Range of the reference.
-/
import Derived.Test.YtfcajgfhmfpchaaRngA
import Derived.Deep.QuietTactic
import Derived.BigQuiet
namespace Go.Proofs.Ytfcajgfhmfpchaa
open Go.RowKit Pl

/-! Of the program. -/
theorem below_yes (v n : Nat) (hv : v < 18446744073709551616) (hn : 0 < n) (hn2 : n < 9223372036854775808) (w : World) :
    Calls Try.prog 26 #[.int .u64 (v : Int), .int .i64 (n : Int)] w fun e w' => e = .returned (.tuple #[.int .i64 (belN v n : Int), .int .i64 0]) ∧ w = w' := by
  have hS := Lib.hid (fun W => scaled_calls v n hv hn hn2 W)
  have hl := belN_lt v n hv hn
  have hle : decide ((n : Int) < 1) = false := decide_eq_false (by omega)
  generalize belN v n = b at *
  go_enter Try.func26, Try.ntmps26
  go_wp2_with fail
  refine (hS.out _).mono ?_
  rintro e w' ⟨rfl, rfl⟩
  go_wp2
  go_ret2
  exact ⟨rfl, rfl⟩
theorem below_no (v : Nat) (y : Int) (hy : y < 1) (w : World) :
    Calls Try.prog 26 #[.int .u64 (v : Int), .int .i64 y] w fun e w' => e = .returned (.tuple #[.int .i64 0, .int .i64 60]) ∧ w = w' := by
  go_enter Try.func26, Try.ntmps26
  go_wp2
  go_ret2
  exact ⟨rfl, rfl⟩
theorem range_yes (n k : Nat) (hk : k < n) (hn2 : n < 9223372036854775808) (w : World) :
    Calls Try.prog 25 #[.int .i64 (n : Int), .int .i64 (k : Int)] w fun e w' => e = .returned (.tuple #[.int .u64 (ceiN k n : Int), .int .u64 ((ceiN (k + 1) n - 1 : Nat) : Int), .int .i64 0]) ∧ w = w' := by
  have hA := Lib.hid (fun W => leastR_calls k n (by omega) (by omega) hn2 W)
  have hB := Lib.hid (fun W => leastR_calls (k + 1) n hk (by omega) hn2 W)
  have h1 := ceiN_lt k n hk (by omega)
  have h2 := ceiN_step k n (by omega) (by omega)
  have h3 := ceiN_mono n (by omega) (show k + 1 ≤ n from hk)
  rw [ceiN_all n (by omega)] at h3
  rw [Nat.mod_eq_of_lt h1] at hA
  generalize ceiN k n = a at *
  generalize ceiN (k + 1) n = b at *
  have he : IntKind.u64.wrap (((b % 18446744073709551616 : Nat) : Int) - 1) = ((b - 1 : Nat) : Int) := by rw [IntKind.wrap_u64]; omega
  obtain ⟨c, hc⟩ : ∃ c, b % 18446744073709551616 = c := ⟨_, rfl⟩
  have hcl : c < 18446744073709551616 := by omega
  rw [hc] at he hB
  have hk1 : (k : Int) < (n : Int) := by omega
  have HE := Lib.hid he
  have e1 : ((k + 1 : Nat) : Int) = (k : Int) + 1 := by omega
  rw [e1] at hB
  clear h2 h3 hc he
  go_enter Try.func25, Try.ntmps25
  go_wp2_with fail
  refine (hA.out _).mono ?_
  rintro e w' ⟨rfl, rfl⟩
  go_wp2_with fail
  refine (hB.out _).mono ?_
  rintro e w' ⟨rfl, rfl⟩
  go_wp2
  go_ret3
  exact ⟨by rw [← HE.out]; rfl, rfl⟩
theorem range_none (y z : Int) (hy : y < 1) (w : World) :
    Calls Try.prog 25 #[.int .i64 y, .int .i64 z] w fun e w' => e = .returned (.tuple #[.int .u64 0, .int .u64 0, .int .i64 60]) ∧ w = w' := by
  go_enter Try.func25, Try.ntmps25
  go_wp2
  go_ret3
  exact ⟨rfl, rfl⟩
theorem range_off (y z : Int) (hy : 1 ≤ y) (hz : z < 0 ∨ y ≤ z) (w : World) :
    Calls Try.prog 25 #[.int .i64 y, .int .i64 z] w fun e w' => e = .returned (.tuple #[.int .u64 0, .int .u64 0, .int .i64 2]) ∧ w = w' := by
  by_cases h0 : z < 0
  · go_enter Try.func25, Try.ntmps25
    go_wp2
    go_ret3
    exact ⟨rfl, rfl⟩
  · have h1 : y ≤ z := by omega
    clear hz
    go_enter Try.func25, Try.ntmps25
    go_wp2
    go_ret3
    exact ⟨rfl, rfl⟩

/-! Of the reference. -/
set_option maxRecDepth 100000 in
set_option maxHeartbeats 1000000 in
theorem rBelow_calls (v n : Nat) (hv : v < 18446744073709551616) (hn : 0 < n) (hn2 : n < 9223372036854775808) (w : World) :
    Calls Try.prog 19 #[.int .u64 (v : Int), .int .i64 (n : Int)] w fun e w' => e = .returned (.int .i64 (belN v n : Int)) ∧ w = w' := by
  go_enter Try.func19, Try.ntmps19
  go_wp2
  go_loop [5, 6] (fun q i => ∃ k Q : Nat, k ≤ 64 ∧ i = .int .i64 (k : Int) ∧ Q = partN v n k ∧ q = .int .u64 (Q : Int)) (fun _ i => 64 - (intOf i).toNat)
  case atStart => exact ⟨0, 0, by omega, rfl, (partN_zero v n).symm, rfl⟩
  case round =>
    obtain ⟨k, Q, hk, rfl, hQ, rfl⟩ := hrel
    have hQn : Q < n := hQ ▸ partN_lt v n k hn
    by_cases hlt : k < 64
    · have h5 := partN_succ v n k
      rw [← hQ] at h5
      have hdv := div_pow_cast v k
      generalize v / 2 ^ k = V at *
      obtain ⟨b, hb⟩ : ∃ b : Nat, V % 2 = b := ⟨_, rfl⟩
      have hb2 : (V : Int) % 2 = (b : Int) := by omega
      rw [hb] at h5
      have hbl : b < 2 := by omega
      have H5 := Lib.hid h5
      obtain rfl | rfl : b = 0 ∨ b = 1 := by omega
      · clear hQ h5 hb
        rw [Nat.zero_mul, Nat.add_zero] at H5
        go_wp2
        go_round
        case rel => exact ⟨k + 1, Q / 2, by omega, by go_num, H5.out.symm, by simp⟩
        case measure => simp [intOf]; omega
      · clear hQ h5 hb
        rw [Nat.one_mul] at H5
        go_wp2
        go_round
        case rel => exact ⟨k + 1, (Q + n) / 2, by omega, by go_num, H5.out.symm, by simp⟩
        case measure => simp [intOf]; omega
    · obtain rfl : k = 64 := by omega
      rw [partN_all v n hv] at hQ
      subst hQ
      go_wp2
      go_ret
      exact ⟨rfl, rfl⟩

theorem rleast_all (n k : Nat) (hk : n ≤ k) (w : World) :
    Calls Try.prog 44 #[.int .i64 (n : Int), .int .i64 (k : Int)] w fun e w' => e = .returned (.int .u64 0) ∧ w = w' := by
  have h : (n : Int) ≤ (k : Int) := by omega
  go_enter Try.func44, Try.ntmps44
  go_wp2
  go_ret
  exact ⟨rfl, rfl⟩
set_option maxRecDepth 100000 in
set_option maxHeartbeats 1000000 in
theorem rleast_calls (n k : Nat) (hk : k < n) (hn2 : n < 9223372036854775808) (w : World) :
    Calls Try.prog 44 #[.int .i64 (n : Int), .int .i64 (k : Int)] w fun e w' => e = .returned (.int .u64 (ceiN k n : Int)) ∧ w = w' := by
  have hB := Lib.hid (fun v hv W => rBelow_calls v n hv (by omega) hn2 W)
  have hX := ceiN_lt k n hk (by omega)
  have hle := Lib.hid (fun v => ceiN_le k n v (by omega))
  have hkn : decide (n ≤ k) = false := decide_eq_false (by omega)
  generalize ceiN k n = X at *
  go_enter Try.func44, Try.ntmps44
  go_wp2
  go_loopw [5, 6] (fun x y wr => ∃ lo hi : Nat, lo ≤ X ∧ X ≤ hi ∧ hi < 18446744073709551616 ∧ x = .int .u64 (lo : Int) ∧ y = .int .u64 (hi : Int) ∧ wr = w) (fun x y _ => (intOf y - intOf x).toNat)
  case atStart => exact ⟨0, 18446744073709551615, by omega, by omega, by omega, rfl, rfl, rfl⟩
  case round =>
    obtain ⟨lo, hi, hlo, hhi, hh, rfl, rfl, rfl⟩ := hrel
    by_cases hlt : lo < hi
    · obtain ⟨m, hm⟩ : ∃ m, lo + (hi - lo) / 2 = m := ⟨_, rfl⟩
      obtain ⟨d, hd⟩ : ∃ d : Nat, hi - lo = d := ⟨_, rfl⟩
      have hd2 : (hi : Int) - (lo : Int) = (d : Int) := by omega
      have hdl : d < 18446744073709551616 := by omega
      have hml : m < hi := by omega
      have hlm : lo ≤ m := by omega
      have hm2 : (lo : Int) + (d : Int) / 2 = (m : Int) := by omega
      have h1 := hB.out m (by omega) 
      have h1 := Lib.hid h1
      have hlt2 : (lo : Int) < (hi : Int) := by omega
      have hiff := hle.out m
      have hbl : belN m n < n := belN_lt m n (by omega) (by omega)
      have hm3 := hm
      generalize belN m n = b at *
      clear hm hd hm3
      go_wp2_with fail
      refine (h1.out _).mono ?_
      rintro e w' ⟨rfl, rfl⟩
      by_cases hbk : k ≤ b
      · have hXm : X ≤ m := hiff.2 hbk
        have hbk2 : (k : Int) ≤ (b : Int) := by omega
        clear hiff
        go_wp2
        go_roundw
        case rel => exact ⟨lo, m, hlo, hXm, by omega, rfl, rfl, by first | rfl | trivial⟩
        case measure => simp [intOf]; omega
      · have hXm : ¬ X ≤ m := fun h => hbk (hiff.1 h)
        have hbk2 : ¬ (k : Int) ≤ (b : Int) := by omega
        clear hiff
        go_wp2
        go_roundw
        case rel => exact ⟨m + 1, hi, by omega, hhi, hh, by go_num, rfl, by first | rfl | trivial⟩
        case measure => simp [intOf]; omega
    · obtain rfl : lo = X := by omega
      go_wp2
      go_ret
      exact ⟨rfl, rfl⟩
theorem rRange_calls (n k : Nat) (hk : k < n) (hn2 : n < 9223372036854775808) (w : World) :
    Calls Try.prog 36 #[.int .i64 (n : Int), .int .i64 (k : Int)] w fun e w' => e = .returned (.tuple #[.int .u64 (ceiN k n : Int), .int .u64 ((ceiN (k + 1) n - 1 : Nat) : Int)]) ∧ w = w' := by
  have hA := Lib.hid (fun W => rleast_calls n k hk hn2 W)
  have h1 := ceiN_lt k n hk (by omega)
  have h2 := ceiN_step k n (by omega) (by omega)
  by_cases hl : k + 1 < n
  · have hB := Lib.hid (fun W => rleast_calls n (k + 1) hl hn2 W)
    have h3 := ceiN_lt (k + 1) n hl (by omega)
    generalize ceiN k n = a at *
    generalize ceiN (k + 1) n = b at *
    have e1 : ((k + 1 : Nat) : Int) = (k : Int) + 1 := by omega
    rw [e1] at hB
    have e2 : ((b - 1 : Nat) : Int) = (b : Int) - 1 := by omega
    rw [e2]
    go_enter Try.func36, Try.ntmps36
    go_wp2_with fail
    refine (hA.out _).mono ?_
    rintro e w' ⟨rfl, rfl⟩
    go_wp2_with fail
    refine (hB.out _).mono ?_
    rintro e w' ⟨rfl, rfl⟩
    go_wp2
    go_ret2
    exact ⟨rfl, rfl⟩
  · obtain rfl : n = k + 1 := by omega
    have hB := Lib.hid (fun W => rleast_all (k + 1) (k + 1) (Nat.le_refl _) W)
    rw [ceiN_all (k + 1) (by omega)]
    generalize ceiN k (k + 1) = a at *
    have e1 : ((k + 1 : Nat) : Int) = (k : Int) + 1 := by omega
    rw [e1] at hB hA
    rw [e1]
    clear h2
    go_enter Try.func36, Try.ntmps36
    go_wp2_with fail
    refine (hA.out _).mono ?_
    rintro e w' ⟨rfl, rfl⟩
    go_wp2_with fail
    refine (hB.out _).mono ?_
    rintro e w' ⟨rfl, rfl⟩
    go_wp2
    go_ret2
    exact ⟨rfl, rfl⟩
end Go.Proofs.Ytfcajgfhmfpchaa
