/-
  CONTRACTS of the document's own Fold, Unfold, Mix, quotient and Unmix of layer 5.
-/
import Derived.Test.YtfcajgfhmfpchaaMixA
import Derived.Test.YtfcajgfhmfpchaaMixRefP
import Derived.Deep.QuietTactic
import Derived.BigQuiet
namespace Go.Proofs.Ytfcajgfhmfpchaa
open Go.RowKit

theorem div_pow_cast (X k : Nat) : (X : Int) / 2 ^ k = ((X / 2 ^ k : Nat) : Int) := by
  rw [Int.natCast_ediv, Int.natCast_pow]; rfl
theorem shl_cast (c k D : Nat) (hD : D = c * 2 ^ k) (h : D < 18446744073709551616) : IntKind.u64.wrap ((c : Int) * 2 ^ k) = (D : Int) := by
  subst hD
  rw [IntKind.wrap_u64]
  have : (c : Int) * 2 ^ k = ((c * 2 ^ k : Nat) : Int) := by rw [Int.natCast_mul, Int.natCast_pow]; rfl
  rw [this]
  omega

set_option maxRecDepth 100000 in
set_option maxHeartbeats 1000000 in
theorem rfold_calls (x : BitVec 64) (n : Nat) (h1 : 1 ≤ n) (hn : n < 64) (w : World) :
    Calls Try.prog 42 #[.int .u64 (x.toNat : Int), .int .i64 (n : Int)] w fun e w' => e = .returned (.int .u64 ((foldB x n).toNat : Int)) ∧ w = w' := by
  go_enter Try.func42, Try.ntmps42
  go_wp2
  go_loop [5, 6] (fun o i => ∃ k O : Nat, k ≤ 64 ∧ i = .int .i64 (k : Int) ∧ O = (foldB x n).toNat % 2 ^ k ∧ o = .int .u64 (O : Int)) (fun _ i => 64 - (intOf i).toNat)
  case atStart => exact ⟨0, 0, by omega, rfl, by simp [Nat.mod_one], rfl⟩
  case round =>
    obtain ⟨k, O, hk, rfl, hO, rfl⟩ := hrel
    by_cases hlt : k < 64
    · have hstep := low_step (foldB x n).toNat k
      have hF := (foldB x n).isLt
      have hbit := bit_fold x n k
      have hle : (foldB x n).toNat % 2 ^ (k + 1) ≤ (foldB x n).toNat := Nat.mod_le _ _
      generalize hcc : bitN (foldB x n).toNat k = c at *
      obtain ⟨O2, hO2⟩ : ∃ O2, O2 = (foldB x n).toNat % 2 ^ (k + 1) := ⟨_, rfl⟩
      rw [← hO2, ← hO] at hstep
      rw [← hO2] at hle
      obtain ⟨D, hD⟩ : ∃ D, D = c * 2 ^ k := ⟨_, rfl⟩
      rw [← hD] at hstep
      have hDlt : D < 18446744073709551616 := by omega
      have hsh := shl_cast c k D hD hDlt
      have hadd : IntKind.u64.wrap ((O : Int) + (D : Int)) = (O2 : Int) := by rw [IntKind.wrap_u64]; omega
      have hA := div_pow_cast x.toNat k
      obtain ⟨m, hm⟩ : ∃ m : Nat, (k : Int) + (n : Int) = (m : Int) := ⟨k + n, by omega⟩
      have hmn : m = k + n := by omega
      have HO2 := Lib.hid hO2
      rw [← hmn] at hbit
      have hB := div_pow_cast x.toNat m
      unfold bitN at hbit
      generalize x.toNat / 2 ^ k = A at *
      generalize x.toNat / 2 ^ m = B at *
      obtain ⟨a, ha⟩ : ∃ a : Nat, (A : Int) % 2 = (a : Int) := ⟨A % 2, by omega⟩
      obtain ⟨b, hb⟩ : ∃ b : Nat, (B : Int) % 2 = (b : Int) := ⟨B % 2, by omega⟩
      have ha2 : A % 2 = a := by omega
      have hb2 : B % 2 = b := by omega
      rw [ha2, hb2] at hbit
      have hal : a < 2 := by omega
      have hbl : b < 2 := by omega
      clear hcc hstep hle hF hD hDlt hO hO2 hmn ha2 hb2
      by_cases h64 : m < 64
      · rw [if_pos h64] at hbit
        have hc : ((a : Int) + (b : Int)) % 2 = (c : Int) := by omega
        clear hbit
        go_wp2
        go_round
        case rel => exact ⟨k + 1, O2, by omega, by go_num, HO2.out, rfl⟩
        case measure => simp [intOf]; omega
      · rw [if_neg h64] at hbit
        subst hbit
        go_wp2
        go_round
        case rel => exact ⟨k + 1, O2, by omega, by go_num, HO2.out, rfl⟩
        case measure => simp [intOf]; omega
    · obtain rfl : k = 64 := by omega
      rw [low_all] at hO
      subst hO
      go_wp2
      go_ret
      exact ⟨rfl, rfl⟩

theorem rMix_calls (x : BitVec 64) (w : World) :
    Calls Try.prog 32 #[.int .u64 (x.toNat : Int)] w fun e w' => e = .returned (.int .u64 ((mixB x).toNat : Int)) ∧ w = w' := by
  have h1 := Lib.hid (fun W => rfold_calls x 30 (by omega) (by omega) W)
  have e1 : IntKind.u64.wrap (((foldB x 30).toNat : Int) * 13787848793156543929) = ((foldB x 30 * firstB).toNat : Int) := uv_mul _ firstB
  have h2 := Lib.hid (fun W => rfold_calls (foldB x 30 * firstB) 27 (by omega) (by omega) W)
  have e2 : IntKind.u64.wrap (((foldB (foldB x 30 * firstB) 27).toNat : Int) * 10723151780598845931) = ((foldB (foldB x 30 * firstB) 27 * secondB).toNat : Int) := uv_mul _ secondB
  have h3 := Lib.hid (fun W => rfold_calls (foldB (foldB x 30 * firstB) 27 * secondB) 31 (by omega) (by omega) W)
  have hx : mixB x = foldB (foldB (foldB x 30 * firstB) 27 * secondB) 31 := rfl
  rw [hx]
  generalize foldB (foldB (foldB x 30 * firstB) 27 * secondB) 31 = m5 at *
  generalize foldB (foldB x 30 * firstB) 27 * secondB = m4 at *
  generalize foldB (foldB x 30 * firstB) 27 = m3 at *
  generalize foldB x 30 * firstB = m2 at *
  generalize foldB x 30 = m1 at *
  clear hx
  go_enter Try.func32, Try.ntmps32
  go_wp2_with fail
  refine (h1.out _).mono ?_
  rintro e w' ⟨rfl, rfl⟩
  go_wp2_with fail
  refine (h2.out _).mono ?_
  rintro e w' ⟨rfl, rfl⟩
  go_wp2_with fail
  refine (h3.out _).mono ?_
  rintro e w' ⟨rfl, rfl⟩
  go_wp2
  go_ret
  exact ⟨rfl, rfl⟩

end Go.Proofs.Ytfcajgfhmfpchaa
