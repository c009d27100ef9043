/-
  CONTRACTS of the document's own Fold, Unfold, Mix, quotient and Unmix of layer 5.
-/
import Derived.Test.YtnghalhmbjiefaaMixA
import Derived.Test.YtnghalhmbjiefaaMixRefP
import Derived.Deep.QuietTactic
import Derived.BigQuiet
namespace Go.Proofs.Ytnghalhmbjiefaa
open Go.RowKit

theorem div_pow_cast (X k : Nat) : (X : Int) / 2 ^ k = ((X / 2 ^ k : Nat) : Int) := by
  rw [Int.natCast_ediv, Int.natCast_pow]; rfl
theorem shl_cast (c k D : Nat) (hD : D = c * 2 ^ k) (h : D < 18446744073709551616) : IntKind.u64.wrap ((c : Int) * 2 ^ k) = (D : Int) := by
  subst hD
  rw [IntKind.wrap_u64]
  have : (c : Int) * 2 ^ k = ((c * 2 ^ k : Nat) : Int) := by rw [Int.natCast_mul, Int.natCast_pow]; rfl
  rw [this]
  omega

set_option maxRecDepth 100000 in
set_option maxHeartbeats 1000000 in
theorem rfold_calls (x : BitVec 64) (n : Nat) (h1 : 1 ≤ n) (hn : n < 64) (w : World) :
    Calls Try.prog 24 #[.int .u64 (x.toNat : Int), .int .i64 (n : Int)] w fun e w' => e = .returned (.int .u64 ((foldB x n).toNat : Int)) ∧ w = w' := by
  go_enter Try.func24, Try.ntmps24
  go_wp2
  go_loop [5, 6] (fun o i => ∃ k O : Nat, k ≤ 64 ∧ i = .int .i64 (k : Int) ∧ O = (foldB x n).toNat % 2 ^ k ∧ o = .int .u64 (O : Int)) (fun _ i => 64 - (intOf i).toNat)
  case atStart => exact ⟨0, 0, by omega, rfl, by simp [Nat.mod_one], rfl⟩
  case round =>
    obtain ⟨k, O, hk, rfl, hO, rfl⟩ := hrel
    by_cases hlt : k < 64
    · have hstep := low_step (foldB x n).toNat k
      have hF := (foldB x n).isLt
      have hbit := bit_fold x n k
      have hle : (foldB x n).toNat % 2 ^ (k + 1) ≤ (foldB x n).toNat := Nat.mod_le _ _
      generalize hcc : bitN (foldB x n).toNat k = c at *
      obtain ⟨O2, hO2⟩ : ∃ O2, O2 = (foldB x n).toNat % 2 ^ (k + 1) := ⟨_, rfl⟩
      rw [← hO2, ← hO] at hstep
      rw [← hO2] at hle
      obtain ⟨D, hD⟩ : ∃ D, D = c * 2 ^ k := ⟨_, rfl⟩
      rw [← hD] at hstep
      have hDlt : D < 18446744073709551616 := by omega
      have hsh := shl_cast c k D hD hDlt
      have hadd : IntKind.u64.wrap ((O : Int) + (D : Int)) = (O2 : Int) := by rw [IntKind.wrap_u64]; omega
      have hA := div_pow_cast x.toNat k
      obtain ⟨m, hm⟩ : ∃ m : Nat, (k : Int) + (n : Int) = (m : Int) := ⟨k + n, by omega⟩
      have hmn : m = k + n := by omega
      have HO2 := Lib.hid hO2
      rw [← hmn] at hbit
      have hB := div_pow_cast x.toNat m
      unfold bitN at hbit
      generalize x.toNat / 2 ^ k = A at *
      generalize x.toNat / 2 ^ m = B at *
      obtain ⟨a, ha⟩ : ∃ a : Nat, (A : Int) % 2 = (a : Int) := ⟨A % 2, by omega⟩
      obtain ⟨b, hb⟩ : ∃ b : Nat, (B : Int) % 2 = (b : Int) := ⟨B % 2, by omega⟩
      have ha2 : A % 2 = a := by omega
      have hb2 : B % 2 = b := by omega
      rw [ha2, hb2] at hbit
      have hal : a < 2 := by omega
      have hbl : b < 2 := by omega
      clear hcc hstep hle hF hD hDlt hO hO2 hmn ha2 hb2
      by_cases h64 : m < 64
      · rw [if_pos h64] at hbit
        have hc : ((a : Int) + (b : Int)) % 2 = (c : Int) := by omega
        clear hbit
        go_wp2
        go_round
        case rel => exact ⟨k + 1, O2, by omega, by go_num, HO2.out, rfl⟩
        case measure => simp [intOf]; omega
      · rw [if_neg h64] at hbit
        subst hbit
        go_wp2
        go_round
        case rel => exact ⟨k + 1, O2, by omega, by go_num, HO2.out, rfl⟩
        case measure => simp [intOf]; omega
    · obtain rfl : k = 64 := by omega
      rw [low_all] at hO
      subst hO
      go_wp2
      go_ret
      exact ⟨rfl, rfl⟩

set_option maxRecDepth 100000 in
set_option maxHeartbeats 1000000 in
theorem runfold_calls (x : BitVec 64) (n : Nat) (h1 : 1 ≤ n) (hn : n < 64) (w : World) :
    Calls Try.prog 25 #[.int .u64 (x.toNat : Int), .int .i64 (n : Int)] w fun e w' => e = .returned (.int .u64 ((unfoldB x n).toNat : Int)) ∧ w = w' := by
  go_enter Try.func25, Try.ntmps25
  go_wp2
  go_loop [5, 6] (fun o i => ∃ k O : Nat, k ≤ 64 ∧ i = .int .i64 ((k : Int) - 1) ∧ O = hiN (unfoldB x n).toNat k ∧ o = .int .u64 (O : Int)) (fun _ i => (intOf i + 1).toNat)
  case atStart => exact ⟨64, 0, by omega, rfl, (hiN_top _).symm, rfl⟩
  case round =>
    obtain ⟨k, O, hk, rfl, hO, rfl⟩ := hrel
    by_cases hlt : 0 < k
    · obtain ⟨j, rfl⟩ : ∃ j, k = j + 1 := ⟨k - 1, by omega⟩
      have ej : ((j + 1 : Nat) : Int) - 1 = (j : Int) := by omega
      rw [ej]
      have hj : j < 64 := by omega
      have hstep := hiN_step (unfoldB x n).toNat j
      have hF := (unfoldB x n).isLt
      have hbit := bit_unfold x n j h1
      have hle := hiN_le (unfoldB x n).toNat j
      rw [← hO] at hbit hstep
      have hOF : O ≤ (unfoldB x n).toNat := by rw [hO]; exact hiN_le _ _
      generalize hcc : bitN (unfoldB x n).toNat j = c at *
      obtain ⟨O2, hO2⟩ : ∃ O2, O2 = hiN (unfoldB x n).toNat j := ⟨_, rfl⟩
      rw [← hO2] at hstep hle
      obtain ⟨D, hD⟩ : ∃ D, D = c * 2 ^ j := ⟨_, rfl⟩
      rw [← hD] at hstep
      have hDlt : D < 18446744073709551616 := by omega
      have hsh := shl_cast c j D hD hDlt
      have hadd : IntKind.u64.wrap ((O : Int) + (D : Int)) = (O2 : Int) := by rw [IntKind.wrap_u64]; omega
      have hA := div_pow_cast x.toNat j
      obtain ⟨m, hm⟩ : ∃ m : Nat, (j : Int) + (n : Int) = (m : Int) := ⟨j + n, by omega⟩
      have hmn : m = j + n := by omega
      have HO2 := Lib.hid hO2
      rw [← hmn] at hbit
      have hB := div_pow_cast O m
      unfold bitN at hbit
      generalize x.toNat / 2 ^ j = A at *
      generalize O / 2 ^ m = B at *
      obtain ⟨a, ha⟩ : ∃ a : Nat, (A : Int) % 2 = (a : Int) := ⟨A % 2, by omega⟩
      obtain ⟨b, hb⟩ : ∃ b : Nat, (B : Int) % 2 = (b : Int) := ⟨B % 2, by omega⟩
      have ha2 : A % 2 = a := by omega
      have hb2 : B % 2 = b := by omega
      rw [ha2, hb2] at hbit
      have hal : a < 2 := by omega
      have hbl : b < 2 := by omega
      clear hcc hstep hle hF hD hDlt hO hO2 hmn ha2 hb2 hlt ej hOF
      by_cases h64 : m < 64
      · rw [if_pos h64] at hbit
        have hc : ((a : Int) + (b : Int)) % 2 = (c : Int) := by omega
        clear hbit
        go_wp2
        go_round
        case rel => exact ⟨j, O2, by omega, by go_num, HO2.out, rfl⟩
        case measure => simp [intOf]
      · rw [if_neg h64] at hbit
        subst hbit
        go_wp2
        go_round
        case rel => exact ⟨j, O2, by omega, by go_num, HO2.out, rfl⟩
        case measure => simp [intOf]
    · obtain rfl : k = 0 := by omega
      rw [hiN_zero] at hO
      subst hO
      go_wp2
      go_ret
      exact ⟨rfl, rfl⟩

theorem rMix_calls (x : BitVec 64) (w : World) :
    Calls Try.prog 26 #[.int .u64 (x.toNat : Int)] w fun e w' => e = .returned (.int .u64 ((mixB x).toNat : Int)) ∧ w = w' := by
  have h1 := Lib.hid (fun W => rfold_calls x 30 (by omega) (by omega) W)
  have e1 : IntKind.u64.wrap (((foldB x 30).toNat : Int) * 13787848793156543929) = ((foldB x 30 * firstB).toNat : Int) := uv_mul _ firstB
  have h2 := Lib.hid (fun W => rfold_calls (foldB x 30 * firstB) 27 (by omega) (by omega) W)
  have e2 : IntKind.u64.wrap (((foldB (foldB x 30 * firstB) 27).toNat : Int) * 10723151780598845931) = ((foldB (foldB x 30 * firstB) 27 * secondB).toNat : Int) := uv_mul _ secondB
  have h3 := Lib.hid (fun W => rfold_calls (foldB (foldB x 30 * firstB) 27 * secondB) 31 (by omega) (by omega) W)
  have hx : mixB x = foldB (foldB (foldB x 30 * firstB) 27 * secondB) 31 := rfl
  rw [hx]
  generalize foldB (foldB (foldB x 30 * firstB) 27 * secondB) 31 = m5 at *
  generalize foldB (foldB x 30 * firstB) 27 * secondB = m4 at *
  generalize foldB (foldB x 30 * firstB) 27 = m3 at *
  generalize foldB x 30 * firstB = m2 at *
  generalize foldB x 30 = m1 at *
  clear hx
  go_enter Try.func26, Try.ntmps26
  go_wp2_with fail
  refine (h1.out _).mono ?_
  rintro e w' ⟨rfl, rfl⟩
  go_wp2_with fail
  refine (h2.out _).mono ?_
  rintro e w' ⟨rfl, rfl⟩
  go_wp2_with fail
  refine (h3.out _).mono ?_
  rintro e w' ⟨rfl, rfl⟩
  go_wp2
  go_ret
  exact ⟨rfl, rfl⟩

set_option maxRecDepth 100000 in
set_option maxHeartbeats 1000000 in
theorem divided_calls (z q y : BitVec 64) (hz0 : z = q * y) (hy : y.toNat % 2 = 1) (w : World) :
    Calls Try.prog 36 #[.int .u64 (z.toNat : Int), .int .u64 (y.toNat : Int)] w fun e w' => e = .returned (.int .u64 (q.toNat : Int)) ∧ ∃ n, w' = w.drewN n := by
  have hz := Lib.hid hz0
  clear hz0
  go_enter Try.func36, Try.ntmps36
  go_wp2
  go_loopw [5, 6] (fun o i wr => ∃ k O : Nat, k ≤ 64 ∧ i = .int .i64 (k : Int) ∧ O = q.toNat % 2 ^ k ∧ o = .int .u64 (O : Int) ∧ ∃ n, wr = w.drewN n) (fun _ i _ => 64 - (intOf i).toNat)
  case atStart => exact ⟨0, 0, by omega, rfl, by simp [Nat.mod_one], rfl, 0, rfl⟩
  case round =>
    obtain ⟨k, O, hk, rfl, hO, rfl, nd, rfl⟩ := hrel
    by_cases hlt : k < 64
    · have hqb := quo_bit q y k hlt hy
      rw [← hz.out] at hqb
      have hstep := low_step q.toNat k
      have hF := q.isLt
      have hle : q.toNat % 2 ^ (k + 1) ≤ q.toNat := Nat.mod_le _ _
      have hcl := bitN_lt q.toNat k
      generalize hcc : bitN q.toNat k = c at *
      obtain ⟨O2, hO2⟩ : ∃ O2, O2 = q.toNat % 2 ^ (k + 1) := ⟨_, rfl⟩
      rw [← hO2, ← hO] at hstep
      rw [← hO2] at hle
      rw [← hO] at hqb
      have HO2 := Lib.hid hO2
      have hmul : IntKind.u64.wrap ((O : Int) * (y.toNat : Int)) = ((O * y.toNat % 18446744073709551616 : Nat) : Int) := by
        rw [IntKind.wrap_u64, Int.natCast_emod, Int.natCast_mul]; rfl
      have hP : O * y.toNat % 18446744073709551616 < 18446744073709551616 := Nat.mod_lt _ (by omega)
      generalize O * y.toNat % 18446744073709551616 = P at *
      have hA := div_pow_cast P k
      have hB := div_pow_cast z.toNat k
      unfold bitN at hqb
      generalize P / 2 ^ k = A at *
      generalize z.toNat / 2 ^ k = B at *
      obtain ⟨a, ha⟩ : ∃ a : Nat, (A : Int) % 2 = (a : Int) := ⟨A % 2, by omega⟩
      obtain ⟨b, hb⟩ : ∃ b : Nat, (B : Int) % 2 = (b : Int) := ⟨B % 2, by omega⟩
      have ha2 : A % 2 = a := by omega
      have hb2 : B % 2 = b := by omega
      rw [ha2, hb2] at hqb
      have hab : ((a : Int) != (b : Int)) = decide (c = 1) := by
        rw [← hqb]
        by_cases h : a = b
        · subst h; simp
        · have : ¬ (a : Int) = (b : Int) := by omega
          rw [bne_iff_ne.2 this, bne_iff_ne.2 h]
      clear hcc hO hO2 ha2 hb2 hqb
      by_cases hc : c = 1
      · subst hc
        have hD : 2 ^ k < 18446744073709551616 := by omega
        have hsh : IntKind.u64.wrap (2 ^ k) = ((2 ^ k : Nat) : Int) := by have := shl_cast 1 k (2 ^ k) (by omega) hD; rwa [show ((1 : Nat) : Int) * 2 ^ k = 2 ^ k by simp] at this
        have hadd : IntKind.u64.wrap ((O : Int) + ((2 ^ k : Nat) : Int)) = (O2 : Int) := by rw [IntKind.wrap_u64]; omega
        have hab2 : ((a : Int) != (b : Int)) = true := by rw [hab]; rfl
        clear hab hstep hle hD hF hcl
        generalize ((2 ^ k : Nat) : Int) = D at *
        go_wp2
        go_quiet (fail)
        rename_i nq
        go_wp2
        go_roundw
        case rel => exact ⟨k + 1, O2, by omega, by go_num, HO2.out, rfl, nd + nq, by simp [World.drewN]⟩
        case measure => simp [intOf]; omega
      · have hab2 : ((a : Int) != (b : Int)) = false := by rw [hab]; exact decide_eq_false hc
        have hO2 : O2 = O := by
          have : c = 0 := by omega
          subst this
          omega
        clear hab hstep hle hF hcl
        go_wp2
        go_quiet (fail)
        rename_i nq
        go_wp2
        go_roundw
        case rel => exact ⟨k + 1, O, by omega, by go_num, by rw [← hO2]; exact HO2.out, rfl, nd + nq, by simp [World.drewN]⟩
        case measure => simp [intOf]; omega
    · obtain rfl : k = 64 := by omega
      rw [low_all] at hO
      subst hO
      go_wp2
      go_ret
      exact ⟨rfl, nd, rfl⟩
end Go.Proofs.Ytnghalhmbjiefaa
