/-
  PLAIN FACTS on the document's own Fold, Unfold and quotient of layer 5, bit by bit.
-/
import Derived.Test.YtfcajgfhmfpchaaMixPlain
namespace Go.Proofs.Ytfcajgfhmfpchaa

/-- Bit i of a number. -/
def bitN (x i : Nat) : Nat := x / 2 ^ i % 2
theorem bitN_lt (x i : Nat) : bitN x i < 2 := Nat.mod_lt _ (by omega)
theorem bitN_testBit (x i : Nat) : x.testBit i = decide (bitN x i = 1) := Nat.testBit_eq_decide_div_mod_eq
theorem bitN_eq_of (x y i : Nat) (h : x.testBit i = y.testBit i) : bitN x i = bitN y i := by
  rw [bitN_testBit, bitN_testBit] at h
  have h1 := bitN_lt x i
  have h2 := bitN_lt y i
  have := decide_eq_decide.1 h
  omega
theorem bitN_fold (x : BitVec 64) (n i : Nat) : bitN (foldB x n).toNat i = (bitN x.toNat i + bitN x.toNat (i + n)) % 2 := by
  have h : (foldB x n).toNat.testBit i = (x.toNat.testBit i ^^ x.toNat.testBit (i + n)) := by
    unfold foldB
    rw [BitVec.toNat_xor, BitVec.toNat_ushiftRight, Nat.testBit_xor, Nat.testBit_shiftRight, Nat.add_comm]
  rw [bitN_testBit, bitN_testBit, bitN_testBit] at h
  have h1 := bitN_lt (foldB x n).toNat i
  have h2 := bitN_lt x.toNat i
  have h3 := bitN_lt x.toNat (i + n)
  by_cases a : bitN x.toNat i = 1 <;> by_cases b : bitN x.toNat (i + n) = 1 <;> simp [a, b] at h <;> omega
theorem bitN_high (x : BitVec 64) (i : Nat) (h : 64 ≤ i) : bitN x.toNat i = 0 := by
  unfold bitN
  have h1 := x.isLt
  have h2 : 2 ^ 64 ≤ 2 ^ i := Nat.pow_le_pow_right (by omega) h
  rw [Nat.div_eq_of_lt (by omega)]
/-- The bit that Fold's reference finds. -/
theorem bit_fold (x : BitVec 64) (n i : Nat) : bitN (foldB x n).toNat i = if i + n < 64 then (bitN x.toNat i + bitN x.toNat (i + n)) % 2 else bitN x.toNat i := by
  rw [bitN_fold]
  split
  · rfl
  · have e := bitN_high x (i + n) (by omega)
    rw [e]
    have := bitN_lt x.toNat i
    omega
theorem low_step (F k : Nat) : F % 2 ^ (k + 1) = F % 2 ^ k + bitN F k * 2 ^ k := by
  rw [Nat.mod_pow_succ, Nat.mul_comm]; rfl
theorem low_all (x : BitVec 64) : x.toNat % 2 ^ 64 = x.toNat := Nat.mod_eq_of_lt x.isLt

/-! From the highest bit on. -/
def hiN (U k : Nat) : Nat := U / 2 ^ k * 2 ^ k
theorem hiN_step (U k : Nat) : hiN U k = hiN U (k + 1) + bitN U k * 2 ^ k := by
  unfold hiN bitN
  rw [Nat.pow_succ, ← Nat.div_div_eq_div_mul]
  generalize U / 2 ^ k = q
  generalize 2 ^ k = p
  have : q = q / 2 * 2 + q % 2 := by omega
  calc q * p = (q / 2 * 2 + q % 2) * p := by rw [← this]
    _ = q / 2 * (p * 2) + q % 2 * p := by rw [Nat.add_mul, Nat.mul_assoc, Nat.mul_comm 2 p]
theorem hiN_zero (U : Nat) : hiN U 0 = U := by simp [hiN]
theorem hiN_top (x : BitVec 64) : hiN x.toNat 64 = 0 := by
  unfold hiN
  rw [Nat.div_eq_of_lt x.isLt, Nat.zero_mul]
theorem hiN_bit (U k j : Nat) (h : k ≤ j) : bitN (hiN U k) j = bitN U j := by
  unfold hiN bitN
  obtain ⟨d, rfl⟩ := Nat.exists_eq_add_of_le h
  rw [Nat.pow_add, ← Nat.div_div_eq_div_mul, Nat.mul_div_cancel _ (Nat.two_pow_pos k), Nat.div_div_eq_div_mul]
theorem hiN_le (U k : Nat) : hiN U k ≤ U := Nat.div_mul_le_self _ _
theorem bit_unfold (x : BitVec 64) (n i : Nat) (hn : 1 ≤ n) : bitN (unfoldB x n).toNat i = if i + n < 64 then (bitN x.toNat i + bitN (hiN (unfoldB x n).toNat (i + 1)) (i + n)) % 2 else bitN x.toNat i := by
  have h := bitN_fold (unfoldB x n) n i
  rw [foldB_unfoldB x n hn] at h
  have h1 := bitN_lt (unfoldB x n).toNat i
  have h2 := bitN_lt (unfoldB x n).toNat (i + n)
  split
  · rw [hiN_bit _ _ _ (by omega), h]; omega
  · rw [bitN_high (unfoldB x n) (i + n) (by omega)] at h
    omega

/-! The quotient by an odd number. -/
theorem quo_bit (q y : BitVec 64) (k : Nat) (hk : k < 64) (hy : y.toNat % 2 = 1) :
    (bitN ((q.toNat % 2 ^ k) * y.toNat % 18446744073709551616) k != bitN (q * y).toNat k) = decide (bitN q.toNat k = 1) := by
  have e64 : 18446744073709551616 = 2 ^ 64 := by rfl
  have hb : ∀ a : Nat, bitN (a % 2 ^ 64) k = bitN (a % 2 ^ (k + 1)) k := by
    intro a
    have h1 : a % 2 ^ 64 % 2 ^ (k + 1) = a % 2 ^ (k + 1) := Nat.mod_mod_of_dvd _ (Nat.pow_dvd_pow 2 (by omega))
    rw [← h1]
    generalize a % 2 ^ 64 = b
    refine bitN_eq_of _ _ _ ?_
    rw [Nat.testBit_mod_two_pow]
    simp
  rw [BitVec.toNat_mul, e64, hb, hb]
  have hq := low_step q.toNat k
  have hqb := bitN_lt q.toNat k
  have e1 : q.toNat * y.toNat % 2 ^ (k + 1) = ((q.toNat % 2 ^ k) * y.toNat + bitN q.toNat k * 2 ^ k) % 2 ^ (k + 1) := by
    rw [Nat.mul_mod, hq]
    rw [← Nat.mul_mod_mod, Nat.mod_mod, Nat.mul_mod_mod, Nat.add_mul]
    obtain ⟨z, hz⟩ : ∃ z, y.toNat = 2 * z + 1 := ⟨y.toNat / 2, by omega⟩
    have : bitN q.toNat k * 2 ^ k * y.toNat = bitN q.toNat k * 2 ^ k + 2 ^ (k + 1) * (bitN q.toNat k * z) := by
      rw [hz, Nat.pow_succ, Nat.mul_add, Nat.mul_one, Nat.add_comm]
      congr 1
      generalize 2 ^ k = p
      generalize bitN q.toNat k = b
      simp only [Nat.mul_assoc, Nat.mul_comm, Nat.mul_left_comm]
    rw [this, ← Nat.add_assoc, Nat.add_mul_mod_self_left]
  rw [e1]
  generalize (q.toNat % 2 ^ k) * y.toNat = a
  have hm : ∀ c : Nat, bitN (c % 2 ^ (k + 1)) k = bitN c k := by
    intro c
    refine bitN_eq_of _ _ _ ?_
    rw [Nat.testBit_mod_two_pow]
    simp
  rw [hm, hm]
  rcases (by omega : bitN q.toNat k = 0 ∨ bitN q.toNat k = 1) with h | h
  · rw [h]; simp
  · rw [h, Nat.one_mul]
    unfold bitN
    rw [Nat.add_div_right _ (Nat.two_pow_pos k)]
    have : a / 2 ^ k % 2 ≠ (a / 2 ^ k).succ % 2 := by omega
    simp [this]
end Go.Proofs.Ytfcajgfhmfpchaa
