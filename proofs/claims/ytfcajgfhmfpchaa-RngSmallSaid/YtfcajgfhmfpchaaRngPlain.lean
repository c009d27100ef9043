/-
  PLAIN FACTS about the random numbers: the number below a bound, the first number of which it is k or more, and the numbers of a stream.
-/
import Derived.Test.YtfcajgfhmfpchaaProg
import Derived.Test.YtfcajgfhmfpchaaMixJoin
namespace Go.Proofs.Ytfcajgfhmfpchaa
open Go.RowKit Pl

/-- The number below n of v, and what the first i bits of v tell of it. -/
def belN (v n : Nat) : Nat := v * n / 2 ^ 64
def partN (v n i : Nat) : Nat := v % 2 ^ i * n / 2 ^ i
theorem partN_zero (v n : Nat) : partN v n 0 = 0 := by simp [partN, Nat.mod_one]
theorem partN_succ (v n i : Nat) : partN v n (i + 1) = (partN v n i + v / 2 ^ i % 2 * n) / 2 := by
  unfold partN
  rw [Nat.pow_succ, Nat.mod_mul, Nat.add_mul, Nat.mul_assoc, ← Nat.div_div_eq_div_mul, Nat.add_mul_div_left _ _ (Nat.pow_pos (by omega))]
theorem partN_lt (v n i : Nat) (hn : 0 < n) : partN v n i < n := by
  unfold partN
  rw [Nat.div_lt_iff_lt_mul (Nat.pow_pos (by omega)), Nat.mul_comm n]
  exact (Nat.mul_lt_mul_right hn).2 (Nat.mod_lt _ (Nat.pow_pos (by omega)))
theorem partN_all (v n : Nat) (hv : v < 18446744073709551616) : partN v n 64 = belN v n := by
  unfold partN belN
  rw [Nat.mod_eq_of_lt (by omega)]
theorem partN_done (v n i : Nat) (hi : i ≤ 64) (h : v / 2 ^ i = 0) : partN v n i / 2 ^ (64 - i) = belN v n := by
  have hp : 0 < 2 ^ i := Nat.pow_pos (by omega)
  have hv : v < 2 ^ i := (Nat.div_eq_zero_iff_lt hp).1 h
  unfold partN belN
  rw [Nat.mod_eq_of_lt hv, Nat.div_div_eq_div_mul, ← Nat.pow_add, show i + (64 - i) = 64 by omega]
theorem belN_lt (v n : Nat) (hv : v < 18446744073709551616) (hn : 0 < n) : belN v n < n := by
  rw [← partN_all v n hv]; exact partN_lt v n 64 hn
theorem belN_mono {v w n m : Nat} (h : v ≤ w) (h2 : n ≤ m) : belN v n ≤ belN w m := Nat.div_le_div_right (Nat.mul_le_mul h h2)
theorem belN_mul (v p q : Nat) (hq : 0 < q) : belN v (p * q) / q = belN v p := by
  unfold belN
  rw [Nat.div_div_eq_div_mul, ← Nat.mul_assoc, Nat.mul_div_mul_right _ _ hq]

/-- The first number whose number below n is k or more. -/
def ceiN (k n : Nat) : Nat := (k * 2 ^ 64 + (n - 1)) / n
theorem ceiN_le (k n v : Nat) (hn : 0 < n) : ceiN k n ≤ v ↔ k ≤ belN v n := by
  unfold ceiN belN
  rw [Nat.le_div_iff_mul_le (by omega), ← Nat.lt_succ_iff, Nat.div_lt_iff_lt_mul hn, Nat.succ_mul]
  omega
theorem ceiN_zero (n : Nat) (hn : 0 < n) : ceiN 0 n = 0 := by
  have := (ceiN_le 0 n 0 hn).2 (Nat.zero_le _)
  omega
theorem ceiN_all (n : Nat) (hn : 0 < n) : ceiN n n = 18446744073709551616 := by
  unfold ceiN
  rw [Nat.add_comm, Nat.add_mul_div_left _ _ hn, Nat.div_eq_of_lt (by omega)]
theorem ceiN_mono {k l : Nat} (n : Nat) (hn : 0 < n) (h : k ≤ l) : ceiN k n ≤ ceiN l n :=
  (ceiN_le k n _ hn).2 (Nat.le_trans h ((ceiN_le l n _ hn).1 (Nat.le_refl _)))
theorem ceiN_low (k n : Nat) (hn : 0 < n) : ceiN k n + 18446744073709551616 / n ≤ ceiN (k + 1) n := by
  unfold ceiN
  rw [Nat.le_div_iff_mul_le hn, Nat.add_mul]
  have h1 := Nat.div_mul_le_self (k * 2 ^ 64 + (n - 1)) n
  have h2 := Nat.div_mul_le_self 18446744073709551616 n
  omega
theorem div_add_le (A B n : Nat) (hn : 0 < n) : (A + B) / n ≤ A / n + B / n + 1 := by
  rw [← Nat.lt_succ_iff, Nat.div_lt_iff_lt_mul hn]
  have h1 := Nat.lt_div_mul_add (a := A) hn
  have h2 := Nat.lt_div_mul_add (a := B) hn
  rw [show (A / n + B / n + 1).succ * n = A / n * n + B / n * n + n + n by rw [Nat.succ_mul, Nat.add_mul, Nat.add_mul, Nat.one_mul]]
  omega
theorem ceiN_high (k n : Nat) (hn : 0 < n) : ceiN (k + 1) n ≤ ceiN k n + 18446744073709551616 / n + 1 := by
  have h := div_add_le (k * 2 ^ 64 + (n - 1)) 18446744073709551616 n hn
  unfold ceiN
  rw [show (k + 1) * 2 ^ 64 + (n - 1) = k * 2 ^ 64 + (n - 1) + 18446744073709551616 by omega]
  exact h
theorem ceiN_lt (k n : Nat) (hk : k < n) (h : n ≤ 18446744073709551616) : ceiN k n < 18446744073709551616 := by
  have h1 := ceiN_low k n (by omega)
  have h2 := ceiN_mono n (by omega) (show k + 1 ≤ n from hk)
  rw [ceiN_all n (by omega)] at h2
  have h3 : 1 ≤ 18446744073709551616 / n := (Nat.le_div_iff_mul_le (by omega)).2 (by omega)
  omega
theorem ceiN_step (k n : Nat) (hn : 0 < n) (h : n ≤ 18446744073709551616) : ceiN k n < ceiN (k + 1) n := by
  have h1 := ceiN_low k n hn
  have h3 : 1 ≤ 18446744073709551616 / n := (Nat.le_div_iff_mul_le (by omega)).2 (by omega)
  omega
/-- Between the first number of k and that of k + 1. -/
theorem belN_is {v n k : Nat} (hn : 0 < n) (h1 : ceiN k n ≤ v) (h2 : v < ceiN (k + 1) n) : belN v n = k := by
  have a := (ceiN_le k n v hn).1 h1
  have b : ¬ k + 1 ≤ belN v n := fun h => by have := (ceiN_le (k + 1) n v hn).2 h; omega
  omega

/-- The quotient of r * 2^j and n, and its rest. -/
def quoN (r n j : Nat) : Nat := r * 2 ^ j / n
def remN (r n j : Nat) : Nat := r * 2 ^ j % n
theorem quoN_zero (r n : Nat) (h : r < n) : quoN r n 0 = 0 ∧ remN r n 0 = r := by simp [quoN, remN, Nat.div_eq_of_lt h, Nat.mod_eq_of_lt h]
theorem remN_lt (r n j : Nat) (hn : 0 < n) : remN r n j < n := Nat.mod_lt _ hn
theorem quoN_lt (r n j : Nat) (h : r < n) : quoN r n j < 2 ^ j := by
  unfold quoN
  rw [Nat.div_lt_iff_lt_mul (by omega), Nat.mul_comm (2 ^ j)]
  exact (Nat.mul_lt_mul_right (Nat.pow_pos (by omega))).2 h
theorem quoN_step (r n j : Nat) (hn : 0 < n) : (n ≤ 2 * remN r n j → quoN r n (j + 1) = 2 * quoN r n j + 1 ∧ remN r n (j + 1) = 2 * remN r n j - n)
    ∧ (2 * remN r n j < n → quoN r n (j + 1) = 2 * quoN r n j ∧ remN r n (j + 1) = 2 * remN r n j) := by
  have hl := remN_lt r n j hn
  have he : r * 2 ^ (j + 1) = 2 * remN r n j + n * (2 * quoN r n j) := by
    have := Nat.mod_add_div (r * 2 ^ j) n
    unfold remN quoN
    rw [Nat.pow_succ, ← Nat.mul_assoc, show n * (2 * (r * 2 ^ j / n)) = 2 * (n * (r * 2 ^ j / n)) by rw [Nat.mul_left_comm]]
    omega
  constructor
  · intro h
    have he2 : r * 2 ^ (j + 1) = (2 * remN r n j - n) + n * (2 * quoN r n j + 1) := by rw [he, Nat.mul_succ]; omega
    refine ⟨?_, ?_⟩
    · show r * 2 ^ (j + 1) / n = _
      rw [he2, Nat.add_mul_div_left _ _ hn, Nat.div_eq_of_lt (by omega), Nat.zero_add]
    · show r * 2 ^ (j + 1) % n = _
      rw [he2, Nat.add_mul_mod_self_left, Nat.mod_eq_of_lt (by omega)]
  · intro h
    refine ⟨?_, ?_⟩
    · show r * 2 ^ (j + 1) / n = _
      rw [he, Nat.add_mul_div_left _ _ hn, Nat.div_eq_of_lt h, Nat.zero_add]
    · show r * 2 ^ (j + 1) % n = _
      rw [he, Nat.add_mul_mod_self_left, Nat.mod_eq_of_lt h]
theorem ceil_quo (X n : Nat) (hn : 0 < n) : (X + (n - 1)) / n = X / n + if 0 < X % n then 1 else 0 := by
  have h := Nat.mod_add_div X n
  have hl := Nat.mod_lt X hn
  generalize X % n = r at *
  generalize X / n = q at *
  by_cases hr : 0 < r
  · rw [if_pos hr, show X + (n - 1) = (r - 1) + n * (q + 1) by rw [Nat.mul_succ]; omega, Nat.add_mul_div_left _ _ hn, Nat.div_eq_of_lt (by omega), Nat.zero_add]
  · rw [if_neg hr, show X + (n - 1) = (n - 1) + n * q by omega, Nat.add_mul_div_left _ _ hn, Nat.div_eq_of_lt (by omega), Nat.zero_add]
    rfl
theorem ceiN_quo (k n : Nat) (hn : 0 < n) : ceiN k n = quoN k n 64 + if 0 < remN k n 64 then 1 else 0 := ceil_quo _ n hn
/-- When nothing is left, the quotient so far is the whole one. -/
theorem quoN_done (r n j m : Nat) (hn : 0 < n) (hj : j ≤ m) (h : remN r n j = 0) : quoN r n j * 2 ^ (m - j) = quoN r n m ∧ remN r n m = 0 := by
  have he : r * 2 ^ j = n * quoN r n j := by
    have := Nat.mod_add_div (r * 2 ^ j) n
    unfold remN at h
    unfold quoN
    omega
  have h64 : r * 2 ^ m = n * (quoN r n j * 2 ^ (m - j)) := by
    rw [← Nat.mul_assoc, ← he, Nat.mul_assoc, ← Nat.pow_add, show j + (m - j) = m by omega]
  exact ⟨(Nat.div_eq_of_eq_mul_right hn h64).symm, (congrArg (· % n) h64).trans (Nat.mul_mod_right _ _)⟩
theorem or_low (q b : Nat) : (q * 2 ^ (b + 1)) ||| 2 ^ b = q * 2 ^ (b + 1) + 2 ^ b := by
  have h := Nat.two_pow_add_eq_or_of_lt (i := b + 1) (b := 2 ^ b) (by rw [Nat.pow_succ]; have := Nat.pow_pos (n := b) (show 0 < 2 by omega); omega) q
  rw [Nat.mul_comm q]; exact h.symm

theorem bits_or_nat (a b : Nat) (ha : a < 18446744073709551616) (hb : b < 18446744073709551616) : bits .or .u64 (a : Int) (b : Int) = ((a ||| b : Nat) : Int) := by
  have hx : a ||| b < 2 ^ 64 := Nat.or_lt_two_pow (by omega) (by omega)
  have h1 : (BitVec.ofInt 64 (a : Int)).toNat = a := by
    rw [BitVec.ofInt_natCast, BitVec.toNat_ofNat]; exact Nat.mod_eq_of_lt (by omega)
  have h2 : (BitVec.ofInt 64 (b : Int)).toNat = b := by
    rw [BitVec.ofInt_natCast, BitVec.toNat_ofNat]; exact Nat.mod_eq_of_lt (by omega)
  show IntKind.u64.wrap ((BitVec.ofInt 64 (a : Int) ||| BitVec.ofInt 64 (b : Int)).toNat : Int) = _
  rw [BitVec.toNat_or, h1, h2, IntKind.wrap_u64]
  omega

/-! The numbers of a stream. -/
def perB : BitVec 64 := 17428512612931826493#64
theorem per_gold : goldB * perB = 1#64 := by decide +kernel
def keyB (s : BitVec 64) (p : Nat) : BitVec 64 := joinN [s.toNat, p]
def valB (key : BitVec 64) (i : Nat) : BitVec 64 := mixB (key + (BitVec.ofNat 64 i + 1#64) * goldB)
def whereB (key v : BitVec 64) : BitVec 64 := (unmixB v - key) * perB - 1#64
theorem whereB_valB (key : BitVec 64) (i : Nat) : whereB key (valB key i) = BitVec.ofNat 64 i := by
  unfold whereB valB
  rw [unmixB_mixB]
  generalize BitVec.ofNat 64 i = x
  rw [BitVec.add_comm key, BitVec.add_sub_cancel, BitVec.mul_assoc, per_gold, BitVec.mul_one, BitVec.add_sub_cancel]
theorem valB_whereB (key v : BitVec 64) (i : Nat) (h : BitVec.ofNat 64 i = whereB key v) : valB key i = v := by
  unfold valB
  rw [h]
  unfold whereB
  rw [BitVec.sub_add_cancel, BitVec.mul_assoc, BitVec.mul_comm perB, per_gold, BitVec.mul_one, BitVec.add_comm, BitVec.sub_add_cancel, mixB_unmixB]
theorem addl_inj {x a b : BitVec 64} (h : x + a = x + b) : a = b := by simpa using h
theorem addr_inj {x a b : BitVec 64} (h : a + x = b + x) : a = b := by simpa using h
theorem valB_inj {key : BitVec 64} {i j : Nat} (hi : i < 18446744073709551616) (hj : j < 18446744073709551616) (h : valB key i = valB key j) : i = j := by
  have := congrArg BitVec.toNat (show BitVec.ofNat 64 i = BitVec.ofNat 64 j by rw [← whereB_valB key i, h, whereB_valB])
  rw [BitVec.toNat_ofNat, BitVec.toNat_ofNat, Nat.mod_eq_of_lt hi, Nat.mod_eq_of_lt hj] at this
  exact this
theorem valB_key {key other : BitVec 64} {i : Nat} (h : valB key i = valB other i) : key = other := by
  have := mixB_inj h
  exact addr_inj this
theorem keyB_is (s : BitVec 64) (p : Nat) : keyB s p = mixB (goldB + BitVec.ofNat 64 p + mixB (goldB + s) * goldB) := by
  unfold keyB
  rw [show [s.toNat, p] = [s.toNat] ++ [p] from rfl, joinN_snoc, show [s.toNat] = [] ++ [s.toNat] from rfl, joinN_snoc, show joinN [] = 0#64 from rfl, BitVec.zero_mul, BitVec.add_zero, BitVec.ofNat_toNat, BitVec.setWidth_eq]
theorem gold_cancel {a b : BitVec 64} (h : a * goldB = b * goldB) : a = b := by
  have := congrArg (· * perB) h
  simp only [BitVec.mul_assoc, per_gold, BitVec.mul_one] at this
  exact this
theorem keyB_seed {s t : BitVec 64} {p : Nat} (h : keyB s p = keyB t p) : s = t := by
  rw [keyB_is, keyB_is] at h
  have := gold_cancel (addl_inj (mixB_inj h))
  exact addl_inj (mixB_inj this)
theorem keyB_process {s : BitVec 64} {p q : Nat} (hp : p ≤ 65536) (hq : q ≤ 65536) (h : keyB s p = keyB s q) : p = q := by
  rw [keyB_is, keyB_is] at h
  have := congrArg BitVec.toNat (addl_inj (addr_inj (mixB_inj h)))
  rw [BitVec.toNat_ofNat, BitVec.toNat_ofNat, Nat.mod_eq_of_lt (by omega), Nat.mod_eq_of_lt (by omega)] at this
  exact this
end Go.Proofs.Ytfcajgfhmfpchaa
