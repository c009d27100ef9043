/-
  PLAIN FACTS on mixing: folds, their way back, products with odd numbers.
-/
import Derived.Laws.Bits64
namespace Go.Proofs.Ytfcajgfhmfpchaa

/-- A number, folded by n. -/
def foldB (x : BitVec 64) (n : Nat) : BitVec 64 := x ^^^ (x >>> n)
theorem foldB_comm (x : BitVec 64) (a b : Nat) : foldB (foldB x a) b = foldB (foldB x b) a := by
  unfold foldB
  rw [BitVec.ushiftRight_xor_distrib, BitVec.ushiftRight_xor_distrib, ← BitVec.shiftRight_add, ← BitVec.shiftRight_add, Nat.add_comm b a]
  ac_rfl
theorem foldB_twice (x : BitVec 64) (a : Nat) : foldB (foldB x a) a = foldB x (a * 2) := by
  unfold foldB
  rw [BitVec.ushiftRight_xor_distrib, ← BitVec.shiftRight_add]
  have : a + a = a * 2 := by omega
  rw [this]
  have h : x ^^^ x >>> a ^^^ (x >>> a ^^^ x >>> (a * 2)) = (x >>> a ^^^ x >>> a) ^^^ (x ^^^ x >>> (a * 2)) := by ac_rfl
  rw [h, BitVec.xor_self, BitVec.zero_xor]
theorem foldB_big (x : BitVec 64) (m : Nat) (h : 64 ≤ m) : foldB x m = x := by
  unfold foldB
  rw [BitVec.ushiftRight_eq_zero h, BitVec.xor_zero]
theorem foldB_xor (x y : BitVec 64) (n : Nat) : foldB (x ^^^ y) n = foldB x n ^^^ foldB y n := by
  unfold foldB
  rw [BitVec.ushiftRight_xor_distrib]
  ac_rfl

/-- What j rounds of the way back make. -/
def rndB (x : BitVec 64) (n : Nat) : Nat → BitVec 64
  | 0 => x
  | j + 1 => foldB (rndB x n j) (n * 2 ^ j)
theorem foldB_rndB (x : BitVec 64) (n j : Nat) : foldB (rndB x n j) n = foldB x (n * 2 ^ j) := by
  induction j with
  | zero => simp [rndB]
  | succ j ih =>
    show foldB (foldB (rndB x n j) (n * 2 ^ j)) n = _
    rw [foldB_comm, ih, foldB_twice]
    congr 1
    rw [Nat.pow_succ, Nat.mul_assoc]
theorem rndB_foldB (x : BitVec 64) (n j : Nat) : rndB (foldB x n) n j = foldB (rndB x n j) n := by
  induction j with
  | zero => rfl
  | succ j ih =>
    show foldB (rndB (foldB x n) n j) (n * 2 ^ j) = foldB (foldB (rndB x n j) (n * 2 ^ j)) n
    rw [ih, foldB_comm]
/-- The number that is folded to another one. -/
def unfoldB (x : BitVec 64) (n : Nat) : BitVec 64 := rndB x n 6
theorem unfoldB_foldB (x : BitVec 64) (n : Nat) (h : 1 ≤ n) : unfoldB (foldB x n) n = x := by
  unfold unfoldB
  rw [rndB_foldB, foldB_rndB, foldB_big _ _ (by omega)]
theorem foldB_unfoldB (x : BitVec 64) (n : Nat) (h : 1 ≤ n) : foldB (unfoldB x n) n = x := by
  unfold unfoldB
  rw [foldB_rndB, foldB_big _ _ (by omega)]
theorem rndB_done (x : BitVec 64) (n j : Nat) (h : 1 ≤ n) (hj : 64 ≤ n * 2 ^ j) : rndB x n j = unfoldB x n := by
  have h1 : foldB (rndB x n j) n = x := by rw [foldB_rndB, foldB_big _ _ hj]
  rw [← unfoldB_foldB (rndB x n j) n h, h1]
theorem unfoldB_eq (x y : BitVec 64) (n : Nat) (h : 1 ≤ n) (hy : foldB y n = x) : unfoldB x n = y := by rw [← hy, unfoldB_foldB _ _ h]

/-! Mixing. -/
abbrev goldB : BitVec 64 := 0x9e3779b97f4a7c15#64
abbrev firstB : BitVec 64 := 0xbf58476d1ce4e5b9#64
abbrev secondB : BitVec 64 := 0x94d049bb133111eb#64
abbrev invFirstB : BitVec 64 := 0x96de1b173f119089#64
abbrev invSecondB : BitVec 64 := 0x319642b2d24d8ec3#64
theorem first_inv : firstB * invFirstB = 1#64 := by decide +kernel
theorem second_inv : secondB * invSecondB = 1#64 := by decide +kernel
def mixB (x : BitVec 64) : BitVec 64 := foldB (foldB (foldB x 30 * firstB) 27 * secondB) 31
def unmixB (x : BitVec 64) : BitVec 64 := unfoldB (unfoldB (unfoldB x 31 * invSecondB) 27 * invFirstB) 30
theorem unmixB_mixB (x : BitVec 64) : unmixB (mixB x) = x := by
  unfold unmixB mixB
  rw [unfoldB_foldB _ _ (by omega), BitVec.mul_assoc, second_inv, BitVec.mul_one, unfoldB_foldB _ _ (by omega), BitVec.mul_assoc, first_inv, BitVec.mul_one, unfoldB_foldB _ _ (by omega)]
theorem mixB_unmixB (x : BitVec 64) : mixB (unmixB x) = x := by
  have f : invFirstB * firstB = 1#64 := by rw [BitVec.mul_comm]; exact first_inv
  have s : invSecondB * secondB = 1#64 := by rw [BitVec.mul_comm]; exact second_inv
  unfold unmixB mixB
  rw [foldB_unfoldB _ _ (by omega), BitVec.mul_assoc, f, BitVec.mul_one, foldB_unfoldB _ _ (by omega), BitVec.mul_assoc, s, BitVec.mul_one, foldB_unfoldB _ _ (by omega)]
theorem mixB_inj {x y : BitVec 64} (h : mixB x = mixB y) : x = y := by rw [← unmixB_mixB x, h, unmixB_mixB]
theorem mixB_zero : mixB 0#64 = 0#64 := by decide +kernel
theorem mixB_gold : mixB goldB = 0xe220a8397b1dcdaf#64 := by decide +kernel

/-! Joining. -/
def joinB (l : List (BitVec 64)) : BitVec 64 := l.foldl (fun j x => mixB (goldB + x + j * goldB)) 0#64
theorem joinB_nil : joinB [] = 0#64 := rfl
theorem joinB_snoc (l : List (BitVec 64)) (x : BitVec 64) : joinB (l ++ [x]) = mixB (goldB + x + joinB l * goldB) := by simp [joinB]
def lastB (j : BitVec 64) (l : List (BitVec 64)) : BitVec 64 := unmixB j - goldB - joinB l * goldB
theorem joinB_last (j : BitVec 64) (l : List (BitVec 64)) : joinB (l ++ [lastB j l]) = j := by
  rw [joinB_snoc]
  have : goldB + lastB j l + joinB l * goldB = unmixB j := by
    unfold lastB
    generalize joinB l * goldB = t
    generalize unmixB j = u
    rw [BitVec.add_comm goldB, BitVec.sub_sub, BitVec.add_assoc, BitVec.sub_add_cancel]
  rw [this, mixB_unmixB]
theorem lastB_join (l : List (BitVec 64)) (x : BitVec 64) : lastB (joinB (l ++ [x])) l = x := by
  rw [joinB_snoc]
  unfold lastB
  rw [unmixB_mixB]
  generalize joinB l * goldB = t
  rw [BitVec.add_comm goldB x, BitVec.add_assoc, BitVec.sub_sub, BitVec.add_sub_cancel]

/-! What the walk writes. -/
theorem toNat_lt (x : BitVec 64) : x.toNat < 18446744073709551616 := x.isLt
theorem uv_bounds (x : BitVec 64) : (0 : Int) ≤ (x.toNat : Int) ∧ (x.toNat : Int) < 18446744073709551616 := ⟨by omega, by have := x.isLt; omega⟩
theorem uv_fold (x : BitVec 64) (n : Nat) : bits .xor .u64 (x.toNat : Int) ((x.toNat : Int) / 2 ^ n) = ((foldB x n).toNat : Int) := by
  have h := xorShift_u64 x.toNat (2 ^ n) x.isLt
  rw [Int.natCast_pow] at h
  rw [show ((2 : Nat) : Int) = 2 from rfl] at h
  rw [h]
  unfold foldB
  rw [BitVec.toNat_xor, BitVec.toNat_ushiftRight, Nat.shiftRight_eq_div_pow]
theorem uv_mul (x y : BitVec 64) : IntKind.u64.wrap ((x.toNat : Int) * (y.toNat : Int)) = ((x * y).toNat : Int) := by
  rw [IntKind.wrap_u64, BitVec.toNat_mul, Int.natCast_emod, Int.natCast_mul]
  rfl
theorem uv_add (x y : BitVec 64) : IntKind.u64.wrap ((x.toNat : Int) + (y.toNat : Int)) = ((x + y).toNat : Int) := by
  rw [IntKind.wrap_u64, BitVec.toNat_add, Int.natCast_emod, Int.natCast_add]
  rfl
theorem uv_sub (x y : BitVec 64) : IntKind.u64.wrap ((x.toNat : Int) - (y.toNat : Int)) = ((x - y).toNat : Int) := by
  have hx := x.isLt
  have hy := y.isLt
  rw [IntKind.wrap_u64, BitVec.toNat_sub]
  omega
theorem uv_xor (x y : BitVec 64) : bits .xor .u64 (x.toNat : Int) (y.toNat : Int) = ((x ^^^ y).toNat : Int) := by
  rw [bits_xor_u64_nat _ _ x.isLt y.isLt, BitVec.toNat_xor]
theorem uv_of {a : Int} (h0 : 0 ≤ a) (h1 : a < 18446744073709551616) : ∃ x : BitVec 64, a = (x.toNat : Int) := by
  refine ⟨BitVec.ofNat 64 a.toNat, ?_⟩
  rw [BitVec.toNat_ofNat, Nat.mod_eq_of_lt (by omega)]
  omega
theorem uv_eq (x y : BitVec 64) : ((x.toNat : Int) == (y.toNat : Int)) = (x == y) := by
  by_cases h : x = y
  · subst h; simp
  · have : ¬ (x.toNat : Int) = (y.toNat : Int) := fun e => h (BitVec.eq_of_toNat_eq (by omega))
    rw [beq_eq_false_iff_ne.2 this, beq_eq_false_iff_ne.2 h]
theorem uv_ne (x y : BitVec 64) : ((x.toNat : Int) != (y.toNat : Int)) = (x != y) := by
  unfold bne; rw [uv_eq]
end Go.Proofs.Ytfcajgfhmfpchaa
