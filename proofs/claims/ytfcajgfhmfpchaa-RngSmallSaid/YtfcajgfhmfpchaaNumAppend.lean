/-
  CONTRACT of num.digitsOf: the digits of a number, at the end of an array of eight; nothing that was there is written.
-/
import Derived.Test.YtfcajgfhmfpchaaNumRead
import Derived.Deep.WholeRow
namespace Go.Proofs.Ytfcajgfhmfpchaa
open Go.RowKit Pl

def B8 (d : Nat) : Value := .int .u8 d
/-- The lowest k digits of x. -/
def low : Nat → Nat → List Nat
  | 0, _ => []
  | k + 1, x => (x / 256 ^ k % 256) :: low k x
theorem low_length (k x : Nat) : (low k x).length = k := by induction k with
  | zero => rfl
  | succ k ih => simp [low, ih]
theorem low_snoc (k x : Nat) : low (k + 1) x = low k (x / 256) ++ [x % 256] := by
  induction k with
  | zero => simp [low]
  | succ k ih =>
    rw [low, ih, low]
    simp only [List.cons_append]
    rw [Nat.div_div_eq_div_mul, Nat.pow_succ, Nat.mul_comm 256]
theorem dg_low (k : Nat) : ∀ n x, k ≤ n → x / 256 ^ k = 0 → (k = 0 ∨ x / 256 ^ (k - 1) ≠ 0) → dg n x = low k x := by
  induction k with
  | zero => intro n x _ h _; simp at h; subst h; cases n <;> simp [dg, low]
  | succ k ih =>
    intro n x hn h h'
    obtain ⟨n, rfl⟩ : ∃ m, n = m + 1 := ⟨n - 1, by omega⟩
    have hx : x ≠ 0 := by rintro rfl; simp at h'
    rw [dg, if_neg hx, low_snoc, ih n (x / 256) (by omega) (by rw [Nat.div_div_eq_div_mul, Nat.mul_comm, ← Nat.pow_succ]; exact h) ?_]
    by_cases hk : k = 0
    · exact .inl hk
    · refine .inr ?_
      rw [Nat.div_div_eq_div_mul, Nat.mul_comm, ← Nat.pow_succ]
      have e : (k - 1).succ = k := by omega
      rw [e]
      simpa using h'
def arr (f x : Nat) : List Value := (List.replicate f 0 ++ low (8 - f) x).map B8
theorem arr_length (f x : Nat) (h : f ≤ 8) : (arr f x).length = 8 := by simp [arr, low_length]; omega
theorem arr_set (f x : Nat) (h : f + 1 ≤ 8) : (arr (f + 1) x).set f (B8 (x / 256 ^ (8 - (f + 1)) % 256)) = arr f x := by
  unfold arr
  have e : 8 - f = (8 - (f + 1)) + 1 := by omega
  rw [e, low, List.replicate_succ', List.append_assoc, List.map_append, List.map_append]
  rw [List.set_append_right _ _ (by simp)]
  simp
theorem div_step (x f : Nat) (h : f + 1 ≤ 8) : x / 256 ^ (8 - (f + 1)) / 256 = x / 256 ^ (8 - f) := by
  have e : 8 - f = (8 - (f + 1)) + 1 := by omega
  rw [Nat.div_div_eq_div_mul, e, Nat.pow_succ]

end Go.Proofs.Ytfcajgfhmfpchaa
