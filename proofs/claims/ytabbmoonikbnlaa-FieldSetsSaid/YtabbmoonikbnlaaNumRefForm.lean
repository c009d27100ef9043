/-
  CONTRACTS of the reference's digits and Form (layer 1): the same forms, in new memory.
-/
import Derived.Test.YtabbmoonikbnlaaAppend8
import Derived.Test.YtabbmoonikbnlaaAwake01
namespace Go.Proofs.Ytabbmoonikbnlaa
open Go.RowKit Pl

/-- What is owned from a block on is owned from an earlier one on. -/
theorem own_mono {w : World} {base base' : Nat} {v : Value} {l : List Nat} (h : Own8 w base v l) (hb : base' ≤ base) : Own8 w base' v l := by
  refine ⟨h.1, ?_⟩
  rcases h.2 with h0 | ⟨g, cap, cur, h1, h2, h3⟩
  · exact .inl h0
  · exact .inr ⟨g, cap, cur, h1, by omega, h3⟩

/-- The reference's digits: those of 0 are one digit. -/
def rdig : Nat → Nat → List Nat
  | 0, x => [x % 256]
  | k + 1, x => if x < 256 then [x] else rdig k (x / 256) ++ [x % 256]
theorem rdig_allB (k : Nat) : ∀ x, AllB (rdig k x) := by
  induction k with
  | zero => intro x; exact AllB.cons (by omega) AllB.nil
  | succ k ih =>
    intro x
    unfold rdig
    split
    · exact AllB.cons (by omega) AllB.nil
    · exact (ih _).append (AllB.cons (by omega) AllB.nil)
theorem rdig_length (k : Nat) : ∀ x, (rdig k x).length ≤ k + 1 ∧ 1 ≤ (rdig k x).length := by
  induction k with
  | zero => intro x; simp [rdig]
  | succ k ih =>
    intro x
    unfold rdig
    split
    · simp
    · have := ih (x / 256); simp; omega
theorem dg_zero (k : Nat) : dg k 0 = [] := by cases k <;> simp [dg]
theorem rdig_dg (k : Nat) : ∀ x, x ≠ 0 → x < 256 ^ (k + 1) → rdig k x = dg (k + 1) x := by
  induction k with
  | zero =>
    intro x h0 h
    have h' : x < 256 := by simpa using h
    have e : x / 256 = 0 := by omega
    unfold rdig dg
    rw [if_neg h0, e, dg_zero]
    rfl
  | succ k ih =>
    intro x h0 h
    rw [dg, if_neg h0]
    unfold rdig
    by_cases hx : x < 256
    · have e : x / 256 = 0 := by omega
      rw [if_pos hx, e, dg_zero, List.nil_append, Nat.mod_eq_of_lt hx]
    · rw [if_neg hx, ih (x / 256) (by omega) (by rw [Nat.pow_succ] at h; omega)]

end Go.Proofs.Ytabbmoonikbnlaa
