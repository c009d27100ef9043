/-
  PLAIN: what Made gives is a name of one to three parts.
-/
import Derived.Test.YtdaalpiiagmdfaaNameMade
namespace Go.Proofs.Ytdaalpiiagmdfaa
open Go.RowKit Go.Shelf

theorem nm_parts (k : Nat) : partsL (nm k) = [nm k] ∧ partOk (nm k) = true ∧ ltr ((nm k).getD 0 0) = true ∧ 0 < (nm k).length := by
  unfold nm
  have h : k % 8 < 8 := Nat.mod_lt _ (by decide)
  generalize k % 8 = i at *
  rcases (show i = 0 ∨ i = 1 ∨ i = 2 ∨ i = 3 ∨ i = 4 ∨ i = 5 ∨ i = 6 ∨ i = 7 by omega) with rfl | rfl | rfl | rfl | rfl | rfl | rfl | rfl <;> decide
def madeP (k : Nat) : List (List UInt8) := nm k :: ((if 0 < k / 8 % 4 then [nm (k / 32)] else []) ++ (if 1 < k / 8 % 4 then [nm (k / 256)] else []))
theorem made_parts (k : Nat) : partsL (madeN k) = madeP k := by
  obtain ⟨a1, -, -, -⟩ := nm_parts k
  obtain ⟨b1, -, -, -⟩ := nm_parts (k / 32)
  obtain ⟨c1, -, -, -⟩ := nm_parts (k / 256)
  unfold madeN madeP
  by_cases h1 : 0 < k / 8 % 4
  · by_cases h2 : 1 < k / 8 % 4
    · rw [if_pos h1, if_pos h2, if_pos h1, if_pos h2, List.cons_append, partsL_app, partsL_app, a1, b1, c1]; rfl
    · rw [if_pos h1, if_neg h2, if_pos h1, if_neg h2, List.append_nil, partsL_app, a1, b1]; rfl
  · have h2 : ¬ 1 < k / 8 % 4 := by omega
    rw [if_neg h1, if_neg h2, if_neg h1, if_neg h2, List.append_nil, List.append_nil, a1]; rfl
theorem made_right (k : Nat) : rightN (madeN k) = true := by
  obtain ⟨-, a2, a3, a4⟩ := nm_parts k
  obtain ⟨-, b2, -, -⟩ := nm_parts (k / 32)
  obtain ⟨-, c2, -, -⟩ := nm_parts (k / 256)
  have l1 := nm_len k
  have l2 := nm_len (k / 32)
  have l3 := nm_len (k / 256)
  have hlen : 0 < (madeN k).length ∧ (madeN k).length ≤ 32 := by
    unfold madeN
    rw [List.length_append, List.length_append]
    split <;> split <;> simp only [List.length_cons, List.length_nil] <;> omega
  have hfst : (madeN k).getD 0 0 = (nm k).getD 0 0 := by
    unfold madeN
    rw [List.getD_eq_getElem?_getD, List.getD_eq_getElem?_getD, List.getElem?_append_left a4]
  unfold rightN
  rw [made_parts, hfst, a3, decide_eq_true hlen.1, decide_eq_true hlen.2]
  unfold madeP
  by_cases h1 : 0 < k / 8 % 4
  · by_cases h2 : 1 < k / 8 % 4
    · simp [h1, h2, a2, b2, c2]
    · simp [h1, h2, a2, b2]
  · have h2 : ¬ 1 < k / 8 % 4 := by omega
    simp [h1, h2, a2]
theorem made_len (k : Nat) : (madeN k).length ≤ 32 := (right_parts (made_right k)).2.1
end Go.Proofs.Ytdaalpiiagmdfaa
