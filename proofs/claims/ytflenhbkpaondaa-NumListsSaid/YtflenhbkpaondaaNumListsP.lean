/-
  PLAIN: the order of two lists, element by element, is that of their forms; what is cut within a form is no list of forms.
-/
import Derived.Test.YtflenhbkpaondaaAppend8R
namespace Go.Proofs.Ytflenhbkpaondaa
open Go.RowKit Pl

/-- The order of two lists of the same length, element by element. -/
def ordL : List Nat → List Nat → Int
  | x :: xs, y :: ys => if x < y then -1 else if y < x then 1 else ordL xs ys
  | _, _ => 0
theorem ordL_lex (k : List Nat) : ∀ l : List Nat, k.length = l.length → (∀ x ∈ k, x < 18446744073709551616) → (∀ x ∈ l, x < 18446744073709551616) → lexC (allF k) (allF l) = ordL k l := by
  induction k with
  | nil => intro l h _ _; have : l = [] := List.eq_nil_of_length_eq_zero (by simpa using h.symm); subst this; rfl
  | cons x k ih =>
    intro l h hk hl
    cases l with
    | nil => simp at h
    | cons y l =>
      have hx := hk x (by simp)
      have hy := hl y (by simp)
      have e1 : allF (x :: k) = form x ++ allF k := by simp [allF]
      have e2 : allF (y :: l) = form y ++ allF l := by simp [allF]
      rw [e1, e2]
      by_cases hxy : x = y
      · subst hxy
        rw [lexC_same, ih l (by simpa using h) (fun z hz => hk z (by simp [hz])) (fun z hz => hl z (by simp [hz]))]
        simp [ordL]
      · rw [lexC_apart _ _ _ _ (fun e => hxy (form_prefix hx hy e)) (fun e => hxy (form_prefix hy hx e).symm), form_cmp x y hx hy]
        unfold cmpI
        simp only [ordL]
        by_cases h1 : x < y
        · rw [if_pos (by omega), if_pos h1]
        · have h2 : y < x := by omega
          rw [if_neg (by omega), if_pos (by omega), if_neg h1, if_pos h2]
theorem ordL_drop {k l : List Nat} {i : Nat} (hk : i < k.length) (hl : i < l.length) : ordL (k.drop i) (l.drop i) = if gt k i < gt l i then -1 else if gt l i < gt k i then 1 else ordL (k.drop (i + 1)) (l.drop (i + 1)) := by
  rw [List.drop_eq_getElem_cons hk, List.drop_eq_getElem_cons hl]
  simp [ordL, gt, hk, hl]
theorem ordL_end {k l : List Nat} {n : Nat} (hk : k.length = n) : ordL (k.drop n) (l.drop n) = 0 := by
  rw [List.drop_of_length_le (by omega)]; cases l.drop n <;> rfl

/-- Cut within a form. -/
theorem sq_cut (p : List Nat) (r : List Nat) (h : ∀ x ∈ p, x < 18446744073709551616) (hr : rd r = (0, 0, 10)) (hl : r.length ≠ 0) : sq (allF p ++ r) = p.map (fun x => (x, 0)) ++ [(0, 10)] := by
  induction p with
  | nil =>
    simp only [allF, List.flatMap_nil, List.nil_append, List.map_nil]
    rw [sq_err hl (by rw [hr]; simp), hr]
  | cons x p ih =>
    have hf := rd_form x (h x (by simp)) (allF p ++ r)
    have e : allF (x :: p) ++ r = form x ++ (allF p ++ r) := by simp [allF]
    have hne : (allF (x :: p) ++ r).length ≠ 0 := by rw [e, List.length_append]; have := (form_length x).1; omega
    rw [sq_ok hne (by rw [e, hf]), e, hf]
    dsimp only
    rw [List.drop_left, ih (fun y hy => h y (by simp [hy]))]
    rfl
theorem split_cut (p : List Nat) (r : List Nat) (h : ∀ x ∈ p, x < 18446744073709551616) (hr : rd r = (0, 0, 10)) (hl : r.length ≠ 0) : splitE (allF p ++ r) = 10 ∧ splitV (allF p ++ r) = [] := by
  have he : splitE (allF p ++ r) = 10 := by unfold splitE; rw [sq_cut p r h hr hl]; simp
  refine ⟨he, ?_⟩
  unfold splitV
  rw [he]; simp
theorem allF_append (p q : List Nat) : allF (p ++ q) = allF p ++ allF q := by simp [allF]
theorem allF_take_len (k : List Nat) (j : Nat) (h : j < k.length) : (allF (k.take (j + 1))).length = (allF (k.take j)).length + (form (gt k j)).length := by
  rw [take_snoc_gt j h, allF_append, List.length_append]; simp [allF]
theorem allF_split (k : List Nat) (j : Nat) : allF k = allF (k.take j) ++ allF (k.drop j) := by rw [← allF_append, List.take_append_drop]
/-- The forms, cut at the end of one. -/
theorem allF_take_at (k : List Nat) (j : Nat) : (allF k).take (allF (k.take j)).length = allF (k.take j) := by
  conv => lhs; rw [allF_split k j]
  exact List.take_left
/-- The forms, cut within one. -/
theorem allF_take_in (k : List Nat) (j at' : Nat) (h : j < k.length) (h1 : (allF (k.take j)).length < at') (h2 : at' < (allF (k.take j)).length + (form (gt k j)).length) :
    (allF k).take at' = allF (k.take j) ++ (form (gt k j)).take (at' - (allF (k.take j)).length) := by
  have e : k.drop j = gt k j :: k.drop (j + 1) := by rw [List.drop_eq_getElem_cons h]; simp [gt, h]
  conv => lhs; rw [allF_split k j, e]
  rw [List.take_append, List.take_of_length_le (by omega)]
  congr 1
  have e2 : allF (gt k j :: k.drop (j + 1)) = form (gt k j) ++ allF (k.drop (j + 1)) := by simp [allF]
  rw [e2, List.take_append_of_le_length (by omega)]
end Go.Proofs.Ytflenhbkpaondaa
