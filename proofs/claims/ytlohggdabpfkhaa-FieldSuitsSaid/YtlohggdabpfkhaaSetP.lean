/-
  PLAIN: what Set makes of fields, and what Get gets: one field in its place; whether the result is right; what is got afterwards; setting what is there changes nothing.
-/
import Derived.Test.YtlohggdabpfkhaaFieldGet
import Derived.Test.YtlohggdabpfkhaaFieldAround
import Derived.Test.YtlohggdabpfkhaaRec02
namespace Go.Proofs.Ytlohggdabpfkhaa
open Go.RowKit Pl

/-- What Set makes. -/
def setF (L : List Fld) (t : Int) (l : List Nat) : List Fld := L.take (cutN t L) ++ ((t, l) :: L.drop (cutN t L + hitN t L))
def setR (t : Int) (l : List Nat) : List Fld → List Fld
  | [] => [(t, l)]
  | p :: L => if p.1 < t then p :: setR t l L else if p.1 = t then (t, l) :: L else (t, l) :: p :: L
def getR (t : Int) : List Fld → Option (List Nat)
  | [] => none
  | p :: L => if p.1 = t then some p.2 else getR t L

theorem hitN_cons_lt (t : Int) (p : Fld) (L : List Fld) (h : p.1 < t) : hitN t (p :: L) = hitN t L := by
  unfold hitN
  have e : cutN t (p :: L) = cutN t L + 1 := by rw [cutN, if_pos h]
  rw [e]
  have e2 : ft (p :: L) (cutN t L + 1) = ft L (cutN t L) := by simp [ft]
  rw [e2]
  simp
theorem setF_eq (t : Int) (l : List Nat) (L : List Fld) : setF L t l = setR t l L := by
  induction L with
  | nil => simp [setF, setR, cutN, hitN]
  | cons p L ih =>
    by_cases h : p.1 < t
    · have e : cutN t (p :: L) = cutN t L + 1 := by rw [cutN, if_pos h]
      rw [setR, if_pos h, ← ih, setF, setF, e, hitN_cons_lt t p L h]
      rw [show cutN t L + 1 + hitN t L = (cutN t L + hitN t L) + 1 by omega]
      simp
    · have e : cutN t (p :: L) = 0 := by rw [cutN, if_neg h]
      rw [setR, if_neg h, setF, hitN, e]
      have e2 : ft (p :: L) 0 = p.1 := by simp [ft]
      rw [e2]
      by_cases h2 : p.1 = t
      · rw [if_pos ⟨by simp, h2⟩, if_pos h2]; simp
      · rw [if_neg (fun hh => h2 hh.2), if_neg h2]; simp

theorem plc_getR (t : Int) (L : List Fld) : ∀ k : Nat, (if plc t k L < 0 then none else some (fb L ((plc t k L).toNat - k))) = getR t L := by
  induction L with
  | nil => intro k; simp [plc, getR]
  | cons p L ih =>
    intro k
    by_cases h : p.1 = t
    · rw [plc, if_pos h, getR, if_pos h, if_neg (by omega)]
      simp [fb]
    · rw [plc, if_neg h, getR, if_neg h, ← ih (k + 1)]
      rcases plc_range t L (k + 1) with h1 | ⟨i, h1, h2, h3⟩
      · rw [h1]; simp
      · rw [h2, if_neg (by omega), if_neg (by omega)]
        congr 1
        rw [Int.toNat_natCast, show k + 1 + i - k = i + 1 by omega, show k + 1 + i - (k + 1) = i by omega]
        simp [fb]
theorem getF_eq (t : Int) (L : List Fld) : getF L t = getR t L := by
  have := plc_getR t L 0
  rw [Nat.sub_zero] at this
  exact this

theorem tagsF_set (t : Int) (l : List Nat) (L : List Fld) : ∀ a : Int, tagsF a L = true → a < t → t ≤ 200 → tagsF a (setR t l L) = true := by
  induction L with
  | nil => intro a _ h1 h2; simp [setR, tagsF, h1, h2]
  | cons p L ih =>
    intro a h h1 h2
    simp only [tagsF, Bool.and_eq_true, decide_eq_true_eq] at h
    by_cases h3 : p.1 < t
    · rw [setR, if_pos h3]
      simp only [tagsF, Bool.and_eq_true, decide_eq_true_eq]
      exact ⟨h.1, ih _ h.2 h3 h2⟩
    · rw [setR, if_neg h3]
      by_cases h4 : p.1 = t
      · rw [if_pos h4]
        simp only [tagsF, Bool.and_eq_true, decide_eq_true_eq]
        exact ⟨⟨h1, h2⟩, by rw [← h4]; exact h.2⟩
      · rw [if_neg h4]
        simp only [tagsF, Bool.and_eq_true, decide_eq_true_eq]
        exact ⟨⟨h1, h2⟩, ⟨by omega, h.1.2⟩, h.2⟩
theorem sumB_set (t : Int) (l : List Nat) (L : List Fld) : sumB (setR t l L) ≤ sumB L + l.length := by
  induction L with
  | nil => simp [setR, sumB]
  | cons p L ih =>
    rw [setR]
    split
    · simp only [sumB]; omega
    · split <;> simp only [sumB] <;> omega
theorem length_setR (t : Int) (l : List Nat) (L : List Fld) : (setR t l L).length ≤ L.length + 1 := by
  induction L with
  | nil => simp [setR]
  | cons p L ih =>
    rw [setR]
    split
    · simp only [List.length_cons]; omega
    · split <;> simp
theorem set_right {L : List Fld} {t : Int} {l : List Nat} (h : rightF L = true) (h1 : 0 < t) (h2 : t ≤ 200) (h3 : L.length + 1 ≤ 64) (h4 : sumB L + l.length ≤ 16384) : rightF (setR t l L) = true := by
  have hh := (rightF_iff L).1 h
  have e1 := length_setR t l L
  have e2 := sumB_set t l L
  exact (rightF_iff _).2 ⟨by omega, tagsF_set t l L 0 hh.2.1 h1 h2, by omega⟩
theorem getR_none_of (t : Int) (L : List Fld) (h : ∀ p ∈ L, t < p.1) : getR t L = none := by
  induction L with
  | nil => rfl
  | cons p L ih =>
    have := h p (by simp)
    rw [getR, if_neg (by omega)]
    exact ih fun q hq => h q (by simp [hq])
theorem getR_set_same (t : Int) (l : List Nat) (L : List Fld) : getR t (setR t l L) = some l := by
  induction L with
  | nil => simp [setR, getR]
  | cons p L ih =>
    rw [setR]
    split
    · rename_i h; rw [getR, if_neg (by omega), ih]
    · split <;> simp [getR]
theorem getR_set_other (t u : Int) (l : List Nat) (L : List Fld) (hu : u ≠ t) : getR u (setR t l L) = getR u L := by
  induction L with
  | nil => simp only [setR, getR]; rw [if_neg (fun e => hu e.symm)]
  | cons p L ih =>
    rw [setR]
    split
    · rw [getR, getR, ih]
    · split
      · rename_i h2; rw [getR, if_neg (fun e => hu e.symm), getR, if_neg (by omega)]
      · rw [getR, if_neg (fun e => hu e.symm)]
theorem set_length (t : Int) (l : List Nat) (L : List Fld) : ∀ a : Int, tagsF a L = true → (setR t l L).length = L.length + (if (getR t L).isSome then 0 else 1) := by
  induction L with
  | nil => intro a _; simp [setR, getR]
  | cons p L ih =>
    intro a h
    simp only [tagsF, Bool.and_eq_true, decide_eq_true_eq] at h
    rw [setR]
    by_cases h3 : p.1 < t
    · rw [if_pos h3, getR, if_neg (show ¬ p.1 = t by omega)]
      simp only [List.length_cons]
      rw [ih _ h.2]; omega
    · rw [if_neg h3]
      by_cases h4 : p.1 = t
      · rw [if_pos h4, getR, if_pos h4]; simp
      · rw [if_neg h4, getR, if_neg h4, getR_none_of t L (fun q hq => by have := (tagsF_mem L _ h.2 q hq).1; omega)]
        simp
theorem set_there (L : List Fld) : ∀ a : Int, tagsF a L = true → ∀ p ∈ L, setR p.1 p.2 L = L := by
  induction L with
  | nil => intro a _ p hp; simp at hp
  | cons q L ih =>
    intro a h p hp
    simp only [tagsF, Bool.and_eq_true, decide_eq_true_eq] at h
    rcases List.mem_cons.1 hp with rfl | hp
    · rw [setR, if_neg (by omega), if_pos rfl]
    · have := (tagsF_mem L _ h.2 p hp).1
      rw [setR, if_pos this, ih _ h.2 p hp]
theorem get_there (L : List Fld) : ∀ a : Int, tagsF a L = true → ∀ p ∈ L, getR p.1 L = some p.2 := by
  induction L with
  | nil => intro a _ p hp; simp at hp
  | cons q L ih =>
    intro a h p hp
    simp only [tagsF, Bool.and_eq_true, decide_eq_true_eq] at h
    rcases List.mem_cons.1 hp with rfl | hp
    · rw [getR, if_pos rfl]
    · have := (tagsF_mem L _ h.2 p hp).1
      rw [getR, if_neg (by omega), ih _ h.2 p hp]
theorem tagsF_drop (L : List Fld) : ∀ (a : Int), tagsF a L = true → ∀ i, i < L.length → (∀ q ∈ L.drop (i + 1), ft L i < q.1) ∧ a < ft L i ∧ ft L i ≤ 200 := by
  induction L with
  | nil => intro a _ i hi; simp at hi
  | cons p L ih =>
    intro a h i hi
    simp only [tagsF, Bool.and_eq_true, decide_eq_true_eq] at h
    cases i with
    | zero => exact ⟨fun q hq => by simpa [ft] using (tagsF_mem L _ h.2 q (by simpa using hq)).1, by simpa [ft] using h.1.1, by simpa [ft] using h.1.2⟩
    | succ i =>
      have := ih _ h.2 i (by simpa using hi)
      have e : ft (p :: L) (i + 1) = ft L i := by simp [ft]
      rw [e]
      exact ⟨fun q hq => this.1 q (by simpa using hq), by omega, this.2.2⟩
theorem set_front (t : Int) (l : List Nat) (L : List Fld) (h : ∀ q ∈ L, t < q.1) : setR t l L = (t, l) :: L := by
  cases L with
  | nil => rfl
  | cons p L => have := h p (by simp); rw [setR, if_neg (by omega), if_neg (by omega)]
theorem set_back (t : Int) (l : List Nat) (L : List Fld) (h : ∀ q ∈ L, q.1 < t) : setR t l L = L ++ [(t, l)] := by
  induction L with
  | nil => rfl
  | cons p L ih => rw [setR, if_pos (h p (by simp)), ih fun q hq => h q (by simp [hq])]; rfl
theorem set_drop (L : List Fld) (h : rightF L = true) (i : Nat) (hi : i < L.length) : setR (ft L i) (fb L i) (L.drop (i + 1)) = L.drop i := by
  have e : (ft L i, fb L i) = L[i] := by simp [ft, fb, List.getD_eq_getElem?_getD, hi]
  rw [set_front _ _ _ (tagsF_drop L 0 ((rightF_iff L).1 h).2.1 i hi).1, e]
  exact (List.drop_eq_getElem_cons hi).symm
theorem fits_drop (L : List Fld) : ∀ (n m : Nat) (a : Int), fits n m a L = true → 0 ≤ a → ∀ i, rightF (L.drop i) = true ∨ 64 < n ∨ 16384 < m := by
  intro n m a h ha i
  by_cases hn : 64 < n
  · exact .inr (.inl hn)
  by_cases hm : 16384 < m
  · exact .inr (.inr hm)
  refine .inl ?_
  rw [fits_eq] at h
  simp only [Bool.and_eq_true, decide_eq_true_eq] at h
  have hd : ∀ (K : List Fld) (b : Int), tagsF b K = true → 0 ≤ b → ∀ j, tagsF 0 (K.drop j) = true ∧ sumB (K.drop j) ≤ sumB K := by
    intro K
    induction K with
    | nil => intro b _ _ j; simp [tagsF, sumB]
    | cons q K ih =>
      intro b hb hb0 j
      simp only [tagsF, Bool.and_eq_true, decide_eq_true_eq] at hb
      cases j with
      | zero =>
        simp only [List.drop_zero, tagsF, Bool.and_eq_true, decide_eq_true_eq]
        exact ⟨⟨⟨by omega, hb.1.2⟩, hb.2⟩, Nat.le_refl _⟩
      | succ j =>
        have := ih _ hb.2 (by omega) j
        simp only [List.drop_succ_cons, sumB]
        exact ⟨this.1, by omega⟩
  have h2 := hd L a h.1.2 ha i
  exact (rightF_iff _).2 ⟨by rw [List.length_drop]; omega, h2.1, by omega⟩
theorem right_drop {L : List Fld} (h : rightF L = true) (i : Nat) : rightF (L.drop i) = true := by
  rcases fits_drop L 64 16384 0 h (Int.le_refl _) i with h1 | h1 | h1
  · exact h1
  · omega
  · omega
theorem sumB_drop (L : List Fld) : ∀ i, sumB (L.drop i) ≤ sumB L := by
  induction L with
  | nil => intro i; simp [sumB]
  | cons q L ih =>
    intro i
    cases i with
    | zero => exact Nat.le_refl _
    | succ i => have := ih i; simp only [List.drop_succ_cons, sumB]; omega
theorem ft_mem {L : List Fld} {i : Nat} (hi : i < L.length) : (ft L i, fb L i) ∈ L := fld_mem hi
end Go.Proofs.Ytlohggdabpfkhaa
