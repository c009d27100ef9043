/-
  PLAIN: what bytes as frames are, cut anywhere: frames of a beginning stay, and bytes that are wrong stay so.
-/
import Derived.Test.YteaeedhhdnkldaaStream
namespace Go.Proofs.Yteaeedhhdnkldaa
open Go.RowKit Go.Shelf Pl

theorem bnd_more {l r : List Nat} {f t : Nat} (ha : AllB l) (h : bnd l = some (f, t)) (hl : ¬ l.length < t) : bnd (l ++ r) = some (f, t) := by
  cases l with
  | nil => simp [bnd] at h; obtain ⟨rfl, rfl⟩ := h; simp at hl
  | cons d l =>
    simp only [List.cons_append, bnd] at h ⊢
    split at h
    · rename_i h1; rw [if_pos h1]; exact h
    · rename_i h1
      rw [if_neg h1]
      split at h
      · rename_i h2
        rw [if_pos h2]
        cases l with
        | nil => simp at h; obtain ⟨rfl, rfl⟩ := h; simp at hl
        | cons x l => simpa using h
      · rename_i h2
        rw [if_neg h2]
        split at h
        · rename_i h3
          rw [if_pos h3]
          match l, h, hl with
          | [], h, hl => simp at h; obtain ⟨rfl, rfl⟩ := h; simp at hl
          | [x], h, hl =>
            simp only at h
            split at h
            · simp at h
            · simp at h; obtain ⟨rfl, rfl⟩ := h; simp at hl; omega
          | x :: y :: l, h, hl => simpa using h
        · simp at h
theorem bnd_none {l r : List Nat} (ha : AllB l) (h : bnd l = none) : bnd (l ++ r) = none := by
  cases l with
  | nil => simp [bnd] at h
  | cons d l =>
    simp only [List.cons_append, bnd] at h ⊢
    split at h
    · simp at h
    · rename_i h1
      rw [if_neg h1]
      split at h
      · rename_i h2
        rw [if_pos h2]
        cases l with
        | nil => simp at h
        | cons x l => simpa using h
      · rename_i h2
        rw [if_neg h2]
        split at h
        · rename_i h3
          rw [if_pos h3]
          match l, ha, h with
          | [], _, h => simp at h
          | [x], ha, h =>
            simp only at h
            split at h
            · rename_i hx
              have hx2 := ha x (by simp)
              cases r with
              | nil => simp only [List.append_nil]; rw [if_pos hx]
              | cons y r => simp only [List.cons_append, List.nil_append]; rw [if_pos (by omega)]
            · simp at h
          | x :: y :: l, _, h => simpa using h
        · rename_i h3
          rw [if_neg h3]
theorem ferr_cases {l : List Nat} (ha : AllB l) : (ferr l = 0 ∧ ∃ f t, bnd l = some (f, t) ∧ ¬ l.length < t ∧ fsize l = t ∧ fbody l = (l.drop f).take (t - f) ∧ f ≤ t) ∨ (ferr l = 30 ∧ ∃ f t, bnd l = some (f, t) ∧ l.length < t) ∨ (ferr l = 31 ∧ bnd l = none) := by
  unfold ferr fsize fbody
  cases h : bnd l with
  | none => exact .inr (.inr ⟨rfl, rfl⟩)
  | some p =>
    obtain ⟨f, t⟩ := p
    have := bnd_le ha h
    by_cases hl : l.length < t
    · exact .inr (.inl ⟨by simp [hl], f, t, rfl, hl⟩)
    · exact .inl ⟨by simp [hl], f, t, rfl, hl, by simp [hl], by simp [hl], this.2.2.1⟩
theorem ferr_more {l : List Nat} (r : List Nat) (ha : AllB l) (h : ferr l = 0) : ferr (l ++ r) = 0 ∧ fsize (l ++ r) = fsize l ∧ fbody (l ++ r) = fbody l := by
  rcases ferr_cases ha with ⟨_, f, t, hb, hl, h2, h3, h4⟩ | ⟨h1, _⟩ | ⟨h1, _⟩
  · have hm := bnd_more (r := r) ha hb hl
    have hl2 : ¬ (l ++ r).length < t := by rw [List.length_append]; omega
    refine ⟨by unfold ferr; rw [hm]; exact if_neg hl2, by unfold fsize; rw [hm, hb]; dsimp only; rw [if_neg hl2, if_neg hl], ?_⟩
    unfold fbody
    rw [hm, hb]
    dsimp only
    rw [if_neg hl2, if_neg hl, List.drop_append_of_le_length (by omega), List.take_append_of_le_length (by rw [List.length_drop]; omega)]
  · rw [h1] at h; cases h
  · rw [h1] at h; cases h
theorem ferr_wrong {l : List Nat} (r : List Nat) (ha : AllB l) (h : ferr l = 31) : ferr (l ++ r) = 31 := by
  rcases ferr_cases ha with ⟨h1, _⟩ | ⟨h1, _⟩ | ⟨_, hb⟩
  · rw [h1] at h; cases h
  · rw [h1] at h; cases h
  · unfold ferr; rw [bnd_none ha hb]
/-- The rest behind all whole frames. -/
def restF3 : Nat → List Nat → List Nat
  | 0, l => l
  | n + 1, l => if ferr l ≠ 0 then l else restF3 n (l.drop (fsize l))
def rst (l : List Nat) : List Nat := restF3 (l.length + 1) l
theorem restF3_more (n : Nat) : ∀ (l : List Nat) (m : Nat), l.length < n → l.length < m → restF3 n l = restF3 m l := by
  induction n with
  | zero => intro l m h1; omega
  | succ n ih =>
    intro l m h1 h2
    cases m with
    | zero => omega
    | succ m =>
      unfold restF3
      split
      · rfl
      · rename_i he
        have h0 : ferr l = 0 := by simpa using he
        have h3 := fsize_pos h0
        have h4 := fsize_le (l := l)
        exact ih _ _ (by rw [List.length_drop]; omega) (by rw [List.length_drop]; omega)
theorem rst_end {l : List Nat} (h : ferr l ≠ 0) : rst l = l := by unfold rst restF3; rw [if_pos h]
theorem rst_step {l : List Nat} (h : ferr l = 0) : rst l = rst (l.drop (fsize l)) := by
  have h3 := fsize_pos h
  have h4 := fsize_le (l := l)
  unfold rst
  rw [restF3, if_neg (by simpa using h)]
  exact restF3_more _ _ _ (by rw [List.length_drop]; omega) (by omega)
/-- All of it at once: bodies, where they end, the rest. -/
theorem frA_all (n : Nat) : ∀ (a : Nat) (l : List Nat), l.length ≤ n → ∃ k, k ≤ l.length ∧ rst l = l.drop k ∧ ferr (rst l) ≠ 0 ∧ ((frA a l).getLast?.map (·.1)).getD a = a + k := by
  induction n with
  | zero =>
    intro a l h
    have : l = [] := List.eq_nil_of_length_eq_zero (by omega)
    subst this
    refine ⟨0, Nat.le_refl _, rfl, by rw [rst_end (by rw [ferr_nil]; decide), ferr_nil]; decide, by rw [frA_end a (by rw [ferr_nil]; decide)]; rfl⟩
  | succ n ih =>
    intro a l h
    by_cases he : ferr l = 0
    · have h3 := fsize_pos he
      have h4 := fsize_le (l := l)
      obtain ⟨k, k1, k2, k3, k4⟩ := ih (a + fsize l) (l.drop (fsize l)) (by rw [List.length_drop]; omega)
      rw [List.length_drop] at k1
      refine ⟨fsize l + k, by omega, by rw [rst_step he, k2, List.drop_drop], by rw [rst_step he]; exact k3, ?_⟩
      rw [frA_step a he]
      cases hl : frA (a + fsize l) (l.drop (fsize l)) with
      | nil => rw [hl] at k4; simp at k4; simp; omega
      | cons p q =>
        rw [hl] at k4
        rw [List.getLast?_cons_cons]
        simp only [List.getLast?_cons, Option.map_some, Option.getD_some] at k4 ⊢
        omega
    · exact ⟨0, Nat.zero_le _, by rw [rst_end he, List.drop_zero], by rw [rst_end he]; exact he, by rw [frA_end a he]; rfl⟩
theorem spl_rest (l : List Nat) : l.drop (splS l) = rst l ∧ ferr (rst l) ≠ 0 := by
  obtain ⟨k, k1, k2, k3, k4⟩ := frA_all _ 0 l (Nat.le_refl _)
  have : splS l = k := by unfold splS lastE frq; omega
  rw [this]
  exact ⟨k2.symm, k3⟩
theorem splE_eq (l : List Nat) (ha : AllB l) : (splE l = 0 ∧ rst l = []) ∨ (splE l = ferr (rst l) ∧ rst l ≠ [] ∧ (ferr (rst l) = 30 ∨ ferr (rst l) = 31)) := by
  have h := spl_rest l
  have hle := splS_le l
  have hr : AllB (rst l) := by rw [← h.1]; exact ha.drop _
  unfold splE
  by_cases he : splS l = l.length
  · rw [if_pos he]
    refine .inl ⟨rfl, ?_⟩
    rw [← h.1, he, List.drop_length]
  · rw [if_neg he, h.1]
    refine .inr ⟨rfl, ?_, ?_⟩
    · rw [← h.1]
      intro e
      have := congrArg List.length e
      rw [List.length_drop] at this
      simp at this
      omega
    · rcases ferr_cases hr with ⟨h1, _⟩ | ⟨h1, _⟩ | ⟨h1, _⟩
      · exact absurd h1 h.2
      · exact .inl h1
      · exact .inr h1
theorem splE_wrong (l : List Nat) (ha : AllB l) : splE l = 31 ↔ ferr (rst l) = 31 := by
  rcases splE_eq l ha with ⟨h1, h2⟩ | ⟨h1, _, _⟩
  · rw [h1, h2, ferr_nil]; decide
  · rw [h1]
theorem frA_shift (n : Nat) : ∀ (a b : Nat) (l : List Nat), l.length ≤ n → (frA a l).map (·.2) = (frA b l).map (·.2) := by
  induction n with
  | zero => intro a b l h; have : l = [] := List.eq_nil_of_length_eq_zero (by omega); subst this; rw [frA_end a (by rw [ferr_nil]; decide), frA_end b (by rw [ferr_nil]; decide)]
  | succ n ih =>
    intro a b l h
    by_cases he : ferr l = 0
    · have h3 := fsize_pos he
      have h4 := fsize_le (l := l)
      rw [frA_step a he, frA_step b he, List.map_cons, List.map_cons, ih (a + fsize l) (b + fsize l) (l.drop (fsize l)) (by rw [List.length_drop]; omega)]
    · rw [frA_end a he, frA_end b he]
/-- The bodies of some bytes with more behind them. -/
theorem frA_more (n : Nat) : ∀ (a b : Nat) (l r : List Nat), l.length ≤ n → AllB l → (frA a (l ++ r)).map (·.2) = (frA a l).map (·.2) ++ (frA b (rst l ++ r)).map (·.2) ∧ rst (l ++ r) = rst (rst l ++ r) := by
  induction n with
  | zero =>
    intro a b l r h ha
    have : l = [] := List.eq_nil_of_length_eq_zero (by omega)
    subst this
    rw [frA_end a (l := []) (by rw [ferr_nil]; decide), rst_end (l := []) (by rw [ferr_nil]; decide)]
    refine ⟨?_, rfl⟩
    simp only [List.nil_append, List.map_nil]
    exact frA_shift _ a b r (Nat.le_refl _)
  | succ n ih =>
    intro a b l r h ha
    by_cases he : ferr l = 0
    · obtain ⟨e1, e2, e3⟩ := ferr_more r ha he
      have h3 := fsize_pos he
      have h4 := fsize_le (l := l)
      have hd : (l ++ r).drop (fsize l) = l.drop (fsize l) ++ r := List.drop_append_of_le_length h4
      obtain ⟨i1, i2⟩ := ih (a + fsize l) b (l.drop (fsize l)) r (by rw [List.length_drop]; omega) (ha.drop _)
      rw [frA_step a he, frA_step a e1, rst_step he, rst_step e1, e2, e3, hd]
      exact ⟨by rw [List.map_cons, List.map_cons, i1]; rfl, i2⟩
    · rw [frA_end a he, rst_end he]
      exact ⟨by rw [List.map_nil, List.nil_append]; exact frA_shift _ a b _ (Nat.le_refl _), rfl⟩
theorem splB_more (l r : List Nat) (ha : AllB l) : splB (l ++ r) = splB l ++ splB (l.drop (splS l) ++ r) ∧ rst (l ++ r) = rst (l.drop (splS l) ++ r) := by
  obtain ⟨h1, h2⟩ := frA_more _ 0 0 l r (Nat.le_refl _) ha
  rw [(spl_rest l).1]
  exact ⟨h1, h2⟩
/-- A Feed more, of a stream that lives. -/
theorem fed_more (l r : List Nat) (ha : AllB l) (hr : AllB r) (h : splE l ≠ 31) : splB (l ++ r) = splB l ++ splB (feedH l ++ r) ∧ (splE (l ++ r) = 31 ↔ splE (feedH l ++ r) = 31) ∧ feedE (l ++ r) = feedE (feedH l ++ r) ∧ feedH (l ++ r) = feedH (feedH l ++ r) ∧ AllB (feedH l) := by
  have e : feedH l = l.drop (splS l) := by unfold feedH; rw [if_neg h]
  have hd : AllB (feedH l) := by rw [e]; exact ha.drop _
  obtain ⟨h1, h2⟩ := splB_more l r ha
  rw [← e] at h1 h2
  have h3 : splE (l ++ r) = 31 ↔ splE (feedH l ++ r) = 31 := by rw [splE_wrong _ (ha.append hr), splE_wrong _ (hd.append hr), h2]
  refine ⟨h1, h3, ?_, ?_, hd⟩
  · unfold feedE
    by_cases hx : splE (l ++ r) = 31
    · rw [if_pos hx, if_pos (h3.1 hx)]
    · rw [if_neg hx, if_neg (fun hy => hx (h3.2 hy))]
  · have q : ∀ x : List Nat, feedH x = if splE x = 31 then [] else rst x := fun x => by unfold feedH; rw [(spl_rest x).1]
    rw [q (l ++ r), q (feedH l ++ r), h2]
    by_cases hx : splE (l ++ r) = 31
    · rw [if_pos hx, if_pos (h3.1 hx)]
    · rw [if_neg hx, if_neg (fun hy => hx (h3.2 hy))]
/-- A Feed more, of a stream that is dead. -/
theorem fed_dead (l r : List Nat) (ha : AllB l) (hr : AllB r) (h : splE l = 31) : splB (l ++ r) = splB l ∧ splE (l ++ r) = 31 := by
  have hw := (splE_wrong l ha).1 h
  have hrs : AllB (rst l) := by rw [← (spl_rest l).1]; exact ha.drop _
  have hw2 := ferr_wrong r hrs hw
  obtain ⟨h1, h2⟩ := frA_more _ 0 0 l r (Nat.le_refl _) ha
  refine ⟨?_, ?_⟩
  · have : splB (l ++ r) = splB l ++ (frA 0 (rst l ++ r)).map (·.2) := h1
    rw [this, frA_end 0 (by rw [hw2]; decide)]
    simp
  · rw [splE_wrong _ (ha.append hr), h2, rst_end (by rw [hw2]; decide)]
    exact hw2
theorem feedE_31 {l : List Nat} (h : splE l = 31) : feedE l = 31 := by unfold feedE; rw [if_pos h]
theorem feedE_0 {l : List Nat} (h : splE l ≠ 31) : feedE l = 0 := by unfold feedE; rw [if_neg h]
theorem feedH_31 {l : List Nat} (h : splE l = 31) : feedH l = [] := by unfold feedH; rw [if_pos h]
end Go.Proofs.Yteaeedhhdnkldaa
