/-
  PLAIN FACTS about trees of entries: how one rises and sinks, what a swap does to the places' indexes, and the list of all entries in order. No program is named here.
-/
import Derived.Test.YtecbpohkbniadaaGreatKeyPlain
namespace Go.Proofs.YtecbpohkbniadaaGreat
open Go.RowKit

/-- An entry: its key, and its place. -/
abbrev En := Ky × Nat
def LtE (a b : En) : Prop := LessK a.1 b.1 ∨ (a.1 = b.1 ∧ a.2 < b.2)
instance (a b : En) : Decidable (LtE a b) := by unfold LtE; infer_instance
def cfE (a b : En) : Int := if LtE a b then -1 else if LtE b a then 1 else 0
theorem ltE_irrefl (a : En) : ¬ LtE a a := by
  rintro (h | h)
  · exact less_irrefl _ h
  · omega
theorem ltE_trans {a b c : En} (h : LtE a b) (k : LtE b c) : LtE a c := by
  rcases h with h | ⟨h, h'⟩ <;> rcases k with k | ⟨k, k'⟩
  · exact .inl (less_trans h k)
  · exact .inl (by rw [← k]; exact h)
  · exact .inl (by rw [h]; exact k)
  · exact .inr ⟨h.trans k, by omega⟩
theorem ltE_asymm {a b : En} (h : LtE a b) : ¬ LtE b a := fun k => ltE_irrefl a (ltE_trans h k)
theorem ltE_tri (a b : En) : LtE a b ∨ a = b ∨ LtE b a := by
  rcases less_tri a.1 b.1 with h | h | h
  · exact .inl (.inl h)
  · rcases Nat.lt_trichotomy a.2 b.2 with k | k | k
    · exact .inl (.inr ⟨h, k⟩)
    · exact .inr (.inl (Prod.ext h k))
    · exact .inr (.inr (.inr ⟨h.symm, k⟩))
  · exact .inr (.inr (.inl h))
/-- a does not come behind b. -/
def LeE (a b : En) : Prop := ¬ LtE b a
theorem leE_refl (a : En) : LeE a a := ltE_irrefl a
theorem leE_of_lt {a b : En} (h : LtE a b) : LeE a b := ltE_asymm h
theorem leE_trans {a b c : En} (h : LeE a b) (k : LeE b c) : LeE a c := by
  intro q
  rcases ltE_tri a b with e | e | e
  · exact k (ltE_trans q e)
  · subst e; exact k q
  · exact h e
theorem leE_lt {a b c : En} (h : LeE a b) (k : LtE b c) : LtE a c := by
  rcases ltE_tri a b with e | e | e
  · exact ltE_trans e k
  · subst e; exact k
  · exact absurd e h
theorem lt_or_le (a b : En) : LtE a b ∨ LeE b a := by
  by_cases h : LtE a b
  · exact .inl h
  · exact .inr h
theorem cfE_neg {a b : En} : cfE a b < 0 ↔ LtE a b := by
  unfold cfE
  by_cases h : LtE a b
  · simp [h]
  · by_cases k : LtE b a <;> simp [h, k]
theorem cfE_lt {a b : En} (h : LtE a b) : cfE a b = -1 := by unfold cfE; rw [if_pos h]
theorem cfE_ge {a b : En} (h : LeE b a) : 0 ≤ cfE a b := by
  have : ¬ cfE a b < 0 := fun k => h (cfE_neg.1 k)
  omega

/-- The entry at an index. -/
def en (t : List En) (i : Nat) : En := t.getD i ((0, 0, 0), 0)
theorem en_get {t : List En} {i : Nat} (h : i < t.length) : t[i]? = some (en t i) := by
  unfold en; rw [List.getD_eq_getElem?_getD, List.getElem?_eq_getElem h]; rfl
theorem en_mem {t : List En} {i : Nat} (h : i < t.length) : en t i ∈ t := List.mem_of_getElem? (en_get h)
theorem mem_en {t : List En} {x : En} (h : x ∈ t) : ∃ i, i < t.length ∧ en t i = x := by
  obtain ⟨i, hi, e⟩ := List.getElem_of_mem h
  exact ⟨i, hi, by unfold en; rw [List.getD_eq_getElem?_getD, List.getElem?_eq_getElem hi, e]; rfl⟩
theorem en_ext {t u : List En} (hl : t.length = u.length) (h : ∀ i, i < t.length → en t i = en u i) : t = u := by
  apply List.ext_getElem?
  intro i
  by_cases hi : i < t.length
  · rw [en_get hi, en_get (by omega), h i hi]
  · rw [List.getElem?_eq_none (by omega), List.getElem?_eq_none (by omega)]
theorem en_set (t : List En) (i : Nat) (x : En) (j : Nat) (h : i < t.length) : en (t.set i x) j = if j = i then x else en t j := by
  unfold en
  rw [List.getD_eq_getElem?_getD, List.getD_eq_getElem?_getD, List.getElem?_set]
  by_cases e : i = j
  · rw [if_pos e, if_pos e.symm]; subst e; simp [h]
  · rw [if_neg e, if_neg (fun q => e q.symm)]
theorem en_append (t : List En) (x : En) (j : Nat) : en (t ++ [x]) j = if j < t.length then en t j else if j = t.length then x else ((0, 0, 0), 0) := by
  unfold en
  rw [List.getD_eq_getElem?_getD, List.getD_eq_getElem?_getD, List.getElem?_append]
  split
  · rfl
  · split
    · rename_i h h2; subst h2; simp
    · rename_i h h2
      rw [List.getElem?_eq_none (by simp; omega)]; rfl
theorem en_take (t : List En) (n j : Nat) (h : j < n) : en (t.take n) j = en t j := by
  unfold en
  rw [List.getD_eq_getElem?_getD, List.getD_eq_getElem?_getD, List.getElem?_take_of_lt h]
/-- Two entries swapped. -/
def swE (t : List En) (i j : Nat) : List En := (t.set i (en t j)).set j (en t i)
theorem swE_len (t : List En) (i j : Nat) : (swE t i j).length = t.length := by simp [swE]
theorem en_sw (t : List En) {i j : Nat} (hi : i < t.length) (hj : j < t.length) (k : Nat) : en (swE t i j) k = if k = j then en t i else if k = i then en t j else en t k := by
  unfold swE
  rw [en_set _ _ _ _ (by simpa using hj), en_set _ _ _ _ hi]
theorem swE_mem {t : List En} {i j : Nat} (hi : i < t.length) (hj : j < t.length) (x : En) : x ∈ swE t i j ↔ x ∈ t := by
  constructor
  · intro h
    obtain ⟨k, hk, e⟩ := mem_en h
    rw [en_sw t hi hj] at e
    rw [swE_len] at hk
    split at e
    · exact e ▸ en_mem hi
    · split at e
      · exact e ▸ en_mem hj
      · exact e ▸ en_mem hk
  · intro h
    obtain ⟨k, hk, e⟩ := mem_en h
    by_cases h1 : k = i
    · have : en (swE t i j) j = x := by rw [en_sw t hi hj, if_pos rfl, ← h1, e]
      exact this ▸ en_mem (by rw [swE_len]; exact hj)
    · by_cases h2 : k = j
      · have : en (swE t i j) i = x := by
          rw [en_sw t hi hj]
          by_cases h3 : i = j
          · omega
          · rw [if_neg h3, if_pos rfl, ← h2, e]
        exact this ▸ en_mem (by rw [swE_len]; exact hi)
      · have : en (swE t i j) k = x := by rw [en_sw t hi hj, if_neg h2, if_neg h1, e]
        exact this ▸ en_mem (by rw [swE_len]; exact hk)

/-- THE TREE IS ONE. -/
def HOrd (t : List En) : Prop := ∀ j, 1 ≤ j → j < t.length → LeE (en t ((j - 1) / 4)) (en t j)
/-- The tree is one but for the entry at i, up and down. -/
def Exc (t : List En) (i : Nat) : Prop :=
  (∀ j, 1 ≤ j → j < t.length → j ≠ i → (j - 1) / 4 ≠ i → LeE (en t ((j - 1) / 4)) (en t j)) ∧
  (∀ j, 1 ≤ j → j < t.length → (j - 1) / 4 = i → 1 ≤ i → LeE (en t ((i - 1) / 4)) (en t j))
/-- An entry rises, from i0; it is at i. -/
def Rises (t : List En) (i0 i : Nat) : Prop :=
  i ≤ i0 ∧ i0 < t.length ∧
  (∀ j, 1 ≤ j → j < t.length → j ≠ i → (j - 1) / 4 ≠ i0 → LeE (en t ((j - 1) / 4)) (en t j)) ∧
  (∀ j, 1 ≤ j → j < t.length → (j - 1) / 4 = i → 1 ≤ i → LeE (en t ((i - 1) / 4)) (en t j)) ∧
  (i = i0 ∨ ∀ j, 1 ≤ j → j < t.length → (j - 1) / 4 = i0 → LeE (en t i0) (en t j))
/-- An entry sinks; it is at i. -/
def Sinks (t : List En) (i : Nat) : Prop :=
  (∀ j, 1 ≤ j → j < t.length → (j - 1) / 4 ≠ i → LeE (en t ((j - 1) / 4)) (en t j)) ∧
  (∀ j, 1 ≤ j → j < t.length → (j - 1) / 4 = i → 1 ≤ i → LeE (en t ((i - 1) / 4)) (en t j))
theorem Exc.rises {t : List En} {i : Nat} (h : Exc t i) (hi : i < t.length) : Rises t i i :=
  ⟨Nat.le_refl _, hi, fun j h1 h2 h3 h4 => h.1 j h1 h2 h3 h4, h.2, .inl rfl⟩
theorem HOrd.exc {t : List En} (h : HOrd t) (i : Nat) (x : En) (hi : i < t.length) : Exc (t.set i x) i := by
  constructor
  · intro j h1 h2 h3 h4
    rw [List.length_set] at h2
    rw [en_set _ _ _ _ hi, en_set _ _ _ _ hi, if_neg h4, if_neg h3]
    exact h j h1 h2
  · intro j h1 h2 h3 h4
    rw [List.length_set] at h2
    rw [en_set _ _ _ _ hi, en_set _ _ _ _ hi, if_neg (by omega), if_neg (by omega)]
    have a := h i h4 hi
    have b := h j h1 h2
    rw [h3] at b
    exact leE_trans a b
theorem HOrd.put {t : List En} (h : HOrd t) (x : En) : Rises (t ++ [x]) t.length t.length := by
  refine ⟨Nat.le_refl _, by simp, ?_, ?_, .inl rfl⟩
  · intro j h1 h2 h3 h4
    simp at h2
    rw [en_append, en_append, if_pos (by omega), if_pos (by omega)]
    exact h j h1 (by omega)
  · intro j h1 h2 h3 h4
    simp at h2
    omega
theorem Rises.step {t : List En} {i0 i : Nat} (h : Rises t i0 i) (hi : 1 ≤ i) (hlt : LtE (en t i) (en t ((i - 1) / 4))) : Rises (swE t i ((i - 1) / 4)) i0 ((i - 1) / 4) := by
  obtain ⟨h1, h2, ha, hb, hc⟩ := h
  have hp : (i - 1) / 4 < i := by omega
  have hil : i < t.length := by omega
  have hpl : (i - 1) / 4 < t.length := by omega
  generalize hpe : (i - 1) / 4 = p at *
  refine ⟨by omega, by rw [swE_len]; exact h2, ?_, ?_, ?_⟩
  · intro j j1 j2 j3 j4
    rw [swE_len] at j2
    rw [en_sw t hil hpl, en_sw t hil hpl]
    by_cases e1 : j = i
    · subst e1
      rw [hpe, if_pos rfl, if_neg (by omega), if_pos rfl]
      exact leE_of_lt hlt
    · rw [if_neg j3, if_neg e1]
      by_cases e2 : (j - 1) / 4 = i
      · rw [e2, if_neg (by omega), if_pos rfl]
        exact hb j j1 j2 e2 hi
      · by_cases e3 : (j - 1) / 4 = p
        · rw [if_pos e3]
          have := ha j j1 j2 e1 j4
          rw [e3] at this
          exact leE_trans (leE_of_lt hlt) this
        · rw [if_neg e3, if_neg e2]
          exact ha j j1 j2 e1 j4
  · intro j j1 j2 j3 j4
    rw [swE_len] at j2
    rw [en_sw t hil hpl, en_sw t hil hpl, if_neg (by omega), if_neg (by omega), if_neg (by omega)]
    have hup := ha p j4 hpl (by omega) (by omega)
    by_cases e1 : j = i
    · rw [if_pos e1]; exact hup
    · rw [if_neg e1]
      have := ha j j1 j2 e1 (by omega)
      rw [j3] at this
      exact leE_trans hup this
  · refine .inr fun j j1 j2 j3 => ?_
    rw [swE_len] at j2
    rw [en_sw t hil hpl, en_sw t hil hpl, if_neg (by omega), if_neg (show ¬ j = p by omega), if_neg (show ¬ j = i by omega)]
    by_cases e : i0 = i
    · rw [if_pos e]
      exact hb j j1 j2 (by omega) hi
    · rw [if_neg e]
      rcases hc with hc | hc
      · omega
      · exact hc j j1 j2 j3
theorem Rises.ends {t : List En} {i0 i : Nat} (h : Rises t i0 i) (hs : i = 0 ∨ LeE (en t ((i - 1) / 4)) (en t i)) : Sinks t i0 := by
  obtain ⟨h1, h2, ha, hb, hc⟩ := h
  have hall : ∀ j, 1 ≤ j → j < t.length → (j - 1) / 4 ≠ i0 → LeE (en t ((j - 1) / 4)) (en t j) := by
    intro j j1 j2 j3
    by_cases e : j = i
    · subst e
      rcases hs with hs | hs
      · omega
      · exact hs
    · exact ha j j1 j2 e j3
  refine ⟨hall, fun j j1 j2 j3 j4 => ?_⟩
  rcases hc with hc | hc
  · subst hc; exact hb j j1 j2 j3 j4
  · exact leE_trans (hall i0 j4 h2 (by omega)) (hc j j1 j2 j3)
theorem Sinks.last {t : List En} {i : Nat} (h : Sinks t i) (hi : t.length ≤ 4 * i + 1) : HOrd t := fun j j1 j2 => h.1 j j1 j2 (by omega)
/-- The first one of those below i that were looked at, up to the index m. -/
def First (t : List En) (i m f : Nat) : Prop := (f = i ∨ (4 * i + 1 ≤ f ∧ f < m)) ∧ LeE (en t f) (en t i) ∧ ∀ j, 4 * i + 1 ≤ j → j < m → LeE (en t f) (en t j)
theorem First.begins (t : List En) (i : Nat) : First t i (4 * i + 1) i := ⟨.inl rfl, leE_refl _, fun j h1 h2 => by omega⟩
theorem First.lesser {t : List En} {i m f : Nat} (h : First t i m f) (hm : 4 * i + 1 ≤ m) (hlt : LtE (en t m) (en t f)) : First t i (m + 1) m :=
  ⟨.inr ⟨hm, by omega⟩, leE_of_lt (by rcases lt_or_le (en t m) (en t i) with k | k; exact k; exact absurd (leE_trans h.2.1 k) (fun q => q hlt)), fun j h1 h2 => by
    by_cases e : j = m
    · subst e; exact leE_refl _
    · exact leE_trans (leE_of_lt hlt) (h.2.2 j h1 (by omega))⟩
theorem First.stays {t : List En} {i m f : Nat} (h : First t i m f) (hge : LeE (en t f) (en t m)) : First t i (m + 1) f :=
  ⟨by rcases h.1 with k | k; exact .inl k; exact .inr ⟨k.1, by omega⟩, h.2.1, fun j h1 h2 => by
    by_cases e : j = m
    · subst e; exact hge
    · exact h.2.2 j h1 (by omega)⟩
theorem Sinks.ends {t : List En} {i m : Nat} (h : Sinks t i) (hf : First t i m i) (hm : 4 * i + 5 ≤ m ∨ t.length ≤ m) : HOrd t := fun j j1 j2 => by
  by_cases e : (j - 1) / 4 = i
  · rw [e]; exact hf.2.2 j (by omega) (by omega)
  · exact h.1 j j1 j2 e
theorem Sinks.step {t : List En} {i m f : Nat} (h : Sinks t i) (hi : i < t.length) (hf : First t i m f) (hne : f ≠ i) (hm : m ≤ 4 * i + 5 ∧ m ≤ t.length) (hm2 : m = 4 * i + 5 ∨ m = t.length) : Sinks (swE t i f) f := by
  obtain ⟨ha, hb⟩ := h
  obtain ⟨hr, hle, hall⟩ := hf
  have hrr : 4 * i + 1 ≤ f ∧ f < m := by rcases hr with e | e; exact absurd e hne; exact e
  have hfl : f < t.length := by omega
  constructor
  · intro j j1 j2 j3
    rw [swE_len] at j2
    rw [en_sw t hi hfl, en_sw t hi hfl, if_neg j3]
    by_cases e1 : (j - 1) / 4 = i
    · rw [if_pos e1]
      by_cases e2 : j = f
      · rw [if_pos e2]; exact hle
      · rw [if_neg e2, if_neg (by omega)]
        exact hall j (by omega) (by omega)
    · rw [if_neg e1]
      by_cases e2 : j = f
      · omega
      · rw [if_neg e2]
        by_cases e3 : j = i
        · rw [if_pos e3]
          subst e3
          exact hb f (by omega) hfl (by omega) j1
        · rw [if_neg e3]; exact ha j j1 j2 e1
  · intro j j1 j2 j3 j4
    rw [swE_len] at j2
    rw [en_sw t hi hfl, en_sw t hi hfl, if_neg (by omega), if_pos (by omega), if_neg (by omega), if_neg (by omega)]
    have := ha j j1 j2 (by omega)
    rw [j3] at this
    exact this

/-- THE INDEXES OF THE PLACES. -/
def Agr (n : Nat) (t : List En) (ix : Nat → Int) : Prop :=
  (∀ i, i < t.length → (en t i).2 < n ∧ ix (en t i).2 = i) ∧ ∀ p, p < n → ix p = -1 ∨ ∃ i, i < t.length ∧ ix p = i ∧ (en t i).2 = p
theorem Agr.inj {n : Nat} {t : List En} {ix : Nat → Int} (h : Agr n t ix) {i j : Nat} (hi : i < t.length) (hj : j < t.length) (e : (en t i).2 = (en t j).2) : i = j := by
  have a := (h.1 i hi).2
  have b := (h.1 j hj).2
  rw [e] at a
  omega
theorem Agr.sw {n : Nat} {t : List En} {ix ix' : Nat → Int} (h : Agr n t ix) {i j : Nat} (hi : i < t.length) (hj : j < t.length)
    (hx : ∀ p, ix' p = if p = (en t j).2 then (i : Int) else if p = (en t i).2 then (j : Int) else ix p) : Agr n (swE t i j) ix' := by
  have hinj := @Agr.inj n t ix h
  constructor
  · intro k hk
    rw [swE_len] at hk
    rw [en_sw t hi hj]
    by_cases e1 : k = j
    · rw [if_pos e1, hx]
      refine ⟨(h.1 i hi).1, ?_⟩
      by_cases e2 : (en t i).2 = (en t j).2
      · rw [if_pos e2]; have := hinj hi hj e2; omega
      · rw [if_neg e2, if_pos rfl]; omega
    · rw [if_neg e1]
      by_cases e2 : k = i
      · rw [if_pos e2, hx, if_pos rfl]; exact ⟨(h.1 j hj).1, by omega⟩
      · rw [if_neg e2, hx, if_neg (fun q => e1 (hinj hk hj q)), if_neg (fun q => e2 (hinj hk hi q))]
        exact h.1 k hk
  · intro p hp
    rw [hx]
    by_cases e1 : p = (en t j).2
    · rw [if_pos e1]
      refine .inr ⟨i, by rw [swE_len]; exact hi, rfl, ?_⟩
      rw [en_sw t hi hj]
      by_cases e2 : i = j
      · rw [if_pos e2, e2]; exact e1.symm
      · rw [if_neg e2, if_pos rfl]; exact e1.symm
    · rw [if_neg e1]
      by_cases e2 : p = (en t i).2
      · rw [if_pos e2]
        exact .inr ⟨j, by rw [swE_len]; exact hj, rfl, by rw [en_sw t hi hj, if_pos rfl]; exact e2.symm⟩
      · rw [if_neg e2]
        rcases h.2 p hp with q | ⟨k, k1, k2, k3⟩
        · exact .inl q
        · refine .inr ⟨k, by rw [swE_len]; exact k1, k2, ?_⟩
          rw [en_sw t hi hj, if_neg (fun q => e1 (by rw [← k3, q])), if_neg (fun q => e2 (by rw [← k3, q]))]
          exact k3
/-- Another key at an index. -/
theorem Agr.change {n : Nat} {t : List En} {ix : Nat → Int} (h : Agr n t ix) {i : Nat} (hi : i < t.length) (k : Ky) : Agr n (t.set i (k, (en t i).2)) ix := by
  have e : ∀ j, (en (t.set i (k, (en t i).2)) j).2 = (en t j).2 := fun j => by
    rw [en_set _ _ _ _ hi]
    by_cases q : j = i
    · rw [if_pos q, q]
    · rw [if_neg q]
  constructor
  · intro j hj
    rw [List.length_set] at hj
    rw [e]
    exact h.1 j hj
  · intro p hp
    rcases h.2 p hp with q | ⟨j, j1, j2, j3⟩
    · exact .inl q
    · exact .inr ⟨j, by rw [List.length_set]; exact j1, j2, by rw [e]; exact j3⟩
theorem Agr.put {n : Nat} {t : List En} {ix ix' : Nat → Int} (h : Agr n t ix) {p : Nat} (hp : p < n) (ha : ix p = -1) (k : Ky) (hx : ∀ q, ix' q = if q = p then (t.length : Int) else ix q) : Agr n (t ++ [(k, p)]) ix' := by
  have e : ∀ j, j < t.length → en (t ++ [(k, p)]) j = en t j := fun j hj => by rw [en_append, if_pos hj]
  have e2 : en (t ++ [(k, p)]) t.length = (k, p) := by rw [en_append, if_neg (by omega), if_pos rfl]
  constructor
  · intro j hj
    simp at hj
    by_cases q : j = t.length
    · rw [q, e2, hx, if_pos rfl]; exact ⟨hp, rfl⟩
    · rw [e j (by omega), hx]
      have := h.1 j (by omega)
      refine ⟨this.1, ?_⟩
      by_cases q2 : (en t j).2 = p
      · rw [q2] at this; omega
      · rw [if_neg q2]; exact this.2
  · intro q hq
    rw [hx]
    by_cases c : q = p
    · rw [if_pos c]
      exact .inr ⟨t.length, by simp, rfl, by rw [e2]; exact c.symm⟩
    · rw [if_neg c]
      rcases h.2 q hq with d | ⟨j, j1, j2, j3⟩
      · exact .inl d
      · exact .inr ⟨j, by simp; omega, j2, by rw [e j j1]; exact j3⟩
/-- The last one taken away. -/
theorem Agr.drop {n : Nat} {t : List En} {ix ix' : Nat → Int} (h : Agr n t ix) (m : Nat) (hm : t.length = m + 1) (hx : ∀ q, ix' q = if q = (en t m).2 then -1 else ix q) : Agr n (t.take m) ix' := by
  have hl : (t.take m).length = m := by rw [List.length_take]; omega
  constructor
  · intro j hj
    rw [hl] at hj
    rw [en_take _ _ _ hj, hx]
    have := h.1 j (by omega)
    refine ⟨this.1, ?_⟩
    rw [if_neg (fun q => by have := h.inj (by omega) (by omega) q; omega)]
    exact this.2
  · intro q hq
    rw [hx]
    by_cases c : q = (en t m).2
    · rw [if_pos c]; exact .inl rfl
    · rw [if_neg c]
      rcases h.2 q hq with d | ⟨j, j1, j2, j3⟩
      · exact .inl d
      · refine .inr ⟨j, ?_, j2, ?_⟩
        · rw [hl]
          by_cases c2 : j = m
          · subst c2; exact absurd j3.symm c
          · omega
        · by_cases c2 : j = m
          · subst c2; exact absurd j3.symm c
          · rw [en_take _ _ _ (by omega)]; exact j3

/-- WHAT IS THERE: the key of each place. -/
abbrev Mp := Nat → Option Ky
def Has (t : List En) (M : Mp) : Prop := ∀ p k, M p = some k ↔ (k, p) ∈ t
def updM (M : Mp) (p : Nat) (v : Option Ky) : Mp := fun q => if q = p then v else M q
theorem Has.at {n : Nat} {t : List En} {ix : Nat → Int} {M : Mp} (h : Has t M) (ha : Agr n t ix) {p : Nat} (hp : p < n) : (ix p = -1 ∧ M p = none) ∨ ∃ i, i < t.length ∧ ix p = i ∧ en t i = ((en t i).1, p) ∧ M p = some (en t i).1 := by
  rcases ha.2 p hp with q | ⟨i, i1, i2, i3⟩
  · refine .inl ⟨q, ?_⟩
    cases hm : M p with
    | none => rfl
    | some k =>
      obtain ⟨i, i1, i2⟩ := mem_en ((h p k).1 hm)
      have := (ha.1 i i1).2
      rw [i2] at this
      have : ix p = i := this
      omega
  · refine .inr ⟨i, i1, i2, by rw [← i3], (h p _).2 ?_⟩
    have := en_mem i1
    rwa [show en t i = ((en t i).1, p) by rw [← i3]] at this
theorem Has.off {n : Nat} {t : List En} {ix : Nat → Int} {M : Mp} (h : Has t M) (ha : Agr n t ix) {p : Nat} (hp : n ≤ p) : M p = none := by
  cases hm : M p with
  | none => rfl
  | some k =>
    obtain ⟨i, i1, i2⟩ := mem_en ((h p k).1 hm)
    have := (ha.1 i i1).1
    rw [i2] at this
    have : p < n := this
    omega
theorem Has.mem {t u : List En} {M : Mp} (h : Has t M) (e : ∀ x, x ∈ u ↔ x ∈ t) : Has u M := fun p k => (h p k).trans (e _).symm
theorem Has.put {n : Nat} {t : List En} {ix : Nat → Int} {M : Mp} (h : Has t M) (ha : Agr n t ix) {p : Nat} (hp : p < n) (hx : ix p = -1) (k : Ky) : Has (t ++ [(k, p)]) (updM M p (some k)) := by
  intro q j
  rw [List.mem_append, List.mem_singleton]
  unfold updM
  by_cases c : q = p
  · rw [if_pos c]
    constructor
    · intro e; exact .inr (by rw [c]; simpa using e.symm)
    · rintro (e | e)
      · have := (h q j).2 e
        rw [c] at this
        rcases h.at ha hp with ⟨_, b⟩ | ⟨i, _, b, _⟩
        · rw [b] at this; cases this
        · omega
      · cases e; rfl
  · rw [if_neg c]
    constructor
    · intro e; exact .inl ((h q j).1 e)
    · rintro (e | e)
      · exact (h q j).2 e
      · cases e; exact absurd rfl c
theorem Has.change {n : Nat} {t : List En} {ix : Nat → Int} {M : Mp} (h : Has t M) (ha : Agr n t ix) {i : Nat} (hi : i < t.length) (k : Ky) : Has (t.set i (k, (en t i).2)) (updM M (en t i).2 (some k)) := by
  intro q j
  unfold updM
  constructor
  · intro e
    by_cases c : q = (en t i).2
    · rw [if_pos c] at e
      have : en (t.set i (k, (en t i).2)) i = (j, q) := by rw [en_set _ _ _ _ hi, if_pos rfl, c]; simpa using e
      exact this ▸ en_mem (by simpa using hi)
    · rw [if_neg c] at e
      obtain ⟨m, m1, m2⟩ := mem_en ((h q j).1 e)
      have : en (t.set i (k, (en t i).2)) m = (j, q) := by
        rw [en_set _ _ _ _ hi, if_neg (fun z => c (by rw [← z, m2])), m2]
      exact this ▸ en_mem (by simpa using m1)
  · intro e
    obtain ⟨m, m1, m2⟩ := mem_en e
    rw [List.length_set] at m1
    rw [en_set _ _ _ _ hi] at m2
    by_cases c : m = i
    · rw [if_pos c] at m2
      cases m2
      rw [if_pos rfl]
    · rw [if_neg c] at m2
      rw [if_neg (fun z => c (ha.inj m1 hi (by rw [m2]; exact z)))]
      exact (h q j).2 (m2 ▸ en_mem m1)
theorem Has.drop {n : Nat} {t : List En} {ix : Nat → Int} {M : Mp} (h : Has t M) (ha : Agr n t ix) (m : Nat) (hm : t.length = m + 1) : Has (t.take m) (updM M (en t m).2 none) := by
  intro q j
  unfold updM
  have hl : (t.take m).length = m := by rw [List.length_take]; omega
  constructor
  · intro e
    by_cases c : q = (en t m).2
    · rw [if_pos c] at e; cases e
    · rw [if_neg c] at e
      obtain ⟨i, i1, i2⟩ := mem_en ((h q j).1 e)
      have hi : i < m := by
        by_cases z : i = m
        · subst z; rw [i2] at c; exact absurd rfl c
        · omega
      have : en (t.take m) i = (j, q) := by rw [en_take _ _ _ hi, i2]
      exact this ▸ en_mem (by omega)
  · intro e
    obtain ⟨i, i1, i2⟩ := mem_en e
    rw [hl] at i1
    rw [en_take _ _ _ i1] at i2
    rw [if_neg (fun z => by have := ha.inj (show i < t.length by omega) (show m < t.length by omega) (by rw [i2]; exact z); omega)]
    exact (h q j).2 (i2 ▸ en_mem (by omega))
/-- The entry at the top comes before all. -/
theorem HOrd.least {t : List En} (h : HOrd t) : ∀ n i, i ≤ n → i < t.length → LeE (en t 0) (en t i) := by
  intro n
  induction n with
  | zero => intro i h1 _; rw [show i = 0 by omega]; exact leE_refl _
  | succ n ih =>
    intro i h1 h2
    by_cases e : i = 0
    · rw [e]; exact leE_refl _
    · exact leE_trans (ih ((i - 1) / 4) (by omega) (by omega)) (h i (by omega) h2)

/-- ALL ENTRIES IN ORDER. -/
def AscE (l : List En) : Prop := ∀ i j, i < j → j < l.length → LtE (en l i) (en l j)
theorem ascE_tail {x : En} {l : List En} (h : AscE (x :: l)) : AscE l ∧ ∀ y ∈ l, LtE x y :=
  ⟨fun i j h1 h2 => h (i + 1) (j + 1) (by omega) (by simpa using h2), fun y hy => by
    obtain ⟨i, i1, i2⟩ := mem_en hy
    have : LtE (en (x :: l) 0) (en (x :: l) (i + 1)) := h 0 (i + 1) (by omega) (by simpa using i1)
    rw [← i2]; exact this⟩
theorem ascE_cons {x : En} {l : List En} (h : AscE l) (hx : ∀ y ∈ l, LtE x y) : AscE (x :: l) := by
  intro i j h1 h2
  cases j with
  | zero => omega
  | succ j =>
    have hj : j < l.length := by simpa using h2
    cases i with
    | zero => exact hx _ (en_mem hj)
    | succ i => exact h i j (by omega) hj
theorem ascE_unique : ∀ l m : List En, AscE l → AscE m → (∀ x, x ∈ l ↔ x ∈ m) → l = m
  | [], [], _, _, _ => rfl
  | [], y :: m, _, _, h => absurd ((h y).2 (by simp)) (by simp)
  | x :: l, [], _, _, h => absurd ((h x).1 (by simp)) (by simp)
  | x :: l, y :: m, hl, hm, h => by
    obtain ⟨hl1, hl2⟩ := ascE_tail hl
    obtain ⟨hm1, hm2⟩ := ascE_tail hm
    have e : x = y := by
      rcases List.mem_cons.1 ((h x).1 (by simp)) with a | a
      · exact a
      · rcases List.mem_cons.1 ((h y).2 (by simp)) with b | b
        · exact b.symm
        · exact absurd (hl2 y b) (ltE_asymm (hm2 x a))
    subst e
    rw [ascE_unique l m hl1 hm1 fun z => ?_]
    constructor
    · intro hz
      rcases List.mem_cons.1 ((h z).1 (List.mem_cons_of_mem _ hz)) with a | a
      · exact absurd (hl2 z hz) (by rw [a]; exact ltE_irrefl _)
      · exact a
    · intro hz
      rcases List.mem_cons.1 ((h z).2 (List.mem_cons_of_mem _ hz)) with a | a
      · exact absurd (hm2 z hz) (by rw [a]; exact ltE_irrefl _)
      · exact a
def insE (x : En) : List En → List En
  | [] => [x]
  | y :: l => if LtE x y then x :: y :: l else if x = y then y :: l else y :: insE x l
theorem insE_mem (x : En) : ∀ (l : List En) (z : En), z ∈ insE x l ↔ z = x ∨ z ∈ l
  | [], z => by simp [insE]
  | y :: l, z => by
    unfold insE
    split
    · simp
    · split
      · rename_i h; subst h; simp
      · simp only [List.mem_cons, insE_mem x l z]
        constructor
        · rintro (h | h | h)
          · exact .inr (.inl h)
          · exact .inl h
          · exact .inr (.inr h)
        · rintro (h | h | h)
          · exact .inr (.inl h)
          · exact .inl h
          · exact .inr (.inr h)
theorem insE_asc (x : En) : ∀ l : List En, AscE l → AscE (insE x l)
  | [], _ => fun i j h1 h2 => by simp [insE] at h2; omega
  | y :: l, h => by
    obtain ⟨h1, h2⟩ := ascE_tail h
    unfold insE
    split
    · rename_i c
      refine ascE_cons h fun z hz => ?_
      rcases List.mem_cons.1 hz with rfl | hz
      · exact c
      · exact ltE_trans c (h2 z hz)
    · split
      · exact h
      · rename_i c d
        refine ascE_cons (insE_asc x l h1) fun z hz => ?_
        rcases (insE_mem x l z).1 hz with rfl | hz
        · rcases ltE_tri z y with e | e | e
          · exact absurd e c
          · exact absurd e d
          · exact e
        · exact h2 z hz
/-- The entries of the places below n, in order. -/
def ordM (n : Nat) (M : Mp) : List En := ((List.range n).filterMap fun p => (M p).map fun k => (k, p)).foldr insE []
theorem foldr_mem : ∀ (l : List En) (z : En), z ∈ l.foldr insE [] ↔ z ∈ l
  | [], z => Iff.rfl
  | x :: l, z => by rw [List.foldr_cons, insE_mem, foldr_mem l z, List.mem_cons]
theorem foldr_asc : ∀ l : List En, AscE (l.foldr insE [])
  | [] => fun i j _ h => absurd h (by simp)
  | x :: l => insE_asc x _ (foldr_asc l)
theorem ordM_asc (n : Nat) (M : Mp) : AscE (ordM n M) := foldr_asc _
theorem ordM_mem (n : Nat) (M : Mp) (k : Ky) (p : Nat) : (k, p) ∈ ordM n M ↔ p < n ∧ M p = some k := by
  unfold ordM
  rw [foldr_mem, List.mem_filterMap]
  constructor
  · rintro ⟨q, hq, e⟩
    rw [List.mem_range] at hq
    cases hm : M q with
    | none => rw [hm] at e; cases e
    | some j => rw [hm] at e; simp at e; obtain ⟨rfl, rfl⟩ := e; exact ⟨hq, hm⟩
  · rintro ⟨h1, h2⟩
    exact ⟨p, List.mem_range.2 h1, by rw [h2]; rfl⟩
theorem ordM_is {n : Nat} {t l : List En} {ix : Nat → Int} {M : Mp} (h : Has t M) (ha : Agr n t ix) (h1 : AscE l) (h2 : ∀ x, x ∈ l ↔ x ∈ t) : l = ordM n M :=
  ascE_unique _ _ h1 (ordM_asc n M) fun ⟨k, p⟩ => by
    rw [h2, ordM_mem, ← h p k]
    constructor
    · intro e
      refine ⟨?_, e⟩
      by_cases c : p < n
      · exact c
      · rw [h.off ha (by omega)] at e; cases e
    · exact fun e => e.2
theorem ordM_congr {n : Nat} {M N : Mp} (h : ∀ p, p < n → M p = N p) : ordM n M = ordM n N :=
  ascE_unique _ _ (ordM_asc n M) (ordM_asc n N) fun ⟨k, p⟩ => by
    rw [ordM_mem, ordM_mem]
    constructor
    · rintro ⟨a, b⟩; exact ⟨a, (h p a) ▸ b⟩
    · rintro ⟨a, b⟩; exact ⟨a, (h p a).symm ▸ b⟩
theorem nodup_len : ∀ (l m : List En), (∀ i j, i < j → j < l.length → en l i ≠ en l j) → (∀ i j, i < j → j < m.length → en m i ≠ en m j) → (∀ x, x ∈ l ↔ x ∈ m) → l.length = m.length := by
  intro l m h1 h2 h
  have nd : ∀ l : List En, (∀ i j, i < j → j < l.length → en l i ≠ en l j) → l.Nodup := fun l hl => by
    unfold List.Nodup
    rw [List.pairwise_iff_getElem]
    intro i j hi hj hij
    have := hl i j hij hj
    unfold en at this
    rw [List.getD_eq_getElem?_getD, List.getD_eq_getElem?_getD, List.getElem?_eq_getElem hi, List.getElem?_eq_getElem hj] at this
    exact this
  exact (List.perm_ext_iff_of_nodup (nd l h1) (nd m h2)).2 h |>.length_eq
theorem ordM_len {n : Nat} {t : List En} {ix : Nat → Int} {M : Mp} (h : Has t M) (ha : Agr n t ix) : (ordM n M).length = t.length :=
  nodup_len _ _ (fun i j h1 h2 e => by have := ordM_asc n M i j h1 h2; rw [e] at this; exact ltE_irrefl _ this) (fun i j h1 h2 e => by have := ha.inj (show i < t.length by omega) h2 (by rw [e]); omega) fun ⟨k, p⟩ => by
    rw [ordM_mem, h p k]
    constructor
    · exact fun e => e.2
    · intro e
      obtain ⟨i, i1, i2⟩ := mem_en e
      have := (ha.1 i i1).1
      rw [i2] at this
      exact ⟨this, e⟩
end Go.Proofs.YtecbpohkbniadaaGreat
