/-
  PLAIN FACTS on lists of keys that increase: such a list is told by what it holds. No program is named here.
-/
import Derived.Test.YtapaccbffhcjdaaDoorKeyPlain
import Derived.Lib.SlicesCompact
import Derived.Sort.Statements
namespace Go.Proofs.YtapaccbffhcjdaaDoor
open Go.RowKit Go.Lib

/-- A comparison as it should be. -/
structure Good {α : Type} (f : α → α → Int) : Prop where
  anti : ∀ a b, f a b = - f b a
  eq : ∀ a b, f a b = 0 → a = b
  tr : ∀ a b c, f a b ≤ 0 → f b c ≤ 0 → f a c ≤ 0
theorem Good.refl {α : Type} {f : α → α → Int} (h : Good f) (a : α) : f a a = 0 := by have := h.anti a a; omega
theorem Good.lt_le {α : Type} {f : α → α → Int} (h : Good f) {a b c : α} (h1 : f a b < 0) (h2 : f b c ≤ 0) : f a c < 0 := by
  have h3 := h.tr a b c (by omega) h2
  by_cases h0 : f a c = 0
  · have := h.eq a c h0
    subst this
    have := h.anti a b
    omega
  · omega
theorem Good.le_lt {α : Type} {f : α → α → Int} (h : Good f) {a b c : α} (h1 : f a b ≤ 0) (h2 : f b c < 0) : f a c < 0 := by
  have h3 := h.tr a b c h1 (by omega)
  by_cases h0 : f a c = 0
  · have := h.eq a c h0
    subst this
    have := h.anti a b
    omega
  · omega

theorem cfK_good : Good cfK where
  anti a b := by rw [cfK_anti b a]
  eq a b h := cfK_zero.1 h
  tr a b c h1 h2 := by
    have h1 : ¬ LessK b a := fun h => by have := cfK_pos.2 h; omega
    have h2 : ¬ LessK c b := fun h => by have := cfK_pos.2 h; omega
    have h3 : ¬ LessK c a := by unfold LessK at *; omega
    by_cases h : 0 < cfK a c
    · exact absurd (cfK_pos.1 h) h3
    · omega
section
variable {g : Ky → Ky → Int}
def Asc (g : Ky → Ky → Int) (l : List Ky) : Prop := l.Pairwise fun a b => g a b < 0
theorem asc_unique (hg : Good g) : ∀ l m : List Ky, Asc g l → Asc g m → (∀ x, x ∈ l ↔ x ∈ m) → l = m
  | [], [], _, _, _ => rfl
  | [], b :: m, _, _, h => by have := (h b).2 (by simp); simp at this
  | a :: l, [], _, _, h => by have := (h a).1 (by simp); simp at this
  | a :: l, b :: m, hl, hm, h => by
    obtain ⟨hl1, hl2⟩ := List.pairwise_cons.1 hl
    obtain ⟨hm1, hm2⟩ := List.pairwise_cons.1 hm
    have hab : a = b := by
      rcases List.mem_cons.1 ((h a).1 (by simp)) with e | ha
      · exact e
      · rcases List.mem_cons.1 ((h b).2 (by simp)) with e | hb
        · exact e.symm
        · have h1 := hl1 b hb
          have h2 := hm1 a ha
          have := hg.anti a b
          omega
    subst hab
    have hr := hg.refl a
    have := asc_unique hg l m hl2 hm2 (fun x => by
      constructor
      · intro hx
        rcases List.mem_cons.1 ((h x).1 (by simp [hx])) with e | hx'
        · subst e; have := hl1 _ hx; omega
        · exact hx'
      · intro hx
        rcases List.mem_cons.1 ((h x).2 (by simp [hx])) with e | hx'
        · subst e; have := hm1 _ hx; omega
        · exact hx')
    rw [this]
/-- A key put into a set. -/
def insG (g : Ky → Ky → Int) (x : Ky) : List Ky → List Ky
  | [] => [x]
  | y :: ys => if g x y < 0 then x :: y :: ys else if g x y = 0 then y :: ys else y :: insG g x ys
theorem ins_mem (hg : Good g) (x : Ky) : ∀ (l : List Ky) (z : Ky), z ∈ insG g x l ↔ z = x ∨ z ∈ l
  | [], z => by simp [insG]
  | y :: ys, z => by
    unfold insG
    split
    · simp
    · split
      · rename_i h0
        have := hg.eq x y h0
        subst this
        simp
      · rw [List.mem_cons, ins_mem hg x ys z, List.mem_cons]
        constructor <;> (rintro (h | h | h) <;> simp [h])
theorem ins_asc (hg : Good g) (x : Ky) : ∀ l : List Ky, Asc g l → Asc g (insG g x l)
  | [], _ => by simp [insG, Asc]
  | y :: ys, h => by
    obtain ⟨h1, h2⟩ := List.pairwise_cons.1 h
    unfold insG
    split
    · rename_i hlt
      refine List.pairwise_cons.2 ⟨fun z hz => ?_, h⟩
      rcases List.mem_cons.1 hz with e | hz
      · subst e; exact hlt
      · exact hg.lt_le hlt (by have := h1 z hz; omega)
    · split
      · exact h
      · rename_i hlt h0
        refine List.pairwise_cons.2 ⟨fun z hz => ?_, ins_asc hg x ys h2⟩
        rcases (ins_mem hg x ys z).1 hz with e | hz
        · subst e; have := hg.anti z y; omega
        · exact h1 z hz
/-- The set of what a list holds. -/
def setK (g : Ky → Ky → Int) (l : List Ky) : List Ky := l.foldr (insG g) []
theorem setK_mem (hg : Good g) : ∀ (l : List Ky) (z : Ky), z ∈ setK g l ↔ z ∈ l
  | [], z => by simp [setK]
  | x :: l, z => by
    show z ∈ insG g x (setK g l) ↔ _
    rw [ins_mem hg, setK_mem hg l z, List.mem_cons]
theorem setK_asc (hg : Good g) : ∀ l : List Ky, Asc g (setK g l)
  | [] => by simp [setK, Asc]
  | x :: l => ins_asc hg x _ (setK_asc hg l)
theorem setK_is (hg : Good g) {l m : List Ky} (h1 : Asc g m) (h2 : ∀ x, x ∈ m ↔ x ∈ l) : m = setK g l :=
  asc_unique hg m _ h1 (setK_asc hg l) (fun x => (h2 x).trans (setK_mem hg l x).symm)
/-- What Compact leaves of a sorted list. -/
theorem compact_asc (hg : Good g) (d : Array Ky) (hs : ∀ i j, i < j → j < d.size → g d[i]! d[j]! ≤ 0) : ∀ m, m ≤ d.size → Asc g (compactUpTo d m) ∧ ∀ x, x ∈ compactUpTo d m ↔ ∃ i, i < m ∧ x = d[i]!
  | 0, _ => by simp [compactUpTo, Asc]
  | m + 1, hm => by
    obtain ⟨ih1, ih2⟩ := compact_asc hg d hs m (by omega)
    rw [compactUpTo_succ]
    cases hk : keeps d m with
    | true =>
      rw [if_pos rfl]
      have hlt : ∀ i, i < m → g d[i]! d[m]! < 0 := by
        intro i hi
        have hne : d[m]! ≠ d[m - 1]! := by
          unfold keeps at hk
          have := of_decide_eq_true hk
          rcases this with h | h
          · omega
          · exact h
        have h1 := hs (m - 1) m (by omega) (by omega)
        have h2 : g d[m - 1]! d[m]! < 0 := by
          by_cases h0 : g d[m - 1]! d[m]! = 0
          · exact absurd (hg.eq _ _ h0).symm hne
          · omega
        by_cases hi2 : i = m - 1
        · subst hi2; exact h2
        · exact hg.le_lt (hs i (m - 1) (by omega) (by omega)) h2
      refine ⟨List.pairwise_append.2 ⟨ih1, by simp, ?_⟩, fun x => ?_⟩
      · intro a ha b hb
        rw [List.mem_singleton.1 hb]
        obtain ⟨i, hi, rfl⟩ := (ih2 a).1 ha
        exact hlt i hi
      · rw [List.mem_append, ih2, List.mem_singleton]
        constructor
        · rintro (⟨i, hi, rfl⟩ | rfl)
          · exact ⟨i, by omega, rfl⟩
          · exact ⟨m, by omega, rfl⟩
        · rintro ⟨i, hi, rfl⟩
          by_cases e : i = m
          · subst e; exact .inr rfl
          · exact .inl ⟨i, by omega, rfl⟩
    | false =>
      rw [if_neg (by decide), List.append_nil]
      refine ⟨ih1, fun x => ?_⟩
      rw [ih2]
      have hne : m ≠ 0 ∧ d[m]! = d[m - 1]! := by
        unfold keeps at hk
        have := of_decide_eq_false hk
        simp only [not_or, Classical.not_not] at this
        exact ⟨this.1, by simpa using this.2⟩
      constructor
      · rintro ⟨i, hi, rfl⟩; exact ⟨i, by omega, rfl⟩
      · rintro ⟨i, hi, rfl⟩
        by_cases e : i = m
        · subst e; exact ⟨i - 1, by omega, hne.2⟩
        · exact ⟨i, by omega, rfl⟩
theorem compact_is (hg : Good g) {zs l : List Ky} (hs : ∀ i j, i < j → j < zs.length → g (zs.toArray[i]!) (zs.toArray[j]!) ≤ 0) (hm : ∀ x, x ∈ zs ↔ x ∈ l) : Lib.compact zs = setK g l := by
  have h := compact_asc hg zs.toArray hs zs.length (by simp)
  refine setK_is hg h.1 (fun x => ?_)
  unfold Lib.compact
  rw [h.2, ← hm]
  constructor
  · rintro ⟨i, hi, rfl⟩
    have : zs.toArray[i]! = zs[i] := by simp [hi]
    rw [this]; exact List.getElem_mem hi
  · intro hx
    obtain ⟨i, hi, rfl⟩ := List.getElem_of_mem hx
    exact ⟨i, hi, by simp [hi]⟩
end
end Go.Proofs.YtapaccbffhcjdaaDoor
