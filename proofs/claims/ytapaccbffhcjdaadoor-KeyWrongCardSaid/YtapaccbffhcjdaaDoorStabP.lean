/-
  PLAIN FACTS about merging in place: two sorted pieces that lie side by side, and what binary searches, rotations and two lesser merges make of them. No program is named here.
-/
import Derived.WalkKit
namespace Go.Proofs.YtapaccbffhcjdaaDoor.St
variable {α : Type}

/-- THE ORDER: lx, and what the comparison says of a later one and an earlier one. -/
structure Ord (C lx : α → α → Prop) : Prop where
  irr : ∀ x, ¬ lx x x
  tr : ∀ x y z, lx x y → lx y z → lx x z
def Srt (lx : α → α → Prop) (f : Nat → α) (a b : Nat) : Prop := ∀ i j, a ≤ i → i < j → j < b → lx (f i) (f j)
def Xc (C lx : α → α → Prop) (f : Nat → α) (a m b : Nat) : Prop := ∀ i j, a ≤ i → i < m → m ≤ j → j < b → (C (f j) (f i) ∧ lx (f j) (f i)) ∨ (¬ C (f j) (f i) ∧ lx (f i) (f j))
/-- What is in g between a and b was in f there; all else is as it was. -/
def Inc (f g : Nat → α) (a b : Nat) : Prop := (∀ p, a ≤ p → p < b → ∃ q, a ≤ q ∧ q < b ∧ g p = f q) ∧ ∀ p, (p < a ∨ b ≤ p) → g p = f p
theorem Inc.refl (f : Nat → α) (a b : Nat) : Inc f f a b := ⟨fun p h k => ⟨p, h, k, rfl⟩, fun _ _ => rfl⟩
theorem Inc.trans {f g h : Nat → α} {a b : Nat} (k : Inc f g a b) (l : Inc g h a b) : Inc f h a b := by
  refine ⟨fun p h1 h2 => ?_, fun p hp => (l.2 p hp).trans (k.2 p hp)⟩
  obtain ⟨q, q1, q2, e⟩ := l.1 p h1 h2
  obtain ⟨r, r1, r2, e2⟩ := k.1 q q1 q2
  exact ⟨r, r1, r2, e.trans e2⟩
theorem Inc.mono {f g : Nat → α} {a b c d : Nat} (k : Inc f g a b) (h1 : c ≤ a) (h2 : b ≤ d) : Inc f g c d := by
  refine ⟨fun p h3 h4 => ?_, fun p hp => k.2 p (by omega)⟩
  by_cases h : a ≤ p ∧ p < b
  · obtain ⟨q, q1, q2, e⟩ := k.1 p h.1 h.2
    exact ⟨q, by omega, by omega, e⟩
  · exact ⟨p, h3, h4, k.2 p (by omega)⟩
theorem Srt.sub {lx : α → α → Prop} {f : Nat → α} {a b c d : Nat} (h : Srt lx f a b) (h1 : a ≤ c) (h2 : d ≤ b) : Srt lx f c d := fun i j x y z => h i j (by omega) y (by omega)
theorem Srt.congr {lx : α → α → Prop} {f g : Nat → α} {a b : Nat} (h : Srt lx f a b) (e : ∀ p, a ≤ p → p < b → g p = f p) : Srt lx g a b := fun i j x y z => by
  rw [e i x (by omega), e j (by omega) z]; exact h i j x y z
/-- f with the first element put behind those between a and i. -/
def ins1 (f : Nat → α) (a i : Nat) : Nat → α := fun p => if a ≤ p ∧ p + 1 < i then f (p + 1) else if p + 1 = i ∧ a ≤ p then f a else f p
/-- f with the element at m put ahead of those between i and m. -/
def ins2 (f : Nat → α) (i m : Nat) : Nat → α := fun p => if i < p ∧ p ≤ m then f (p - 1) else if p = i ∧ i ≤ m then f m else f p
/-- f with what lies between a and m put behind what lies between m and b. -/
def rot (f : Nat → α) (a m b : Nat) : Nat → α := fun p => if a ≤ p ∧ p < a + (b - m) then f (p + (m - a)) else if a + (b - m) ≤ p ∧ p < b then f (p - (b - m)) else f p

theorem one_left {C lx : α → α → Prop} {f : Nat → α} {a b i : Nat} (hb : a + 1 < b) (s2 : Srt lx f (a + 1) b) (x : Xc C lx f a (a + 1) b) (h1 : a + 1 ≤ i) (h2 : i ≤ b)
    (k1 : ∀ h, a + 1 ≤ h → h < i → C (f h) (f a)) (k2 : ∀ h, i ≤ h → h < b → ¬ C (f h) (f a)) : Srt lx (ins1 f a i) a b ∧ Inc f (ins1 f a i) a b := by
  have l1 : ∀ h, a + 1 ≤ h → h < i → lx (f h) (f a) := fun h p q => by
    rcases x a h (Nat.le_refl _) (by omega) p (by omega) with ⟨_, e⟩ | ⟨e, _⟩
    · exact e
    · exact absurd (k1 h p q) e
  have l2 : ∀ h, i ≤ h → h < b → lx (f a) (f h) := fun h p q => by
    rcases x a h (Nat.le_refl _) (by omega) (by omega) q with ⟨e, _⟩ | ⟨_, e⟩
    · exact absurd e (k2 h p q)
    · exact e
  refine ⟨fun p q hp hpq hq => ?_, fun p hp hq => ?_, fun p hp => ?_⟩
  · unfold ins1
    by_cases c1 : a ≤ p ∧ p + 1 < i
    · rw [if_pos c1]
      by_cases c2 : a ≤ q ∧ q + 1 < i
      · rw [if_pos c2]; exact s2 _ _ (by omega) (by omega) (by omega)
      · rw [if_neg c2]
        by_cases c3 : q + 1 = i ∧ a ≤ q
        · rw [if_pos c3]; exact l1 _ (by omega) (by omega)
        · rw [if_neg c3]; exact s2 _ _ (by omega) (by omega) hq
    · rw [if_neg c1]
      have c2 : ¬ (a ≤ q ∧ q + 1 < i) := by omega
      have c3 : ¬ (q + 1 = i ∧ a ≤ q) := by omega
      rw [if_neg c2, if_neg c3]
      by_cases c4 : p + 1 = i ∧ a ≤ p
      · rw [if_pos c4]; exact l2 _ (by omega) hq
      · rw [if_neg c4]; exact s2 _ _ (by omega) (by omega) hq
  · unfold ins1
    by_cases c1 : a ≤ p ∧ p + 1 < i
    · rw [if_pos c1]; exact ⟨p + 1, by omega, by omega, rfl⟩
    · rw [if_neg c1]
      by_cases c2 : p + 1 = i ∧ a ≤ p
      · rw [if_pos c2]; exact ⟨a, by omega, by omega, rfl⟩
      · rw [if_neg c2]; exact ⟨p, hp, hq, rfl⟩
  · unfold ins1
    rw [if_neg (by omega), if_neg (by omega)]
theorem one_right {C lx : α → α → Prop} {f : Nat → α} {a m i : Nat} (hb : a < m) (s1 : Srt lx f a m) (x : Xc C lx f a m (m + 1)) (h1 : a ≤ i) (h2 : i ≤ m)
    (k1 : ∀ h, a ≤ h → h < i → ¬ C (f m) (f h)) (k2 : ∀ h, i ≤ h → h < m → C (f m) (f h)) : Srt lx (ins2 f i m) a (m + 1) ∧ Inc f (ins2 f i m) a (m + 1) := by
  have l1 : ∀ h, a ≤ h → h < i → lx (f h) (f m) := fun h p q => by
    rcases x h m p (by omega) (Nat.le_refl _) (by omega) with ⟨e, _⟩ | ⟨_, e⟩
    · exact absurd e (k1 h p q)
    · exact e
  have l2 : ∀ h, i ≤ h → h < m → lx (f m) (f h) := fun h p q => by
    rcases x h m (by omega) q (Nat.le_refl _) (by omega) with ⟨_, e⟩ | ⟨e, _⟩
    · exact e
    · exact absurd (k2 h p q) e
  refine ⟨fun p q hp hpq hq => ?_, fun p hp hq => ?_, fun p hp => ?_⟩
  · unfold ins2
    by_cases c1 : i < q ∧ q ≤ m
    · rw [if_pos c1]
      by_cases c2 : i < p ∧ p ≤ m
      · rw [if_pos c2]; exact s1 _ _ (by omega) (by omega) (by omega)
      · rw [if_neg c2]
        by_cases c3 : p = i ∧ i ≤ m
        · rw [if_pos c3]; exact l2 _ (by omega) (by omega)
        · rw [if_neg c3]; exact s1 _ _ (by omega) (by omega) (by omega)
    · have c0 : q ≤ i := by omega
      rw [if_neg c1]
      have c2 : ¬ (i < p ∧ p ≤ m) := by omega
      have c3 : ¬ (p = i ∧ i ≤ m) := by omega
      rw [if_neg c2, if_neg c3]
      by_cases c4 : q = i ∧ i ≤ m
      · rw [if_pos c4]; exact l1 _ (by omega) (by omega)
      · rw [if_neg c4]; exact s1 _ _ (by omega) (by omega) (by omega)
  · unfold ins2
    by_cases c1 : i < p ∧ p ≤ m
    · rw [if_pos c1]; exact ⟨p - 1, by omega, by omega, rfl⟩
    · rw [if_neg c1]
      by_cases c2 : p = i ∧ i ≤ m
      · rw [if_pos c2]; exact ⟨m, by omega, by omega, rfl⟩
      · rw [if_neg c2]; exact ⟨p, hp, hq, rfl⟩
  · unfold ins2
    rw [if_neg (by omega), if_neg (by omega)]
/-- A test of the three binary searches is met by all before one that meets it. -/
theorem mono_left {C lx : α → α → Prop} (O : Ord C lx) {f : Nat → α} {a b h k : Nat} (s2 : Srt lx f (a + 1) b) (x : Xc C lx f a (a + 1) b) (h1 : a + 1 ≤ k) (h2 : k < h) (h3 : h < b) (c : C (f h) (f a)) : C (f k) (f a) := by
  rcases x a h (Nat.le_refl _) (by omega) (by omega) h3 with ⟨_, e⟩ | ⟨e, _⟩
  · rcases x a k (Nat.le_refl _) (by omega) h1 (by omega) with ⟨e2, _⟩ | ⟨_, e2⟩
    · exact e2
    · exact absurd (O.tr _ _ _ e2 (O.tr _ _ _ (s2 k h h1 h2 h3) e)) (O.irr _)
  · exact absurd c e
theorem mono_right {C lx : α → α → Prop} (O : Ord C lx) {f : Nat → α} {a m h k : Nat} (s1 : Srt lx f a m) (x : Xc C lx f a m (m + 1)) (h1 : a ≤ k) (h2 : k < h) (h3 : h < m) (c : ¬ C (f m) (f h)) : ¬ C (f m) (f k) := by
  rcases x h m (by omega) h3 (Nat.le_refl _) (by omega) with ⟨e, _⟩ | ⟨_, e⟩
  · exact absurd e c
  · rcases x k m h1 (by omega) (Nat.le_refl _) (by omega) with ⟨_, e2⟩ | ⟨e2, _⟩
    · exact absurd (O.tr _ _ _ e2 (O.tr _ _ _ (s1 k h h1 h2 h3) e)) (O.irr _)
    · exact e2
theorem mono_mid {C lx : α → α → Prop} (O : Ord C lx) {f : Nat → α} {a m b p h k : Nat} (s1 : Srt lx f a m) (s2 : Srt lx f m b) (x : Xc C lx f a m b) (h1 : a ≤ k) (h2 : k < h) (h3 : h < m) (h4 : m + h ≤ p) (h5 : p < b + k) (c : ¬ C (f (p - h)) (f h)) : ¬ C (f (p - k)) (f k) := by
  rcases x h (p - h) (by omega) h3 (by omega) (by omega) with ⟨e, _⟩ | ⟨_, e⟩
  · exact absurd e c
  · rcases x k (p - k) h1 (by omega) (by omega) (by omega) with ⟨_, e2⟩ | ⟨e2, _⟩
    · exact absurd (O.tr _ _ _ e2 (O.tr _ _ _ (s1 k h h1 h2 h3) (O.tr _ _ _ e (s2 (p - h) (p - k) (by omega) (by omega) (by omega))))) (O.irr _)
    · exact e2
/-- WHERE THE PIECES ARE CUT: everything that comes into the first half is less than everything that comes into the second one. -/
structure Cut (C lx : α → α → Prop) (f : Nat → α) (a m b mid s : Nat) : Prop where
  am : a < m
  mb : m < b
  hmid : mid = (a + b) / 2
  lo : (if mid < m then mid + m - b else a) ≤ s
  hi : s ≤ if mid < m then mid else m
  yes : ∀ h, (if mid < m then mid + m - b else a) ≤ h → h < s → ¬ C (f (mid + m - 1 - h)) (f h)
  no : ∀ h, s ≤ h → h < (if mid < m then mid else m) → C (f (mid + m - 1 - h)) (f h)
theorem Cut.bounds {C lx : α → α → Prop} {f : Nat → α} {a m b mid s : Nat} (c : Cut C lx f a m b mid s) : a ≤ s ∧ s ≤ m ∧ s ≤ mid ∧ m ≤ mid + m - s ∧ mid + m - s ≤ b ∧ mid ≤ mid + m - s ∧ a ≤ mid ∧ mid ≤ b := by
  obtain ⟨h1, h2, h3, h4, h5, _, _⟩ := c
  by_cases h : mid < m
  · rw [if_pos h] at h4 h5; omega
  · rw [if_neg h] at h4 h5; omega
theorem Cut.split {C lx : α → α → Prop} (O : Ord C lx) {f : Nat → α} {a m b mid s : Nat} (c : Cut C lx f a m b mid s) (s1 : Srt lx f a m) (s2 : Srt lx f m b) (x : Xc C lx f a m b) :
    (∀ i j, a ≤ i → i < s → mid + m - s ≤ j → j < b → lx (f i) (f j)) ∧ (∀ i j, s ≤ i → i < m → m ≤ j → j < mid + m - s → lx (f j) (f i)) := by
  obtain ⟨h1, h2, h3, h4, h5, yes, no⟩ := c
  constructor
  · intro i j hi his hj hjb
    have hlo : (if mid < m then mid + m - b else a) ≤ s - 1 := by
      by_cases h : mid < m
      · rw [if_pos h] at h4 ⊢; omega
      · rw [if_neg h] at h4 ⊢; omega
    have hs : s ≤ m ∧ s ≤ mid := by
      by_cases h : mid < m
      · rw [if_pos h] at h5; omega
      · rw [if_neg h] at h5; omega
    have e := yes (s - 1) hlo (by omega)
    rw [show mid + m - 1 - (s - 1) = mid + m - s by omega] at e
    have l : lx (f (s - 1)) (f (mid + m - s)) := by
      rcases x (s - 1) (mid + m - s) (by omega) (by omega) (by omega) (by omega) with ⟨e2, _⟩ | ⟨_, e2⟩
      · exact absurd e2 e
      · exact e2
    have l1 : lx (f i) (f (mid + m - s)) := by
      by_cases h : i = s - 1
      · rw [h]; exact l
      · exact O.tr _ _ _ (s1 i (s - 1) hi (by omega) (by omega)) l
    by_cases h : j = mid + m - s
    · rw [h]; exact l1
    · exact O.tr _ _ _ l1 (s2 _ _ (by omega) (by omega) hjb)
  · intro i j hi him hj hje
    have hhi : s < (if mid < m then mid else m) := by
      by_cases h : mid < m
      · rw [if_pos h] at h5 ⊢; omega
      · rw [if_neg h] at h5 ⊢; omega
    have ha : a ≤ s := by
      by_cases h : mid < m
      · rw [if_pos h] at h4; omega
      · rw [if_neg h] at h4; omega
    have hb : mid + m - s ≤ b := by
      by_cases h : mid < m
      · rw [if_pos h] at h4; omega
      · rw [if_neg h] at h4; omega
    have e := no s (Nat.le_refl _) hhi
    have l : lx (f (mid + m - 1 - s)) (f s) := by
      rcases x s (mid + m - 1 - s) ha (by omega) (by omega) (by omega) with ⟨_, e2⟩ | ⟨e2, _⟩
      · exact e2
      · exact absurd e e2
    have l1 : lx (f j) (f s) := by
      by_cases h : j = mid + m - 1 - s
      · rw [h]; exact l
      · exact O.tr _ _ _ (s2 j _ hj (by omega) (by omega)) l
    by_cases h : i = s
    · rw [h]; exact l1
    · exact O.tr _ _ _ l1 (s1 _ _ ha (by omega) him)
/-- What the rotation makes: two pairs of sorted pieces, and all of the first pair less than all of the second. -/
theorem Cut.rotated {C lx : α → α → Prop} (O : Ord C lx) {f : Nat → α} {a m b mid s : Nat} (c : Cut C lx f a m b mid s) (s1 : Srt lx f a m) (s2 : Srt lx f m b) (x : Xc C lx f a m b) :
    let g := rot f s m (mid + m - s)
    Srt lx g a s ∧ Srt lx g s mid ∧ Srt lx g mid (mid + m - s) ∧ Srt lx g (mid + m - s) b ∧ Xc C lx g a s mid ∧ Xc C lx g mid (mid + m - s) b ∧ (∀ i j, a ≤ i → i < mid → mid ≤ j → j < b → lx (g i) (g j)) ∧ Inc f g a b := by
  obtain ⟨b1, b2, b3, b4, b5, b6, b7, b8⟩ := c.bounds
  obtain ⟨l1, l2⟩ := c.split O s1 s2 x
  have g1 : ∀ p, p < s → rot f s m (mid + m - s) p = f p := fun p h => by unfold rot; rw [if_neg (by omega), if_neg (by omega)]
  have g2 : ∀ p, s ≤ p → p < mid → rot f s m (mid + m - s) p = f (p + (m - s)) := fun p h k => by unfold rot; rw [if_pos (by omega)]
  have g3 : ∀ p, mid ≤ p → p < mid + m - s → rot f s m (mid + m - s) p = f (p - (mid - s)) := fun p h k => by
    unfold rot; rw [if_neg (by omega), if_pos (by omega), show mid + m - s - m = mid - s by omega]
  have g4 : ∀ p, mid + m - s ≤ p → rot f s m (mid + m - s) p = f p := fun p h => by unfold rot; rw [if_neg (by omega), if_neg (by omega)]
  intro g
  have hg : g = rot f s m (mid + m - s) := rfl
  rw [← hg] at g1 g2 g3 g4
  clear hg
  refine ⟨?_, ?_, ?_, ?_, ?_, ?_, ?_, ?_, ?_⟩
  · intro i j h1 h2 h3; rw [g1 i (by omega), g1 j h3]; exact s1 i j h1 h2 (by omega)
  · intro i j h1 h2 h3; rw [g2 i h1 (by omega), g2 j (by omega) h3]; exact s2 _ _ (by omega) (by omega) (by omega)
  · intro i j h1 h2 h3; rw [g3 i h1 (by omega), g3 j (by omega) h3]; exact s1 _ _ (by omega) (by omega) (by omega)
  · intro i j h1 h2 h3; rw [g4 i h1, g4 j (by omega)]; exact s2 i j (by omega) h2 h3
  · intro i j h1 h2 h3 h4; rw [g1 i h2, g2 j h3 h4]; exact x _ _ h1 (by omega) (by omega) (by omega)
  · intro i j h1 h2 h3 h4; rw [g3 i h1 h2, g4 j h3]; exact x _ _ (by omega) (by omega) (by omega) h4
  · intro i j h1 h2 h3 h4
    by_cases c1 : i < s
    · rw [g1 i c1]
      by_cases c2 : j < mid + m - s
      · rw [g3 j h3 c2]; exact s1 _ _ h1 (by omega) (by omega)
      · rw [g4 j (by omega)]; exact l1 _ _ h1 c1 (by omega) h4
    · rw [g2 i (by omega) h2]
      by_cases c2 : j < mid + m - s
      · rw [g3 j h3 c2]; exact l2 _ _ (by omega) (by omega) (by omega) (by omega)
      · rw [g4 j (by omega)]; exact s2 _ _ (by omega) (by omega) h4
  · intro p h1 h2
    by_cases c1 : p < s
    · rw [g1 p c1]; exact ⟨p, h1, h2, rfl⟩
    · by_cases c2 : p < mid
      · rw [g2 p (by omega) c2]; exact ⟨_, by omega, by omega, rfl⟩
      · by_cases c3 : p < mid + m - s
        · rw [g3 p (by omega) c3]; exact ⟨_, by omega, by omega, rfl⟩
        · rw [g4 p (by omega)]; exact ⟨p, h1, h2, rfl⟩
  · intro p hp
    by_cases c1 : p < s
    · exact g1 p c1
    · exact g4 p (by omega)
/-- Two halves that are sorted each, made of halves of which all of the first is less than all of the second, are sorted. -/
theorem halves {lx : α → α → Prop} {g k : Nat → α} {a mid b : Nat} (s1 : Srt lx k a mid) (s2 : Srt lx k mid b) (i1 : ∀ p, a ≤ p → p < mid → ∃ q, a ≤ q ∧ q < mid ∧ k p = g q) (i2 : ∀ p, mid ≤ p → p < b → ∃ q, mid ≤ q ∧ q < b ∧ k p = g q)
    (l : ∀ i j, a ≤ i → i < mid → mid ≤ j → j < b → lx (g i) (g j)) : Srt lx k a b := by
  intro i j h1 h2 h3
  by_cases c1 : j < mid
  · exact s1 i j h1 h2 c1
  · by_cases c2 : i < mid
    · obtain ⟨q, q1, q2, e⟩ := i1 i h1 c2
      obtain ⟨r, r1, r2, e2⟩ := i2 j (by omega) h3
      rw [e, e2]
      exact l q r q1 q2 r1 r2
    · exact s2 i j (by omega) h2 h3
end Go.Proofs.YtapaccbffhcjdaaDoor.St
