import Derived.WalkKit
import Derived.Below
import Derived.Handy
import Derived.Lib.Hide
section
/-
  PLAIN FACTS about merging in place: two sorted pieces that lie side by side, and what binary searches, rotations and two lesser merges make of them. No program is named here.
-/
namespace Go.Proofs.YtcjkeobjojmpfaaGreat.St
variable {α : Type}

/-- THE ORDER: lx, and what the comparison says of a later one and an earlier one. -/
structure Ord (C lx : α → α → Prop) : Prop where
  irr : ∀ x, ¬ lx x x
  tr : ∀ x y z, lx x y → lx y z → lx x z
def Srt (lx : α → α → Prop) (f : Nat → α) (a b : Nat) : Prop := ∀ i j, a ≤ i → i < j → j < b → lx (f i) (f j)
def Xc (C lx : α → α → Prop) (f : Nat → α) (a m b : Nat) : Prop := ∀ i j, a ≤ i → i < m → m ≤ j → j < b → (C (f j) (f i) ∧ lx (f j) (f i)) ∨ (¬ C (f j) (f i) ∧ lx (f i) (f j))
/-- What is in g between a and b was in f there; all else is as it was. -/
def Inc (f g : Nat → α) (a b : Nat) : Prop := (∀ p, a ≤ p → p < b → ∃ q, a ≤ q ∧ q < b ∧ g p = f q) ∧ ∀ p, (p < a ∨ b ≤ p) → g p = f p
theorem Inc.refl (f : Nat → α) (a b : Nat) : Inc f f a b := ⟨fun p h k => ⟨p, h, k, rfl⟩, fun _ _ => rfl⟩
theorem Inc.trans {f g h : Nat → α} {a b : Nat} (k : Inc f g a b) (l : Inc g h a b) : Inc f h a b := by
  refine ⟨fun p h1 h2 => ?_, fun p hp => (l.2 p hp).trans (k.2 p hp)⟩
  obtain ⟨q, q1, q2, e⟩ := l.1 p h1 h2
  obtain ⟨r, r1, r2, e2⟩ := k.1 q q1 q2
  exact ⟨r, r1, r2, e.trans e2⟩
theorem Inc.mono {f g : Nat → α} {a b c d : Nat} (k : Inc f g a b) (h1 : c ≤ a) (h2 : b ≤ d) : Inc f g c d := by
  refine ⟨fun p h3 h4 => ?_, fun p hp => k.2 p (by omega)⟩
  by_cases h : a ≤ p ∧ p < b
  · obtain ⟨q, q1, q2, e⟩ := k.1 p h.1 h.2
    exact ⟨q, by omega, by omega, e⟩
  · exact ⟨p, h3, h4, k.2 p (by omega)⟩
theorem Srt.sub {lx : α → α → Prop} {f : Nat → α} {a b c d : Nat} (h : Srt lx f a b) (h1 : a ≤ c) (h2 : d ≤ b) : Srt lx f c d := fun i j x y z => h i j (by omega) y (by omega)
theorem Srt.congr {lx : α → α → Prop} {f g : Nat → α} {a b : Nat} (h : Srt lx f a b) (e : ∀ p, a ≤ p → p < b → g p = f p) : Srt lx g a b := fun i j x y z => by
  rw [e i x (by omega), e j (by omega) z]; exact h i j x y z
/-- f with the first element put behind those between a and i. -/
def ins1 (f : Nat → α) (a i : Nat) : Nat → α := fun p => if a ≤ p ∧ p + 1 < i then f (p + 1) else if p + 1 = i ∧ a ≤ p then f a else f p
/-- f with the element at m put ahead of those between i and m. -/
def ins2 (f : Nat → α) (i m : Nat) : Nat → α := fun p => if i < p ∧ p ≤ m then f (p - 1) else if p = i ∧ i ≤ m then f m else f p
/-- f with what lies between a and m put behind what lies between m and b. -/
def rot (f : Nat → α) (a m b : Nat) : Nat → α := fun p => if a ≤ p ∧ p < a + (b - m) then f (p + (m - a)) else if a + (b - m) ≤ p ∧ p < b then f (p - (b - m)) else f p

theorem one_left {C lx : α → α → Prop} {f : Nat → α} {a b i : Nat} (hb : a + 1 < b) (s2 : Srt lx f (a + 1) b) (x : Xc C lx f a (a + 1) b) (h1 : a + 1 ≤ i) (h2 : i ≤ b)
    (k1 : ∀ h, a + 1 ≤ h → h < i → C (f h) (f a)) (k2 : ∀ h, i ≤ h → h < b → ¬ C (f h) (f a)) : Srt lx (ins1 f a i) a b ∧ Inc f (ins1 f a i) a b := by
  have l1 : ∀ h, a + 1 ≤ h → h < i → lx (f h) (f a) := fun h p q => by
    rcases x a h (Nat.le_refl _) (by omega) p (by omega) with ⟨_, e⟩ | ⟨e, _⟩
    · exact e
    · exact absurd (k1 h p q) e
  have l2 : ∀ h, i ≤ h → h < b → lx (f a) (f h) := fun h p q => by
    rcases x a h (Nat.le_refl _) (by omega) (by omega) q with ⟨e, _⟩ | ⟨_, e⟩
    · exact absurd e (k2 h p q)
    · exact e
  refine ⟨fun p q hp hpq hq => ?_, fun p hp hq => ?_, fun p hp => ?_⟩
  · unfold ins1
    by_cases c1 : a ≤ p ∧ p + 1 < i
    · rw [if_pos c1]
      by_cases c2 : a ≤ q ∧ q + 1 < i
      · rw [if_pos c2]; exact s2 _ _ (by omega) (by omega) (by omega)
      · rw [if_neg c2]
        by_cases c3 : q + 1 = i ∧ a ≤ q
        · rw [if_pos c3]; exact l1 _ (by omega) (by omega)
        · rw [if_neg c3]; exact s2 _ _ (by omega) (by omega) hq
    · rw [if_neg c1]
      have c2 : ¬ (a ≤ q ∧ q + 1 < i) := by omega
      have c3 : ¬ (q + 1 = i ∧ a ≤ q) := by omega
      rw [if_neg c2, if_neg c3]
      by_cases c4 : p + 1 = i ∧ a ≤ p
      · rw [if_pos c4]; exact l2 _ (by omega) hq
      · rw [if_neg c4]; exact s2 _ _ (by omega) (by omega) hq
  · unfold ins1
    by_cases c1 : a ≤ p ∧ p + 1 < i
    · rw [if_pos c1]; exact ⟨p + 1, by omega, by omega, rfl⟩
    · rw [if_neg c1]
      by_cases c2 : p + 1 = i ∧ a ≤ p
      · rw [if_pos c2]; exact ⟨a, by omega, by omega, rfl⟩
      · rw [if_neg c2]; exact ⟨p, hp, hq, rfl⟩
  · unfold ins1
    rw [if_neg (by omega), if_neg (by omega)]
theorem one_right {C lx : α → α → Prop} {f : Nat → α} {a m i : Nat} (hb : a < m) (s1 : Srt lx f a m) (x : Xc C lx f a m (m + 1)) (h1 : a ≤ i) (h2 : i ≤ m)
    (k1 : ∀ h, a ≤ h → h < i → ¬ C (f m) (f h)) (k2 : ∀ h, i ≤ h → h < m → C (f m) (f h)) : Srt lx (ins2 f i m) a (m + 1) ∧ Inc f (ins2 f i m) a (m + 1) := by
  have l1 : ∀ h, a ≤ h → h < i → lx (f h) (f m) := fun h p q => by
    rcases x h m p (by omega) (Nat.le_refl _) (by omega) with ⟨e, _⟩ | ⟨_, e⟩
    · exact absurd e (k1 h p q)
    · exact e
  have l2 : ∀ h, i ≤ h → h < m → lx (f m) (f h) := fun h p q => by
    rcases x h m (by omega) q (Nat.le_refl _) (by omega) with ⟨_, e⟩ | ⟨e, _⟩
    · exact e
    · exact absurd (k2 h p q) e
  refine ⟨fun p q hp hpq hq => ?_, fun p hp hq => ?_, fun p hp => ?_⟩
  · unfold ins2
    by_cases c1 : i < q ∧ q ≤ m
    · rw [if_pos c1]
      by_cases c2 : i < p ∧ p ≤ m
      · rw [if_pos c2]; exact s1 _ _ (by omega) (by omega) (by omega)
      · rw [if_neg c2]
        by_cases c3 : p = i ∧ i ≤ m
        · rw [if_pos c3]; exact l2 _ (by omega) (by omega)
        · rw [if_neg c3]; exact s1 _ _ (by omega) (by omega) (by omega)
    · have c0 : q ≤ i := by omega
      rw [if_neg c1]
      have c2 : ¬ (i < p ∧ p ≤ m) := by omega
      have c3 : ¬ (p = i ∧ i ≤ m) := by omega
      rw [if_neg c2, if_neg c3]
      by_cases c4 : q = i ∧ i ≤ m
      · rw [if_pos c4]; exact l1 _ (by omega) (by omega)
      · rw [if_neg c4]; exact s1 _ _ (by omega) (by omega) (by omega)
  · unfold ins2
    by_cases c1 : i < p ∧ p ≤ m
    · rw [if_pos c1]; exact ⟨p - 1, by omega, by omega, rfl⟩
    · rw [if_neg c1]
      by_cases c2 : p = i ∧ i ≤ m
      · rw [if_pos c2]; exact ⟨m, by omega, by omega, rfl⟩
      · rw [if_neg c2]; exact ⟨p, hp, hq, rfl⟩
  · unfold ins2
    rw [if_neg (by omega), if_neg (by omega)]
/-- A test of the three binary searches is met by all before one that meets it. -/
theorem mono_left {C lx : α → α → Prop} (O : Ord C lx) {f : Nat → α} {a b h k : Nat} (s2 : Srt lx f (a + 1) b) (x : Xc C lx f a (a + 1) b) (h1 : a + 1 ≤ k) (h2 : k < h) (h3 : h < b) (c : C (f h) (f a)) : C (f k) (f a) := by
  rcases x a h (Nat.le_refl _) (by omega) (by omega) h3 with ⟨_, e⟩ | ⟨e, _⟩
  · rcases x a k (Nat.le_refl _) (by omega) h1 (by omega) with ⟨e2, _⟩ | ⟨_, e2⟩
    · exact e2
    · exact absurd (O.tr _ _ _ e2 (O.tr _ _ _ (s2 k h h1 h2 h3) e)) (O.irr _)
  · exact absurd c e
theorem mono_right {C lx : α → α → Prop} (O : Ord C lx) {f : Nat → α} {a m h k : Nat} (s1 : Srt lx f a m) (x : Xc C lx f a m (m + 1)) (h1 : a ≤ k) (h2 : k < h) (h3 : h < m) (c : ¬ C (f m) (f h)) : ¬ C (f m) (f k) := by
  rcases x h m (by omega) h3 (Nat.le_refl _) (by omega) with ⟨e, _⟩ | ⟨_, e⟩
  · exact absurd e c
  · rcases x k m h1 (by omega) (Nat.le_refl _) (by omega) with ⟨_, e2⟩ | ⟨e2, _⟩
    · exact absurd (O.tr _ _ _ e2 (O.tr _ _ _ (s1 k h h1 h2 h3) e)) (O.irr _)
    · exact e2
theorem mono_mid {C lx : α → α → Prop} (O : Ord C lx) {f : Nat → α} {a m b p h k : Nat} (s1 : Srt lx f a m) (s2 : Srt lx f m b) (x : Xc C lx f a m b) (h1 : a ≤ k) (h2 : k < h) (h3 : h < m) (h4 : m + h ≤ p) (h5 : p < b + k) (c : ¬ C (f (p - h)) (f h)) : ¬ C (f (p - k)) (f k) := by
  rcases x h (p - h) (by omega) h3 (by omega) (by omega) with ⟨e, _⟩ | ⟨_, e⟩
  · exact absurd e c
  · rcases x k (p - k) h1 (by omega) (by omega) (by omega) with ⟨_, e2⟩ | ⟨e2, _⟩
    · exact absurd (O.tr _ _ _ e2 (O.tr _ _ _ (s1 k h h1 h2 h3) (O.tr _ _ _ e (s2 (p - h) (p - k) (by omega) (by omega) (by omega))))) (O.irr _)
    · exact e2
/-- WHERE THE PIECES ARE CUT: everything that comes into the first half is less than everything that comes into the second one. -/
structure Cut (C lx : α → α → Prop) (f : Nat → α) (a m b mid s : Nat) : Prop where
  am : a < m
  mb : m < b
  hmid : mid = (a + b) / 2
  lo : (if mid < m then mid + m - b else a) ≤ s
  hi : s ≤ if mid < m then mid else m
  yes : ∀ h, (if mid < m then mid + m - b else a) ≤ h → h < s → ¬ C (f (mid + m - 1 - h)) (f h)
  no : ∀ h, s ≤ h → h < (if mid < m then mid else m) → C (f (mid + m - 1 - h)) (f h)
theorem Cut.bounds {C lx : α → α → Prop} {f : Nat → α} {a m b mid s : Nat} (c : Cut C lx f a m b mid s) : a ≤ s ∧ s ≤ m ∧ s ≤ mid ∧ m ≤ mid + m - s ∧ mid + m - s ≤ b ∧ mid ≤ mid + m - s ∧ a ≤ mid ∧ mid ≤ b := by
  obtain ⟨h1, h2, h3, h4, h5, _, _⟩ := c
  by_cases h : mid < m
  · rw [if_pos h] at h4 h5; omega
  · rw [if_neg h] at h4 h5; omega
theorem Cut.split {C lx : α → α → Prop} (O : Ord C lx) {f : Nat → α} {a m b mid s : Nat} (c : Cut C lx f a m b mid s) (s1 : Srt lx f a m) (s2 : Srt lx f m b) (x : Xc C lx f a m b) :
    (∀ i j, a ≤ i → i < s → mid + m - s ≤ j → j < b → lx (f i) (f j)) ∧ (∀ i j, s ≤ i → i < m → m ≤ j → j < mid + m - s → lx (f j) (f i)) := by
  obtain ⟨h1, h2, h3, h4, h5, yes, no⟩ := c
  constructor
  · intro i j hi his hj hjb
    have hlo : (if mid < m then mid + m - b else a) ≤ s - 1 := by
      by_cases h : mid < m
      · rw [if_pos h] at h4 ⊢; omega
      · rw [if_neg h] at h4 ⊢; omega
    have hs : s ≤ m ∧ s ≤ mid := by
      by_cases h : mid < m
      · rw [if_pos h] at h5; omega
      · rw [if_neg h] at h5; omega
    have e := yes (s - 1) hlo (by omega)
    rw [show mid + m - 1 - (s - 1) = mid + m - s by omega] at e
    have l : lx (f (s - 1)) (f (mid + m - s)) := by
      rcases x (s - 1) (mid + m - s) (by omega) (by omega) (by omega) (by omega) with ⟨e2, _⟩ | ⟨_, e2⟩
      · exact absurd e2 e
      · exact e2
    have l1 : lx (f i) (f (mid + m - s)) := by
      by_cases h : i = s - 1
      · rw [h]; exact l
      · exact O.tr _ _ _ (s1 i (s - 1) hi (by omega) (by omega)) l
    by_cases h : j = mid + m - s
    · rw [h]; exact l1
    · exact O.tr _ _ _ l1 (s2 _ _ (by omega) (by omega) hjb)
  · intro i j hi him hj hje
    have hhi : s < (if mid < m then mid else m) := by
      by_cases h : mid < m
      · rw [if_pos h] at h5 ⊢; omega
      · rw [if_neg h] at h5 ⊢; omega
    have ha : a ≤ s := by
      by_cases h : mid < m
      · rw [if_pos h] at h4; omega
      · rw [if_neg h] at h4; omega
    have hb : mid + m - s ≤ b := by
      by_cases h : mid < m
      · rw [if_pos h] at h4; omega
      · rw [if_neg h] at h4; omega
    have e := no s (Nat.le_refl _) hhi
    have l : lx (f (mid + m - 1 - s)) (f s) := by
      rcases x s (mid + m - 1 - s) ha (by omega) (by omega) (by omega) with ⟨_, e2⟩ | ⟨e2, _⟩
      · exact e2
      · exact absurd e e2
    have l1 : lx (f j) (f s) := by
      by_cases h : j = mid + m - 1 - s
      · rw [h]; exact l
      · exact O.tr _ _ _ (s2 j _ hj (by omega) (by omega)) l
    by_cases h : i = s
    · rw [h]; exact l1
    · exact O.tr _ _ _ l1 (s1 _ _ ha (by omega) him)
/-- What the rotation makes: two pairs of sorted pieces, and all of the first pair less than all of the second. -/
theorem Cut.rotated {C lx : α → α → Prop} (O : Ord C lx) {f : Nat → α} {a m b mid s : Nat} (c : Cut C lx f a m b mid s) (s1 : Srt lx f a m) (s2 : Srt lx f m b) (x : Xc C lx f a m b) :
    let g := rot f s m (mid + m - s)
    Srt lx g a s ∧ Srt lx g s mid ∧ Srt lx g mid (mid + m - s) ∧ Srt lx g (mid + m - s) b ∧ Xc C lx g a s mid ∧ Xc C lx g mid (mid + m - s) b ∧ (∀ i j, a ≤ i → i < mid → mid ≤ j → j < b → lx (g i) (g j)) ∧ Inc f g a b := by
  obtain ⟨b1, b2, b3, b4, b5, b6, b7, b8⟩ := c.bounds
  obtain ⟨l1, l2⟩ := c.split O s1 s2 x
  have g1 : ∀ p, p < s → rot f s m (mid + m - s) p = f p := fun p h => by unfold rot; rw [if_neg (by omega), if_neg (by omega)]
  have g2 : ∀ p, s ≤ p → p < mid → rot f s m (mid + m - s) p = f (p + (m - s)) := fun p h k => by unfold rot; rw [if_pos (by omega)]
  have g3 : ∀ p, mid ≤ p → p < mid + m - s → rot f s m (mid + m - s) p = f (p - (mid - s)) := fun p h k => by
    unfold rot; rw [if_neg (by omega), if_pos (by omega), show mid + m - s - m = mid - s by omega]
  have g4 : ∀ p, mid + m - s ≤ p → rot f s m (mid + m - s) p = f p := fun p h => by unfold rot; rw [if_neg (by omega), if_neg (by omega)]
  intro g
  have hg : g = rot f s m (mid + m - s) := rfl
  rw [← hg] at g1 g2 g3 g4
  clear hg
  refine ⟨?_, ?_, ?_, ?_, ?_, ?_, ?_, ?_, ?_⟩
  · intro i j h1 h2 h3; rw [g1 i (by omega), g1 j h3]; exact s1 i j h1 h2 (by omega)
  · intro i j h1 h2 h3; rw [g2 i h1 (by omega), g2 j (by omega) h3]; exact s2 _ _ (by omega) (by omega) (by omega)
  · intro i j h1 h2 h3; rw [g3 i h1 (by omega), g3 j (by omega) h3]; exact s1 _ _ (by omega) (by omega) (by omega)
  · intro i j h1 h2 h3; rw [g4 i h1, g4 j (by omega)]; exact s2 i j (by omega) h2 h3
  · intro i j h1 h2 h3 h4; rw [g1 i h2, g2 j h3 h4]; exact x _ _ h1 (by omega) (by omega) (by omega)
  · intro i j h1 h2 h3 h4; rw [g3 i h1 h2, g4 j h3]; exact x _ _ (by omega) (by omega) (by omega) h4
  · intro i j h1 h2 h3 h4
    by_cases c1 : i < s
    · rw [g1 i c1]
      by_cases c2 : j < mid + m - s
      · rw [g3 j h3 c2]; exact s1 _ _ h1 (by omega) (by omega)
      · rw [g4 j (by omega)]; exact l1 _ _ h1 c1 (by omega) h4
    · rw [g2 i (by omega) h2]
      by_cases c2 : j < mid + m - s
      · rw [g3 j h3 c2]; exact l2 _ _ (by omega) (by omega) (by omega) (by omega)
      · rw [g4 j (by omega)]; exact s2 _ _ (by omega) (by omega) h4
  · intro p h1 h2
    by_cases c1 : p < s
    · rw [g1 p c1]; exact ⟨p, h1, h2, rfl⟩
    · by_cases c2 : p < mid
      · rw [g2 p (by omega) c2]; exact ⟨_, by omega, by omega, rfl⟩
      · by_cases c3 : p < mid + m - s
        · rw [g3 p (by omega) c3]; exact ⟨_, by omega, by omega, rfl⟩
        · rw [g4 p (by omega)]; exact ⟨p, h1, h2, rfl⟩
  · intro p hp
    by_cases c1 : p < s
    · exact g1 p c1
    · exact g4 p (by omega)
/-- Two halves that are sorted each, made of halves of which all of the first is less than all of the second, are sorted. -/
theorem halves {lx : α → α → Prop} {g k : Nat → α} {a mid b : Nat} (s1 : Srt lx k a mid) (s2 : Srt lx k mid b) (i1 : ∀ p, a ≤ p → p < mid → ∃ q, a ≤ q ∧ q < mid ∧ k p = g q) (i2 : ∀ p, mid ≤ p → p < b → ∃ q, mid ≤ q ∧ q < b ∧ k p = g q)
    (l : ∀ i j, a ≤ i → i < mid → mid ≤ j → j < b → lx (g i) (g j)) : Srt lx k a b := by
  intro i j h1 h2 h3
  by_cases c1 : j < mid
  · exact s1 i j h1 h2 c1
  · by_cases c2 : i < mid
    · obtain ⟨q, q1, q2, e⟩ := i1 i h1 c2
      obtain ⟨r, r1, r2, e2⟩ := i2 j (by omega) h3
      rw [e, e2]
      exact l q r q1 q2 r1 r2
    · exact s2 i j (by omega) h2 h3
end Go.Proofs.YtcjkeobjojmpfaaGreat.St
end

section
/-
  PLAIN FACTS about sorting in place, on: exchanges, rotations by exchanges of ranges, one insertion, and blocks of one size. No program is named here.
-/
namespace Go.Proofs.YtcjkeobjojmpfaaGreat.St
variable {α : Type}

/-- Two places exchanged; two ranges exchanged. -/
def swp (f : Nat → α) (x y : Nat) : Nat → α := fun p => if p = x then f y else if p = y then f x else f p
def swr (f : Nat → α) (a b n : Nat) : Nat → α := fun p => if a ≤ p ∧ p < a + n then f (p + (b - a)) else if b ≤ p ∧ p < b + n then f (p - (b - a)) else f p
theorem swr_zero (f : Nat → α) (a b : Nat) : swr f a b 0 = f := by
  funext p; unfold swr; rw [if_neg (by omega), if_neg (by omega)]
theorem swr_succ (f : Nat → α) (a b n i : Nat) (h : a + n ≤ b) (hi : i < n) : swp (swr f a b i) (a + i) (b + i) = swr f a b (i + 1) := by
  funext p
  unfold swp
  by_cases c1 : p = a + i
  · rw [if_pos c1]
    unfold swr
    rw [if_neg (by omega), if_neg (by omega), if_pos (by omega)]
    congr 1; omega
  · rw [if_neg c1]
    by_cases c2 : p = b + i
    · rw [if_pos c2]
      unfold swr
      rw [if_neg (by omega), if_neg (by omega), if_neg (by omega), if_pos (by omega)]
      congr 1; omega
    · rw [if_neg c2]
      unfold swr
      by_cases c3 : a ≤ p ∧ p < a + i
      · rw [if_pos c3, if_pos (by omega)]
      · rw [if_neg c3, if_neg (show ¬ (a ≤ p ∧ p < a + (i + 1)) by omega)]
        by_cases c4 : b ≤ p ∧ p < b + i
        · rw [if_pos c4, if_pos (by omega)]
        · rw [if_neg c4, if_neg (by omega)]
theorem rot_done (f : Nat → α) (m i : Nat) (h : i ≤ m) : swr f (m - i) m i = rot f (m - i) m (m + i) := by
  funext p
  unfold swr rot
  by_cases c1 : m - i ≤ p ∧ p < m - i + i
  · rw [if_pos c1, if_pos (by omega)]
  · rw [if_neg c1, if_neg (show ¬ (m - i ≤ p ∧ p < m - i + (m + i - m)) by omega)]
    by_cases c2 : m ≤ p ∧ p < m + i
    · rw [if_pos c2, if_pos (by omega)]
      congr 1; omega
    · rw [if_neg c2, if_neg (by omega)]
theorem rot_left (f : Nat → α) (m i j : Nat) (h : i ≤ m) (hj : j < i) : rot (swr f (m - i) m j) (m - (i - j)) m (m + j) = rot f (m - i) m (m + j) := by
  funext p
  unfold rot
  by_cases c1 : m - (i - j) ≤ p ∧ p < m - (i - j) + (m + j - m)
  · rw [if_pos c1]
    by_cases c2 : m - i ≤ p ∧ p < m - i + (m + j - m)
    · omega
    · rw [if_neg c2, if_pos (by omega)]
      unfold swr
      rw [if_neg (by omega), if_pos (by omega)]
      congr 1; omega
  · rw [if_neg c1]
    by_cases c2 : m - (i - j) + (m + j - m) ≤ p ∧ p < m + j
    · rw [if_pos c2, if_neg (by omega), if_pos (by omega)]
      unfold swr
      rw [if_neg (by omega), if_neg (by omega)]
    · rw [if_neg c2]
      unfold swr
      by_cases c3 : m - i ≤ p ∧ p < m - i + j
      · rw [if_pos c3, if_pos (by omega)]
      · rw [if_neg c3, if_neg (by omega), if_neg (by omega), if_neg (by omega)]
theorem rot_right (f : Nat → α) (m i j : Nat) (h : i ≤ m) (hi : 0 < i) (hj : i < j) : rot (swr f (m - i) (m + j - i) i) (m - i) m (m + (j - i)) = rot f (m - i) m (m + j) := by
  funext p
  unfold rot
  by_cases c1 : m - i ≤ p ∧ p < m - i + (m + (j - i) - m)
  · rw [if_pos c1, if_pos (by omega)]
    unfold swr
    rw [if_neg (by omega), if_neg (by omega)]
  · rw [if_neg c1]
    by_cases c2 : m - i + (m + (j - i) - m) ≤ p ∧ p < m + (j - i)
    · rw [if_pos c2]
      by_cases c3 : m - i ≤ p ∧ p < m - i + (m + j - m)
      · rw [if_pos c3]
        unfold swr
        rw [if_pos (by omega)]
        congr 1; omega
      · omega
    · rw [if_neg c2]
      unfold swr
      by_cases c3 : m - i ≤ p ∧ p < m - i + i
      · omega
      · rw [if_neg c3]
        by_cases c4 : m + j - i ≤ p ∧ p < m + j - i + i
        · rw [if_pos c4, if_neg (by omega), if_pos (by omega)]
          congr 1; omega
        · rw [if_neg c4, if_neg (by omega), if_neg (by omega)]
theorem ins2_self (f : Nat → α) (i : Nat) : ins2 f i i = f := by
  funext p; unfold ins2
  rw [if_neg (by omega)]
  by_cases h : p = i
  · rw [if_pos ⟨h, Nat.le_refl _⟩, h]
  · rw [if_neg (by omega)]
theorem ins2_swp (f : Nat → α) (j i : Nat) (hj : 0 < j) (h : j ≤ i) : swp (ins2 f j i) j (j - 1) = ins2 f (j - 1) i := by
  funext p
  unfold swp ins2
  by_cases c1 : p = j
  · rw [if_pos c1, if_neg (by omega), if_neg (by omega), if_pos (by omega), c1]
  · rw [if_neg c1]
    by_cases c2 : p = j - 1
    · rw [if_pos c2, if_neg (by omega), if_pos (by omega), if_neg (by omega), if_pos (by omega)]
    · rw [if_neg c2]
      by_cases c3 : j < p ∧ p ≤ i
      · rw [if_pos c3, if_pos (by omega)]
      · rw [if_neg c3, if_neg (by omega), if_neg (by omega), if_neg (by omega)]
theorem ins2_at (f : Nat → α) (j i : Nat) (h : j ≤ i) : ins2 f j i j = f i := by unfold ins2; rw [if_neg (by omega), if_pos ⟨rfl, h⟩]
theorem ins2_below (f : Nat → α) (j i p : Nat) (h : p < j) : ins2 f j i p = f p := by unfold ins2; rw [if_neg (by omega), if_neg (by omega)]
theorem ins1_self (f : Nat → α) (a : Nat) : ins1 f a (a + 1) = f := by
  funext p; unfold ins1
  rw [if_neg (by omega)]
  by_cases h : p + 1 = a + 1 ∧ a ≤ p
  · rw [if_pos h, show p = a by omega]
  · rw [if_neg h]
theorem ins1_swp (f : Nat → α) (a k : Nat) (h : a ≤ k) : swp (ins1 f a (k + 1)) k (k + 1) = ins1 f a (k + 2) := by
  funext p
  unfold swp ins1
  by_cases c1 : p = k
  · rw [if_pos c1, if_neg (by omega), if_neg (by omega), if_pos (by omega), c1]
  · rw [if_neg c1]
    by_cases c2 : p = k + 1
    · rw [if_pos c2, if_neg (by omega), if_pos (by omega), if_neg (by omega), if_pos (by omega)]
    · rw [if_neg c2]
      by_cases c3 : a ≤ p ∧ p + 1 < k + 1
      · rw [if_pos c3, if_pos (by omega)]
      · rw [if_neg c3, if_neg (by omega), if_neg (by omega), if_neg (by omega)]
/-- In a row whose pairs are told by the order, one more element is put where it belongs. -/
def Pw (C lx : α → α → Prop) (f : Nat → α) (a b : Nat) : Prop := ∀ i j, a ≤ i → i < j → j < b → (C (f j) (f i) ∧ lx (f j) (f i)) ∨ (¬ C (f j) (f i) ∧ lx (f i) (f j))
theorem Pw.cross {C lx : α → α → Prop} {f g : Nat → α} {a i b : Nat} (h : Pw C lx f a b) (k : Inc f g a i) (hi : i < b) : Xc C lx g a i (i + 1) := by
  intro p q h1 h2 h3 h4
  obtain rfl : q = i := by omega
  obtain ⟨r, r1, r2, e⟩ := k.1 p h1 h2
  rw [e, k.2 q (by omega)]
  exact h r q r1 r2 hi
theorem insert_one {C lx : α → α → Prop} (O : Ord C lx) {f g : Nat → α} {a i b j : Nat} (h : Pw C lx f a b) (k : Inc f g a i) (s : Srt lx g a i) (ha : a < i) (hi : i < b) (h1 : a ≤ j) (h2 : j ≤ i)
    (stop : j = a ∨ ¬ C (g i) (g (j - 1))) (k2 : ∀ q, j ≤ q → q < i → C (g i) (g q)) : Srt lx (ins2 g j i) a (i + 1) ∧ Inc f (ins2 g j i) a (i + 1) := by
  have x := h.cross k hi
  have k1 : ∀ q, a ≤ q → q < j → ¬ C (g i) (g q) := by
    intro q hq hqj
    rcases stop with rfl | st
    · omega
    · by_cases e : q = j - 1
      · rw [e]; exact st
      · exact mono_right O s x hq (show q < j - 1 by omega) (by omega) st
  obtain ⟨r1, r2⟩ := one_right ha s x h1 h2 k1 k2
  exact ⟨r1, (k.mono (Nat.le_refl _) (Nat.le_succ i)).trans r2⟩
/-- Sorted, and with values of its own range alone. -/
def Good (lx : Nat → Nat → Prop) (f : Nat → Nat) (a b : Nat) : Prop := Srt lx f a b ∧ ∀ p, a ≤ p → p < b → a ≤ f p ∧ f p < b
theorem Good.cross {C lx : Nat → Nat → Prop} {f : Nat → Nat} {n a m b : Nat} (hC : ∀ x y, x < y → y < n → (C y x ∧ lx y x) ∨ (¬ C y x ∧ lx x y)) (h : Good lx f a m) (k : Good lx f m b) (hb : b ≤ n) : Xc C lx f a m b := by
  intro i j h1 h2 h3 h4
  have e1 := h.2 i h1 h2
  have e2 := k.2 j h3 h4
  exact hC _ _ (by omega) (by omega)
theorem Good.inc {lx : Nat → Nat → Prop} {f g : Nat → Nat} {a m b : Nat} (h : Good lx f a m) (k : Good lx f m b) (i : Inc f g a b) (s : Srt lx g a b) (h1 : a ≤ m) (h2 : m ≤ b) : Good lx g a b := by
  refine ⟨s, fun p hp hq => ?_⟩
  obtain ⟨q, q1, q2, e⟩ := i.1 p hp hq
  rw [e]
  by_cases c : q < m
  · have := h.2 q q1 c; omega
  · have := k.2 q (by omega) q2; omega
theorem Good.keep {lx : Nat → Nat → Prop} {f g : Nat → Nat} {a b c d : Nat} (h : Good lx f a b) (i : Inc f g c d) (o : b ≤ c ∨ d ≤ a) : Good lx g a b := by
  have e : ∀ p, a ≤ p → p < b → g p = f p := fun p h1 h2 => i.2 p (by omega)
  exact ⟨h.1.congr e, fun p h1 h2 => by rw [e p h1 h2]; exact h.2 p h1 h2⟩
theorem Good.empty {lx : Nat → Nat → Prop} {f : Nat → Nat} {a b : Nat} (h : b ≤ a) : Good lx f a b := ⟨fun i j h1 h2 h3 => by omega, fun p h1 h2 => by omega⟩
end Go.Proofs.YtcjkeobjojmpfaaGreat.St
end

section
/-
  A ROW OF INDEXES that is sorted in place: its cells, an exchange of two of them, and what else is as it was.
-/
namespace Go.Proofs.YtcjkeobjojmpfaaGreat
open Go.RowKit

theorem cell_blk {w w' : World} {b : Nat} (h : w'.heap[b]? = w.heap[b]?) (p : Nat) : w'.cell? ⟨b, p, none⟩ = w.cell? ⟨b, p, none⟩ := by simp [World.cell?, h]
theorem frozen_blk {w w' : World} {b : Nat} (h : w'.heap[b]? = w.heap[b]?) (p : Nat) : w'.frozen? ⟨b, p, none⟩ = w.frozen? ⟨b, p, none⟩ := by simp [World.frozen?, h]
theorem grown_trans {a b c : World} {row : Option Nat} (h : a.grownBy b row) (k : b.grownBy c row) : a.grownBy c row :=
  ⟨k.os.trans h.os, k.tape.trans h.tape, k.output.trans h.output, Nat.le_trans h.size k.size, fun j hj hr => (k.block j (Nat.lt_of_lt_of_le hj h.size) hr).trans (h.block j hj hr)⟩
theorem grown_below {a b : World} (row : Option Nat) (h : Below a.heap.size a b) : a.grownBy b row :=
  ⟨h.os, h.tape, h.output, h.size, fun j hj _ => h.block j hj⟩
theorem grown_refl (a : World) (row : Option Nat) : a.grownBy a row := ⟨rfl, rfl, rfl, Nat.le_refl _, fun _ _ _ => rfl⟩
theorem grown_set (W : World) (b i : Nat) (v : Value) : W.grownBy (W.setCell ⟨b, i, none⟩ v) (some b) :=
  ⟨rfl, rfl, rfl, by simp, fun k _ hk => Below.heap_setCell _ _ _ k (fun e => hk (by rw [e]))⟩
/-- THE BLOCK b HOLDS, IN ITS FIRST n CELLS, THE INDEXES f. -/
structure IRow (W : World) (b n : Nat) (f : Nat → Nat) : Prop where
  lt : b < W.heap.size
  cell : ∀ p, p < n → W.cell? ⟨b, p, none⟩ = some (.int .i64 (f p : Int))
  frozen : ∀ p, p < n → W.frozen? ⟨b, p, none⟩ = false
theorem IRow.below {W W' : World} {b n : Nat} {f : Nat → Nat} (h : IRow W b n f) (hb : Below W.heap.size W W') : IRow W' b n f :=
  ⟨Nat.lt_of_lt_of_le h.lt hb.size, fun p hp => (cell_blk (hb.block b h.lt) p).trans (h.cell p hp), fun p hp => (frozen_blk (hb.block b h.lt) p).trans (h.frozen p hp)⟩
theorem IRow.set {W : World} {b n : Nat} {f : Nat → Nat} (h : IRow W b n f) {i : Nat} (hi : i < n) (v : Nat) : IRow (W.setCell ⟨b, i, none⟩ (.int .i64 (v : Int))) b n (fun p => if p = i then v else f p) := by
  refine ⟨by have := h.lt; simpa using this, fun p hp => ?_, fun p hp => by rw [World.frozen?_setCell]; exact h.frozen p hp⟩
  by_cases e : p = i
  · subst e
    rw [if_pos rfl]
    exact World.cell?_setCell_same _ _ _ (h.cell p hp)
  · rw [if_neg e]
    exact (World.cell?_setCell_other _ _ _ _ (by intro e'; simp only [Addr.mk.injEq] at e'; omega)).trans (h.cell p hp)
/-- The exchange's two stores. -/
theorem IRow.swp {W : World} {b n : Nat} {f : Nat → Nat} (h : IRow W b n f) {x y : Nat} (hx : x < n) (hy : y < n) : IRow ((W.setCell ⟨b, x, none⟩ (.int .i64 (f y : Int))).setCell ⟨b, y, none⟩ (.int .i64 (f x : Int))) b n (St.swp f x y) := by
  have := (h.set hx (f y)).set hy (f x)
  have e : (fun p => if p = y then f x else (fun p => if p = x then f y else f p) p) = St.swp f x y := by
    funext p
    unfold St.swp
    by_cases c1 : p = x
    · by_cases c2 : p = y
      · simp [c1, ← c1.symm.trans c2]
      · rw [if_neg c2, if_pos c1]; simp [c1]
    · by_cases c2 : p = y
      · rw [if_pos c2, if_neg c1, if_pos c2]
      · rw [if_neg c2, if_neg c1, if_neg c2]; simp [c1]
  rw [e] at this
  exact this
theorem IRow.swp_grown (W : World) (b x y : Nat) (u v : Value) : W.grownBy ((W.setCell ⟨b, x, none⟩ u).setCell ⟨b, y, none⟩ v) (some b) := grown_trans (grown_set W b x u) (grown_set _ b y v)
end Go.Proofs.YtcjkeobjojmpfaaGreat
end
