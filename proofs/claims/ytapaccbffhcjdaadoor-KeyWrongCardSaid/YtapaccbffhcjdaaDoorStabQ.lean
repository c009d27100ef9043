/-
  PLAIN FACTS about sorting in place, on: exchanges, rotations by exchanges of ranges, one insertion, and blocks of one size. No program is named here.
-/
import Derived.Test.YtapaccbffhcjdaaDoorStabP
namespace Go.Proofs.YtapaccbffhcjdaaDoor.St
variable {α : Type}

/-- Two places exchanged; two ranges exchanged. -/
def swp (f : Nat → α) (x y : Nat) : Nat → α := fun p => if p = x then f y else if p = y then f x else f p
def swr (f : Nat → α) (a b n : Nat) : Nat → α := fun p => if a ≤ p ∧ p < a + n then f (p + (b - a)) else if b ≤ p ∧ p < b + n then f (p - (b - a)) else f p
theorem swr_zero (f : Nat → α) (a b : Nat) : swr f a b 0 = f := by
  funext p; unfold swr; rw [if_neg (by omega), if_neg (by omega)]
theorem swr_succ (f : Nat → α) (a b n i : Nat) (h : a + n ≤ b) (hi : i < n) : swp (swr f a b i) (a + i) (b + i) = swr f a b (i + 1) := by
  funext p
  unfold swp
  by_cases c1 : p = a + i
  · rw [if_pos c1]
    unfold swr
    rw [if_neg (by omega), if_neg (by omega), if_pos (by omega)]
    congr 1; omega
  · rw [if_neg c1]
    by_cases c2 : p = b + i
    · rw [if_pos c2]
      unfold swr
      rw [if_neg (by omega), if_neg (by omega), if_neg (by omega), if_pos (by omega)]
      congr 1; omega
    · rw [if_neg c2]
      unfold swr
      by_cases c3 : a ≤ p ∧ p < a + i
      · rw [if_pos c3, if_pos (by omega)]
      · rw [if_neg c3, if_neg (show ¬ (a ≤ p ∧ p < a + (i + 1)) by omega)]
        by_cases c4 : b ≤ p ∧ p < b + i
        · rw [if_pos c4, if_pos (by omega)]
        · rw [if_neg c4, if_neg (by omega)]
theorem rot_done (f : Nat → α) (m i : Nat) (h : i ≤ m) : swr f (m - i) m i = rot f (m - i) m (m + i) := by
  funext p
  unfold swr rot
  by_cases c1 : m - i ≤ p ∧ p < m - i + i
  · rw [if_pos c1, if_pos (by omega)]
  · rw [if_neg c1, if_neg (show ¬ (m - i ≤ p ∧ p < m - i + (m + i - m)) by omega)]
    by_cases c2 : m ≤ p ∧ p < m + i
    · rw [if_pos c2, if_pos (by omega)]
      congr 1; omega
    · rw [if_neg c2, if_neg (by omega)]
theorem rot_left (f : Nat → α) (m i j : Nat) (h : i ≤ m) (hj : j < i) : rot (swr f (m - i) m j) (m - (i - j)) m (m + j) = rot f (m - i) m (m + j) := by
  funext p
  unfold rot
  by_cases c1 : m - (i - j) ≤ p ∧ p < m - (i - j) + (m + j - m)
  · rw [if_pos c1]
    by_cases c2 : m - i ≤ p ∧ p < m - i + (m + j - m)
    · omega
    · rw [if_neg c2, if_pos (by omega)]
      unfold swr
      rw [if_neg (by omega), if_pos (by omega)]
      congr 1; omega
  · rw [if_neg c1]
    by_cases c2 : m - (i - j) + (m + j - m) ≤ p ∧ p < m + j
    · rw [if_pos c2, if_neg (by omega), if_pos (by omega)]
      unfold swr
      rw [if_neg (by omega), if_neg (by omega)]
    · rw [if_neg c2]
      unfold swr
      by_cases c3 : m - i ≤ p ∧ p < m - i + j
      · rw [if_pos c3, if_pos (by omega)]
      · rw [if_neg c3, if_neg (by omega), if_neg (by omega), if_neg (by omega)]
theorem rot_right (f : Nat → α) (m i j : Nat) (h : i ≤ m) (hi : 0 < i) (hj : i < j) : rot (swr f (m - i) (m + j - i) i) (m - i) m (m + (j - i)) = rot f (m - i) m (m + j) := by
  funext p
  unfold rot
  by_cases c1 : m - i ≤ p ∧ p < m - i + (m + (j - i) - m)
  · rw [if_pos c1, if_pos (by omega)]
    unfold swr
    rw [if_neg (by omega), if_neg (by omega)]
  · rw [if_neg c1]
    by_cases c2 : m - i + (m + (j - i) - m) ≤ p ∧ p < m + (j - i)
    · rw [if_pos c2]
      by_cases c3 : m - i ≤ p ∧ p < m - i + (m + j - m)
      · rw [if_pos c3]
        unfold swr
        rw [if_pos (by omega)]
        congr 1; omega
      · omega
    · rw [if_neg c2]
      unfold swr
      by_cases c3 : m - i ≤ p ∧ p < m - i + i
      · omega
      · rw [if_neg c3]
        by_cases c4 : m + j - i ≤ p ∧ p < m + j - i + i
        · rw [if_pos c4, if_neg (by omega), if_pos (by omega)]
          congr 1; omega
        · rw [if_neg c4, if_neg (by omega), if_neg (by omega)]
theorem ins2_self (f : Nat → α) (i : Nat) : ins2 f i i = f := by
  funext p; unfold ins2
  rw [if_neg (by omega)]
  by_cases h : p = i
  · rw [if_pos ⟨h, Nat.le_refl _⟩, h]
  · rw [if_neg (by omega)]
theorem ins2_swp (f : Nat → α) (j i : Nat) (hj : 0 < j) (h : j ≤ i) : swp (ins2 f j i) j (j - 1) = ins2 f (j - 1) i := by
  funext p
  unfold swp ins2
  by_cases c1 : p = j
  · rw [if_pos c1, if_neg (by omega), if_neg (by omega), if_pos (by omega), c1]
  · rw [if_neg c1]
    by_cases c2 : p = j - 1
    · rw [if_pos c2, if_neg (by omega), if_pos (by omega), if_neg (by omega), if_pos (by omega)]
    · rw [if_neg c2]
      by_cases c3 : j < p ∧ p ≤ i
      · rw [if_pos c3, if_pos (by omega)]
      · rw [if_neg c3, if_neg (by omega), if_neg (by omega), if_neg (by omega)]
theorem ins2_at (f : Nat → α) (j i : Nat) (h : j ≤ i) : ins2 f j i j = f i := by unfold ins2; rw [if_neg (by omega), if_pos ⟨rfl, h⟩]
theorem ins2_below (f : Nat → α) (j i p : Nat) (h : p < j) : ins2 f j i p = f p := by unfold ins2; rw [if_neg (by omega), if_neg (by omega)]
theorem ins1_self (f : Nat → α) (a : Nat) : ins1 f a (a + 1) = f := by
  funext p; unfold ins1
  rw [if_neg (by omega)]
  by_cases h : p + 1 = a + 1 ∧ a ≤ p
  · rw [if_pos h, show p = a by omega]
  · rw [if_neg h]
theorem ins1_swp (f : Nat → α) (a k : Nat) (h : a ≤ k) : swp (ins1 f a (k + 1)) k (k + 1) = ins1 f a (k + 2) := by
  funext p
  unfold swp ins1
  by_cases c1 : p = k
  · rw [if_pos c1, if_neg (by omega), if_neg (by omega), if_pos (by omega), c1]
  · rw [if_neg c1]
    by_cases c2 : p = k + 1
    · rw [if_pos c2, if_neg (by omega), if_pos (by omega), if_neg (by omega), if_pos (by omega)]
    · rw [if_neg c2]
      by_cases c3 : a ≤ p ∧ p + 1 < k + 1
      · rw [if_pos c3, if_pos (by omega)]
      · rw [if_neg c3, if_neg (by omega), if_neg (by omega), if_neg (by omega)]
/-- In a row whose pairs are told by the order, one more element is put where it belongs. -/
def Pw (C lx : α → α → Prop) (f : Nat → α) (a b : Nat) : Prop := ∀ i j, a ≤ i → i < j → j < b → (C (f j) (f i) ∧ lx (f j) (f i)) ∨ (¬ C (f j) (f i) ∧ lx (f i) (f j))
theorem Pw.cross {C lx : α → α → Prop} {f g : Nat → α} {a i b : Nat} (h : Pw C lx f a b) (k : Inc f g a i) (hi : i < b) : Xc C lx g a i (i + 1) := by
  intro p q h1 h2 h3 h4
  obtain rfl : q = i := by omega
  obtain ⟨r, r1, r2, e⟩ := k.1 p h1 h2
  rw [e, k.2 q (by omega)]
  exact h r q r1 r2 hi
theorem insert_one {C lx : α → α → Prop} (O : Ord C lx) {f g : Nat → α} {a i b j : Nat} (h : Pw C lx f a b) (k : Inc f g a i) (s : Srt lx g a i) (ha : a < i) (hi : i < b) (h1 : a ≤ j) (h2 : j ≤ i)
    (stop : j = a ∨ ¬ C (g i) (g (j - 1))) (k2 : ∀ q, j ≤ q → q < i → C (g i) (g q)) : Srt lx (ins2 g j i) a (i + 1) ∧ Inc f (ins2 g j i) a (i + 1) := by
  have x := h.cross k hi
  have k1 : ∀ q, a ≤ q → q < j → ¬ C (g i) (g q) := by
    intro q hq hqj
    rcases stop with rfl | st
    · omega
    · by_cases e : q = j - 1
      · rw [e]; exact st
      · exact mono_right O s x hq (show q < j - 1 by omega) (by omega) st
  obtain ⟨r1, r2⟩ := one_right ha s x h1 h2 k1 k2
  exact ⟨r1, (k.mono (Nat.le_refl _) (Nat.le_succ i)).trans r2⟩
/-- Sorted, and with values of its own range alone. -/
def Good (lx : Nat → Nat → Prop) (f : Nat → Nat) (a b : Nat) : Prop := Srt lx f a b ∧ ∀ p, a ≤ p → p < b → a ≤ f p ∧ f p < b
theorem Good.cross {C lx : Nat → Nat → Prop} {f : Nat → Nat} {n a m b : Nat} (hC : ∀ x y, x < y → y < n → (C y x ∧ lx y x) ∨ (¬ C y x ∧ lx x y)) (h : Good lx f a m) (k : Good lx f m b) (hb : b ≤ n) : Xc C lx f a m b := by
  intro i j h1 h2 h3 h4
  have e1 := h.2 i h1 h2
  have e2 := k.2 j h3 h4
  exact hC _ _ (by omega) (by omega)
theorem Good.inc {lx : Nat → Nat → Prop} {f g : Nat → Nat} {a m b : Nat} (h : Good lx f a m) (k : Good lx f m b) (i : Inc f g a b) (s : Srt lx g a b) (h1 : a ≤ m) (h2 : m ≤ b) : Good lx g a b := by
  refine ⟨s, fun p hp hq => ?_⟩
  obtain ⟨q, q1, q2, e⟩ := i.1 p hp hq
  rw [e]
  by_cases c : q < m
  · have := h.2 q q1 c; omega
  · have := k.2 q (by omega) q2; omega
theorem Good.keep {lx : Nat → Nat → Prop} {f g : Nat → Nat} {a b c d : Nat} (h : Good lx f a b) (i : Inc f g c d) (o : b ≤ c ∨ d ≤ a) : Good lx g a b := by
  have e : ∀ p, a ≤ p → p < b → g p = f p := fun p h1 h2 => i.2 p (by omega)
  exact ⟨h.1.congr e, fun p h1 h2 => by rw [e p h1 h2]; exact h.2 p h1 h2⟩
theorem Good.empty {lx : Nat → Nat → Prop} {f : Nat → Nat} {a b : Nat} (h : b ≤ a) : Good lx f a b := ⟨fun i j h1 h2 h3 => by omega, fun p h1 h2 => by omega⟩
end Go.Proofs.YtapaccbffhcjdaaDoor.St
