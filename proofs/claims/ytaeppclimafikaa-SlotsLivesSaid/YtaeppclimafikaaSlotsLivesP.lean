/-
  PLAIN: how often a table was taken from.
-/
import Derived.Test.YtaeppclimafikaaSlotsQ
namespace Go.Proofs.Ytaeppclimafikaa

def sumL : Nat → (Nat → Nat) → Nat
  | 0, _ => 0
  | n + 1, f => sumL n f + f n
theorem sumL_congr {n : Nat} {f g : Nat → Nat} (h : ∀ p, p < n → f p = g p) : sumL n f = sumL n g := by
  induction n with
  | zero => rfl
  | succ n ih => show sumL n f + f n = sumL n g + g n; rw [ih (fun p hp => h p (by omega)), h n (by omega)]
theorem sumL_zero (n : Nat) : sumL n (fun _ => 0) = 0 := by
  induction n with
  | zero => rfl
  | succ n ih => show sumL n _ + 0 = 0; rw [ih]
theorem sumL_add (n : Nat) (f : Nat → Nat) (p : Nat) (hp : p < n) : sumL n (fun q => if q = p then f p + 1 else f q) = sumL n f + 1 := by
  induction n with
  | zero => omega
  | succ n ih =>
    show sumL n _ + (if n = p then f p + 1 else f n) = sumL n f + f n + 1
    by_cases e : n = p
    · subst e
      rw [if_pos rfl, sumL_congr (g := f) (fun q hq => if_neg (by omega))]
      omega
    · rw [if_neg e, ih (by omega)]
      omega
theorem sumL_le {n k : Nat} {f : Nat → Nat} (h : ∀ p, p < n → f p ≤ k) : sumL n f ≤ n * k := by
  induction n with
  | zero => exact Nat.zero_le _
  | succ n ih =>
    show sumL n f + f n ≤ (n + 1) * k
    have h1 := ih (fun p hp => h p (by omega))
    have h2 := h n (by omega)
    have h3 : (n + 1) * k = n * k + k := Nat.succ_mul n k
    omega
theorem sumL_all {n k : Nat} {f : Nat → Nat} (h : ∀ p, p < n → f p = k) : sumL n f = n * k := by
  induction n with
  | zero => simp [sumL]
  | succ n ih =>
    show sumL n f + f n = (n + 1) * k
    rw [ih (fun p hp => h p (by omega)), h n (by omega), Nat.succ_mul]
theorem cnt_all {n : Nat} {f : Nat → Bool} (h : cnt n f = n) : ∀ p, p < n → f p = true := by
  induction n with
  | zero => intro p hp; omega
  | succ n ih =>
    rw [cnt_succ] at h
    have h1 := cnt_le n f
    by_cases e : f n = true
    · rw [if_pos e] at h
      intro p hp
      by_cases c : p = n
      · rw [c]; exact e
      · exact ih (by omega) p (by omega)
    · rw [if_neg e] at h; omega
/-- WHERE SlotsLives STANDS. -/
structure LivOk (n k : Nat) (S : Tb) (t a : Nat) : Prop where
  sum : sumL n S.life = t
  way : a + cnt n S.tk ≤ 2 * t
theorem LivOk.new (n k : Nat) : LivOk n k (newT n) 0 0 := ⟨sumL_zero n, by
  have : cnt n (newT n).tk = 0 := cnt_none n _ fun _ _ => rfl
  rw [this]; omega⟩
theorem LivOk.take {n k : Nat} {S : Tb} {t a p : Nat} {r : List Nat} (h : LivOk n k S t a) (ho : TOk n k S) (hf : S.free = p :: r) : LivOk n k (takeT S p r) (t + 1) (a + 1) := by
  obtain ⟨p1, -, -, -⟩ := ho.head hf
  refine ⟨?_, ?_⟩
  · show sumL n (fun q => if q = p then S.life p + 1 else S.life q) = t + 1
    rw [sumL_add n S.life p p1, h.sum]
  · rw [ho.cnt_take hf]
    have := h.way
    omega
theorem LivOk.give {n k : Nat} {S : Tb} {t a p : Nat} (h : LivOk n k S t a) (hp : p < n) (ht : S.tk p = true) : LivOk n k (giveT k S p) t (a + 1) := by
  refine ⟨h.sum, ?_⟩
  have h1 := cnt_give (k := k) hp ht
  have := h.way
  omega
theorem LivOk.back {n k : Nat} {S : Tb} {t a p : Nat} (h : LivOk n k S t (a + 1)) (hp : p < n) (ht : S.tk p = true) : LivOk n k (giveT k S p) t (a + 1) := by
  refine ⟨h.sum, ?_⟩
  have h1 := cnt_give (k := k) hp ht
  have := h.way
  omega
theorem LivOk.bound {n k : Nat} {S : Tb} {t a : Nat} (h : LivOk n k S t a) (ho : TOk n k S) : a ≤ 2 * (n * k) ∧ t ≤ n * k := by
  have h1 := sumL_le (n := n) (k := k) (f := S.life) ho.le
  have h2 := h.sum
  have h3 := h.way
  omega
theorem LivOk.done {n k : Nat} {S : Tb} {t a : Nat} (h : LivOk n k S t a) (ho : TOk n k S) (hf : S.free = []) (hc : cnt n S.tk = 0) : t = n * k ∧ cnt n (wornF k S) = n := by
  have hs := ho.sum
  rw [hf, hc] at hs
  simp at hs
  refine ⟨?_, hs⟩
  have ha := cnt_all hs
  rw [← h.sum]
  refine sumL_all fun p hp => ?_
  have := ha p hp
  unfold wornF at this
  simp at this
  exact this.2
end Go.Proofs.Ytaeppclimafikaa
