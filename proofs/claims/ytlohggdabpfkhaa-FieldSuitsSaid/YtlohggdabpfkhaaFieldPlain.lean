/-
  PLAIN: what is written is read back, and what is read is right and is written as these bytes.
-/
import Derived.Test.YtlohggdabpfkhaaFieldRead
namespace Go.Proofs.Ytlohggdabpfkhaa
open Go.RowKit Pl

theorem firstN_form (p : Fld) (r : List Nat) (h1 : p.2.length ≤ 16384) : firstN (recOne p ++ r) = (p.1.toNat, p.2, (recOne p).length) := by
  have e0 : (recOne p ++ r).drop 1 = form p.2.length ++ (p.2 ++ r) := by simp [recOne]
  have e1 := rd_form p.2.length (by omega) (p.2 ++ r)
  have e2 : (recOne p).length = 1 + (form p.2.length).length + p.2.length := by simp [recOne]; omega
  have e3 : ((recOne p ++ r).drop (1 + (form p.2.length).length)).take p.2.length = p.2 := by
    rw [← List.drop_drop, e0, List.drop_left, List.take_left]
  unfold firstN
  rw [e0, e1]
  dsimp only
  rw [if_neg (by rw [List.length_append, e2]; omega), e3, e2]
  rfl
theorem fsqA_form (L : List Fld) : ∀ (a : Nat) (n m : Nat) (b : Int), 0 ≤ b → m ≤ 16384 → fits n m b L = true → (fsqA a (recF L)).map ylF = L ∧ rdRes n m b (fsqA a (recF L)) = none := by
  induction L with
  | nil => intro a n m b _ _ _; exact ⟨rfl, rfl⟩
  | cons p L ih =>
    intro a n m b hb hm hf
    simp only [fits, Bool.and_eq_true] at hf
    have ht := hf.1
    simp only [takeOk, decide_eq_true_eq] at ht
    have hlen : 0 < (recF (p :: L)).length := by rw [recF_cons]; simp [recOne]
    have hF := firstN_form p (recF L) (by omega)
    rw [← recF_cons] at hF
    have hne : (firstN (recF (p :: L))).2.2 ≠ 0 := by rw [hF]; simp [recOne]
    have hs := fsqA_step a hlen hne
    rw [hF] at hs
    dsimp only at hs
    have hd : (recF (p :: L)).drop (recOne p).length = recF L := by rw [recF_cons, List.drop_left]
    rw [hd] at hs
    obtain ⟨i1, i2⟩ := ih (a + (recOne p).length) (n - 1) (m - p.2.length) p.1 (by omega) (by omega) hf.2
    have et : ((p.1.toNat : Nat) : Int) = p.1 := by omega
    rw [hs]
    constructor
    · rw [List.map_cons, i1]
      simp only [ylF, et]
    · unfold rdRes
      dsimp only
      rw [et, if_pos hf.1]
      exact i2
/-- What is written is read back. -/
theorem read_form (L : List Fld) (h : rightF L = true) : readE (recF L) = none ∧ readV (recF L) = L := by
  obtain ⟨h1, h2⟩ := fsqA_form L 0 64 16384 0 (by omega) (by omega) h
  exact ⟨h2, h1⟩

theorem firstN_recOne (l : List Nat) (hb : AllB l) (h : (firstN l).2.2 ≠ 0) : l = recOne (((firstN l).1 : Nat), (firstN l).2.1) ++ l.drop (firstN l).2.2 := by
  rcases firstN_cases l with e | ⟨x, n, hr, hx, hl, e⟩
  · rw [e] at h; exact absurd rfl h
  · obtain ⟨h1, h2, h3, h4⟩ := rd_right (hb.drop 1) hr
    rw [e]
    dsimp only
    obtain ⟨d, t, rfl⟩ : ∃ d t, l = d :: t := by
      cases l with
      | nil => simp at hl
      | cons d t => exact ⟨d, t, rfl⟩
    simp only [List.drop_succ_cons, List.drop_zero] at h1 h3
    have hlt : ((d :: t).drop (1 + n)).take x = (t.drop n).take x := by rw [Nat.add_comm 1 n]; rfl
    have hlen : ((t.drop n).take x).length = x := by simp only [List.length_cons] at hl; simp; omega
    have hd : (d :: t).drop (1 + n + x) = (t.drop n).drop x := by rw [List.drop_drop, show 1 + n + x = (n + x) + 1 by omega]; rfl
    rw [hlt, hd]
    unfold recOne
    dsimp only
    rw [hlen, ← h1]
    simp only [gt, List.getD_cons_zero, Int.toNat_natCast, List.cons_append, List.append_assoc, List.take_append_drop]
theorem rdRes_fits (k : Nat) : ∀ (l : List Nat) (a n m : Nat) (b : Int), l.length ≤ k → AllB l → 0 ≤ b → rdRes n m b (fsqA a l) = none → fits n m b ((fsqA a l).map ylF) = true ∧ recF ((fsqA a l).map ylF) = l := by
  induction k with
  | zero =>
    intro l a n m b hk _ _ _
    have : l = [] := List.eq_nil_of_length_eq_zero (by omega)
    subst this
    exact ⟨rfl, rfl⟩
  | succ k ih =>
    intro l a n m b hk hb h0 h
    by_cases hl : l.length = 0
    · have : l = [] := List.eq_nil_of_length_eq_zero hl
      subst this
      exact ⟨rfl, rfl⟩
    by_cases hz : (firstN l).2.2 = 0
    · rw [fsqA_zero a (by omega) hz] at h
      unfold rdRes at h
      rw [if_neg (by simp [takeOk]; omega)] at h
      cases h
    · have hs := fsqA_step a (by omega) hz
      rw [hs] at h ⊢
      unfold rdRes at h
      dsimp only at h
      by_cases ht : takeOk n m b ((firstN l).1 : Nat) (firstN l).2.1.length = true
      · rw [if_pos ht] at h
        obtain ⟨i1, i2⟩ := ih (l.drop (firstN l).2.2) _ _ _ _ (by rw [List.length_drop]; omega) (hb.drop _) (by omega) h
        rw [List.map_cons]
        constructor
        · simp only [fits, ylF, ht, Bool.true_and]
          exact i1
        · rw [recF_cons, i2]
          exact (firstN_recOne l hb hz).symm
      · rw [if_neg ht] at h
        cases h
/-- What is read is right, and is written as these bytes. -/
theorem read_right (l : List Nat) (hb : AllB l) (h : readE l = none) : rightF (readV l) = true ∧ recF (readV l) = l :=
  rdRes_fits l.length l 0 64 16384 0 (Nat.le_refl _) hb (by omega) h
end Go.Proofs.Ytlohggdabpfkhaa
