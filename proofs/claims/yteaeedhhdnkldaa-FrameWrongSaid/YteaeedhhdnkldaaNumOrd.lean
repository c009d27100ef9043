/-
  PLAIN: the order of bytes, and that of forms: by bytes it is that of the numbers, and no form is the beginning of another one.
-/
import Derived.Test.YteaeedhhdnkldaaNumPlain2
namespace Go.Proofs.Yteaeedhhdnkldaa
open Go.RowKit Pl

/-- The order of bytes. -/
def lexC : List Nat → List Nat → Int
  | [], [] => 0
  | [], _ :: _ => -1
  | _ :: _, [] => 1
  | a :: l, b :: m => if a < b then -1 else if b < a then 1 else lexC l m

theorem lexC_same (p : List Nat) : ∀ a b, lexC (p ++ a) (p ++ b) = lexC a b := by
  induction p with
  | nil => intro a b; rfl
  | cons x p ih => intro a b; simp [lexC, ih]
theorem lexC_self (p : List Nat) : lexC p p = 0 := by
  have := lexC_same p [] []
  simpa [lexC] using this
theorem lexC_apart (p : List Nat) : ∀ (q a b : List Nat), ¬ p <+: q → ¬ q <+: p → lexC (p ++ a) (q ++ b) = lexC p q := by
  induction p with
  | nil => intro q a b h _; exact absurd List.nil_prefix h
  | cons x p ih =>
    intro q a b h1 h2
    cases q with
    | nil => exact absurd List.nil_prefix h2
    | cons y q =>
      simp only [List.cons_append, lexC]
      by_cases hxy : x = y
      · subst hxy
        rw [ih q a b (fun h => h1 (by simpa using h)) (fun h => h2 (by simpa using h))]
      · by_cases h : x < y
        · simp [h]
        · simp [h, show y < x by omega]

theorem cmpI_refl (x : Int) : cmpI x x = 0 := by unfold cmpI; simp
theorem lexC_val (l : List Nat) : ∀ m : List Nat, l.length = m.length → AllB l → AllB m → lexC l m = cmpI (val l) (val m) := by
  induction l with
  | nil => intro m h _ _; have : m = [] := List.eq_nil_of_length_eq_zero (by simpa using h.symm); subst this; rfl
  | cons a l ih =>
    intro m h ha hb
    cases m with
    | nil => simp at h
    | cons b m =>
      have hl : l.length = m.length := by simpa using h
      have ha' : AllB l := fun d hd => ha d (by simp [hd])
      have hb' : AllB m := fun d hd => hb d (by simp [hd])
      have v1 := val_lt l ha'
      have v2 := val_lt m hb'
      rw [val_cons, val_cons]
      simp only [lexC]
      rw [hl] at v1 ⊢
      by_cases h1 : a < b
      · rw [if_pos h1]
        have : (a + 1) * 256 ^ m.length ≤ b * 256 ^ m.length := Nat.mul_le_mul_right _ h1
        rw [Nat.add_mul, Nat.one_mul] at this
        unfold cmpI
        rw [if_pos (by omega)]
      · rw [if_neg h1]
        by_cases h2 : b < a
        · rw [if_pos h2]
          have : (b + 1) * 256 ^ m.length ≤ a * 256 ^ m.length := Nat.mul_le_mul_right _ h2
          rw [Nat.add_mul, Nat.one_mul] at this
          unfold cmpI
          rw [if_neg (by omega), if_pos (by omega)]
        · rw [if_neg h2, ih m hl ha' hb']
          obtain rfl : a = b := by omega
          unfold cmpI
          by_cases c1 : val l < val m
          · rw [if_pos (by omega), if_pos (by omega)]
          · by_cases c2 : val m < val l
            · rw [if_neg (by omega), if_pos (by omega), if_neg (by omega), if_pos (by omega)]
            · rw [if_neg (by omega), if_neg (by omega), if_neg (by omega), if_neg (by omega)]

theorem digs_bounds {x : Nat} (h0 : 246 < x) (h : x < 18446744073709551616) : 256 ^ ((digs x).length - 1) ≤ x ∧ x < 256 ^ (digs x).length ∧ 1 ≤ (digs x).length := by
  obtain ⟨d, r, e, hd⟩ := digs_ne h0 h
  have hv := val_digs x h
  have hb := val_lt _ (digs_allB x)
  rw [hv] at hb
  refine ⟨?_, hb, by rw [e]; simp⟩
  rw [e] at hv ⊢
  rw [val_cons] at hv
  simp only [List.length_cons, Nat.add_sub_cancel]
  have : 1 * 256 ^ r.length ≤ d * 256 ^ r.length := Nat.mul_le_mul_right _ (by omega)
  omega
theorem digs_mono {x y : Nat} (h0 : 246 < x) (hxy : x ≤ y) (hy : y < 18446744073709551616) : (digs x).length ≤ (digs y).length := by
  obtain ⟨a1, _, a3⟩ := digs_bounds h0 (by omega : x < _)
  obtain ⟨_, b2, _⟩ := digs_bounds (by omega : 246 < y) hy
  have h : 256 ^ ((digs x).length - 1) < 256 ^ (digs y).length := by omega
  have := (Nat.pow_lt_pow_iff_right (by omega : 1 < 256)).1 h
  omega

theorem form_lt {x y : Nat} (h : x < y) (hy : y < 18446744073709551616) : lexC (form x) (form y) = -1 := by
  by_cases h1 : x ≤ 246
  · by_cases h2 : y ≤ 246
    · unfold form; rw [if_pos h1, if_pos h2]; simp [lexC, h]
    · obtain ⟨_, _, b3⟩ := digs_bounds (by omega : 246 < y) hy
      unfold form; rw [if_pos h1, if_neg h2]
      simp only [lexC]
      rw [if_pos (by omega)]
  · have hm := digs_mono (by omega : 246 < x) (by omega : x ≤ y) hy
    unfold form; rw [if_neg h1, if_neg (by omega)]
    simp only [lexC]
    by_cases h2 : (digs x).length < (digs y).length
    · rw [if_pos (by omega)]
    · rw [if_neg (by omega), if_neg (by omega), lexC_val _ _ (by omega) (digs_allB x) (digs_allB y), val_digs x (by omega), val_digs y hy]
      unfold cmpI
      rw [if_pos (by omega)]
theorem lexC_anti : ∀ a b : List Nat, lexC a b = - lexC b a := by
  intro a
  induction a with
  | nil => intro b; cases b <;> simp [lexC]
  | cons x a ih =>
    intro b
    cases b with
    | nil => simp [lexC]
    | cons y b =>
      simp only [lexC]
      by_cases h1 : x < y
      · rw [if_pos h1, if_neg (by omega), if_pos h1]
      · by_cases h2 : y < x
        · rw [if_neg h1, if_pos h2, if_pos h2]; rfl
        · rw [if_neg h1, if_neg h2, if_neg h2, if_neg h1, ih]
theorem form_cmp (x y : Nat) (hx : x < 18446744073709551616) (hy : y < 18446744073709551616) : lexC (form x) (form y) = cmpI x y := by
  unfold cmpI
  by_cases h1 : x < y
  · rw [form_lt h1 hy, if_pos (by omega)]
  · by_cases h2 : y < x
    · rw [lexC_anti, form_lt h2 hx, if_neg (by omega), if_pos (by omega)]; rfl
    · obtain rfl : x = y := by omega
      rw [lexC_self, if_neg (by omega), if_neg (by omega)]
theorem form_prefix {x y : Nat} (hx : x < 18446744073709551616) (hy : y < 18446744073709551616) (h : form x <+: form y) : x = y := by
  obtain ⟨r, hr⟩ := h
  have h1 := rd_form x hx r
  rw [hr, rd_form' y hy] at h1
  simp at h1
  exact h1.1.symm
end Go.Proofs.Yteaeedhhdnkldaa
