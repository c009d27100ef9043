/-
  PLAIN: what is under a name has all of its parts first; in a set these come one after the other, right from the name's place on.
-/
import Derived.Test.YtdaalpiiagmdfaaNameLook
namespace Go.Proofs.Ytdaalpiiagmdfaa
open Go.RowKit Go.Shelf

theorem partsL_ne (l : List UInt8) : partsL l ≠ [] := by rw [partsL_eq]; exact List.cons_ne_nil _ _
theorem partsL_app (a t : List UInt8) : partsL (a ++ 46 :: t) = partsL a ++ partsL t := by
  induction a with
  | nil => rfl
  | cons c a ih =>
    have e : ∀ l : List UInt8, partsL (c :: l) = if c == 46 then [] :: partsL l else match partsL l with
      | [] => [[c]]
      | p :: ps => (c :: p) :: ps := fun _ => rfl
    rw [List.cons_append, e, e, ih]
    by_cases hc : (c == 46) = true
    · rw [if_pos hc, if_pos hc]; rfl
    · rw [if_neg hc, if_neg hc]
      cases hp : partsL a with
      | nil => exact absurd hp (partsL_ne a)
      | cons p ps => rfl
def joinP : List (List UInt8) → List UInt8
  | [] => []
  | [p] => p
  | p :: q :: ps => p ++ 46 :: joinP (q :: ps)
theorem joinP_cons (p : List UInt8) (ps : List (List UInt8)) (h : ps ≠ []) : joinP (p :: ps) = p ++ 46 :: joinP ps := by
  cases ps with
  | nil => exact absurd rfl h
  | cons q ps => rfl
theorem joinP_parts (l : List UInt8) : joinP (partsL l) = l := by
  induction l with
  | nil => rfl
  | cons c l ih =>
    have e : partsL (c :: l) = if c == 46 then [] :: partsL l else match partsL l with
      | [] => [[c]]
      | p :: ps => (c :: p) :: ps := rfl
    rw [e]
    by_cases hc : (c == 46) = true
    · rw [if_pos hc, joinP_cons _ _ (partsL_ne l), ih]
      have : c = 46 := by simpa using hc
      rw [this]; rfl
    · rw [if_neg hc]
      cases hp : partsL l with
      | nil => exact absurd hp (partsL_ne l)
      | cons p ps =>
        rw [hp] at ih
        show joinP ((c :: p) :: ps) = c :: l
        cases ps with
        | nil => rw [← ih]; rfl
        | cons q qs => rw [← ih]; rfl
theorem joinP_app (A T : List (List UInt8)) (hA : A ≠ []) (hT : T ≠ []) : joinP (A ++ T) = joinP A ++ 46 :: joinP T := by
  induction A with
  | nil => exact absurd rfl hA
  | cons p ps ih =>
    cases ps with
    | nil => exact joinP_cons p T hT
    | cons q qs =>
      rw [List.cons_append, joinP_cons p _ (by simp), ih (by simp), joinP_cons p _ (by simp)]
      simp
theorem hasPrefix_iff (s a : List UInt8) : Lib.hasPrefix s a = true ↔ a <+: s := by
  unfold Lib.hasPrefix
  exact List.isPrefixOf_iff_prefix
theorem undN_iff (s a : List UInt8) : undN s a = true ↔ partsL a <+: partsL s := by
  unfold undN
  rw [Bool.and_eq_true, hasPrefix_iff]
  constructor
  · rintro ⟨⟨t, rfl⟩, h⟩
    have ht : Lib.trimPrefix (a ++ t) a = t := by simp [Lib.trimPrefix, Lib.hasPrefix]
    rw [ht, Bool.or_eq_true, decide_eq_true_eq, hasPrefix_iff] at h
    rcases h with rfl | ⟨r, rfl⟩
    · rw [List.append_nil]; exact List.prefix_refl _
    · rw [show a ++ ([46] ++ r) = a ++ 46 :: r from rfl, partsL_app]; exact List.prefix_append _ _
  · rintro ⟨T, hT⟩
    have hs : s = joinP (partsL a ++ T) := by rw [hT, joinP_parts]
    by_cases h0 : T = []
    · rw [h0, List.append_nil, joinP_parts] at hs
      subst hs
      refine ⟨List.prefix_refl _, ?_⟩
      simp [Lib.trimPrefix, Lib.hasPrefix]
    · rw [joinP_app _ _ (partsL_ne a) h0, joinP_parts] at hs
      subst hs
      refine ⟨List.prefix_append _ _, ?_⟩
      have ht : Lib.trimPrefix (a ++ 46 :: joinP T) a = 46 :: joinP T := by simp [Lib.trimPrefix, Lib.hasPrefix]
      rw [ht]
      simp [Lib.hasPrefix]
/-- What lies between a list and one that begins with it begins with it. -/
theorem prefix_between {α : Type} {f : α → α → Int} (h : Good f) : ∀ (A X Y : List α), lexC f A X ≤ 0 → lexC f X Y ≤ 0 → A <+: Y → A <+: X
  | [], _, _, _, _, _ => List.nil_prefix
  | a :: A, X, Y, h1, h2, h3 => by
    obtain ⟨T, rfl⟩ := h3
    cases X with
    | nil => simp [lexC] at h1
    | cons x X =>
      rw [List.cons_append] at h2
      simp only [lexC] at h1 h2
      have ha := h.anti a x
      have h0 : f a x = 0 := by
        by_cases h4 : f a x = 0
        · exact h4
        · rw [if_neg h4] at h1
          rw [if_neg (by omega)] at h2
          omega
      have e := h.eq a x h0
      subst e
      rw [if_pos h0] at h1 h2
      have := prefix_between h A X (A ++ T) h1 h2 (List.prefix_append _ _)
      exact (List.prefix_cons_inj a).2 this
theorem firstN_cut (n : Nat) (p : Nat → Bool) (hm : ∀ a b, a ≤ b → b < n → p a = true → p b = true) : ∃ k, k ≤ n ∧ (∀ i, i < k → p i = false) ∧ (∀ i, k ≤ i → i < n → p i = true) := by
  induction n with
  | zero => exact ⟨0, Nat.le_refl _, fun i hi => absurd hi (Nat.not_lt_zero _), fun i _ hi => absurd hi (Nat.not_lt_zero _)⟩
  | succ n ih =>
    obtain ⟨k, hk, h1, h2⟩ := ih (fun a b hab hb => hm a b hab (by omega))
    cases hp : p n with
    | true =>
      refine ⟨k, by omega, h1, fun i h3 h4 => ?_⟩
      by_cases h5 : i = n
      · rw [h5]; exact hp
      · exact h2 i h3 (by omega)
    | false =>
      refine ⟨n + 1, Nat.le_refl _, fun i hi => ?_, fun i h3 h4 => absurd h4 (by omega)⟩
      cases hi2 : p i with
      | false => rfl
      | true => have := hm i n (by omega) (by omega) hi2; rw [hp] at this; cases this
theorem firstN_le (n : Nat) (p : Nat → Bool) (hm : ∀ a b, a ≤ b → b < n → p a = true → p b = true) : firstN n p ≤ n ∧ (∀ i, i < firstN n p → p i = false) ∧ (∀ i, firstN n p ≤ i → i < n → p i = true) := by
  obtain ⟨k, hk, h1, h2⟩ := firstN_cut n p hm
  rw [firstN_eq n p k hk h1 h2]
  exact ⟨hk, h1, h2⟩
theorem look_mono {l : List (List UInt8)} {s : List UInt8} (h1 : setN l = true) (h2 : rightN s = true) (a b : Nat) (hab : a ≤ b) (hb : b < l.length) (hq : decide (0 ≤ orderN (l.getD a []) s) = true) : decide (0 ≤ orderN (l.getD b []) s) = true := by
  obtain ⟨d, rfl⟩ : ∃ d, b = a + d := ⟨b - a, by omega⟩
  have hle := setN_le h1 a d hb
  rw [decide_eq_true_eq] at hq ⊢
  rw [orderN_lex _ _ h2] at hq ⊢
  exact Int.not_lt.1 fun hn => absurd (names_good.le_lt hle hn) (by omega)
theorem lookAt_cut {l : List (List UInt8)} {s : List UInt8} (h1 : setN l = true) (h2 : rightN s = true) :
    lookAt l s ≤ l.length ∧ (∀ i, i < lookAt l s → orderN (l.getD i []) s < 0) ∧ (∀ i, lookAt l s ≤ i → i < l.length → 0 ≤ orderN (l.getD i []) s) := by
  obtain ⟨e1, e2, e3⟩ := firstN_le l.length (fun i => decide (0 ≤ orderN (l.getD i []) s)) (look_mono h1 h2)
  exact ⟨e1, fun i hi => by have := e2 i hi; rw [decide_eq_false_iff_not] at this; omega, fun i hi hn => by have := e3 i hi hn; rwa [decide_eq_true_eq] at this⟩
/-- From the name's place on those that are under it come first. -/
theorem under_mono {l : List (List UInt8)} {s : List UInt8} (h1 : setN l = true) (h2 : rightN s = true) (a b : Nat) (hab : a ≤ b) (hb : lookAt l s + b < l.length) (hq : undN (l.getD (lookAt l s + b) []) s = true) : undN (l.getD (lookAt l s + a) []) s = true := by
  obtain ⟨d, rfl⟩ : ∃ d, b = a + d := ⟨b - a, by omega⟩
  rw [undN_iff] at hq ⊢
  have h3 := (lookAt_cut h1 h2).2.2 (lookAt l s + a) (by omega) (by omega)
  rw [orderN_lex _ _ h2] at h3
  have h4 := names_good.anti (partsL s) (partsL (l.getD (lookAt l s + a) []))
  have h5 := setN_le h1 (lookAt l s + a) d (by omega)
  exact prefix_between compareBytes_good _ _ _ (by omega) h5 (by rwa [Nat.add_assoc])
end Go.Proofs.Ytdaalpiiagmdfaa
