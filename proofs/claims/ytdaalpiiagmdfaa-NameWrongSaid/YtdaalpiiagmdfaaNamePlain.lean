/-
  PLAIN: the order of names is one of lists: turned round it changes its sign, it is zero for equal ones alone, and it goes on from one to the next.
-/
import Derived.Test.YtdaalpiiagmdfaaNameSet
namespace Go.Proofs.Ytdaalpiiagmdfaa
open Go.RowKit Go.Shelf

/-- A comparison as it should be. -/
structure Good {α : Type} (f : α → α → Int) : Prop where
  anti : ∀ a b, f a b = - f b a
  eq : ∀ a b, f a b = 0 → a = b
  tr : ∀ a b c, f a b ≤ 0 → f b c ≤ 0 → f a c ≤ 0
theorem Good.refl {α : Type} {f : α → α → Int} (h : Good f) (a : α) : f a a = 0 := by have := h.anti a a; omega
theorem Good.lt_le {α : Type} {f : α → α → Int} (h : Good f) {a b c : α} (h1 : f a b < 0) (h2 : f b c ≤ 0) : f a c < 0 := by
  have h3 := h.tr a b c (by omega) h2
  by_cases h0 : f a c = 0
  · have := h.eq a c h0
    subst this
    have := h.anti a b
    omega
  · omega
theorem Good.le_lt {α : Type} {f : α → α → Int} (h : Good f) {a b c : α} (h1 : f a b ≤ 0) (h2 : f b c < 0) : f a c < 0 := by
  have h3 := h.tr a b c h1 (by omega)
  by_cases h0 : f a c = 0
  · have := h.eq a c h0
    subst this
    have := h.anti a b
    omega
  · omega

/-- Lists are compared by the first place at which they differ. -/
def lexC {α : Type} (f : α → α → Int) : List α → List α → Int
  | [], [] => 0
  | [], _ :: _ => -1
  | _ :: _, [] => 1
  | a :: xs, b :: ys => if f a b = 0 then lexC f xs ys else f a b
theorem lexC_good {α : Type} {f : α → α → Int} (h : Good f) : Good (lexC f) where
  anti := by
    intro a
    induction a with
    | nil => intro b; cases b <;> rfl
    | cons x xs ih =>
      intro b
      cases b with
      | nil => rfl
      | cons y ys =>
        simp only [lexC]
        have := h.anti x y
        by_cases h0 : f x y = 0
        · rw [if_pos h0, if_pos (by omega)]; exact ih ys
        · rw [if_neg h0, if_neg (by omega)]; exact this
  eq := by
    intro a
    induction a with
    | nil => intro b hb; cases b with
      | nil => rfl
      | cons y ys => simp [lexC] at hb
    | cons x xs ih =>
      intro b hb
      cases b with
      | nil => simp [lexC] at hb
      | cons y ys =>
        simp only [lexC] at hb
        by_cases h0 : f x y = 0
        · rw [if_pos h0] at hb; rw [h.eq x y h0, ih ys hb]
        · rw [if_neg h0] at hb; exact absurd hb h0
  tr := by
    intro a
    induction a with
    | nil => intro b c _ _; cases c <;> simp [lexC]
    | cons x xs ih =>
      intro b c h1 h2
      cases b with
      | nil => simp [lexC] at h1
      | cons y ys =>
        cases c with
        | nil => simp [lexC] at h2
        | cons z zs =>
          simp only [lexC] at h1 h2 ⊢
          by_cases h3 : f x y = 0
          · have e := h.eq x y h3
            subst e
            rw [if_pos h3] at h1
            by_cases h4 : f x z = 0
            · rw [if_pos h4] at h2 ⊢
              exact ih ys zs h1 h2
            · rw [if_neg h4] at h2 ⊢
              exact h2
          · rw [if_neg h3] at h1
            have h5 : f y z ≤ 0 := by
              by_cases h4 : f y z = 0
              · omega
              · rw [if_neg h4] at h2; exact h2
            have h6 := h.lt_le (a := x) (b := y) (c := z) (by omega) h5
            rw [if_neg (by omega)]
            omega

def byteC (a b : UInt8) : Int := if a < b then -1 else if b < a then 1 else 0
theorem byteC_good : Good byteC where
  anti := by
    intro a b
    unfold byteC
    simp only [UInt8.lt_iff_toNat_lt]
    by_cases h1 : a.toNat < b.toNat
    · rw [if_pos h1, if_neg (by omega), if_pos h1]
    · by_cases h2 : b.toNat < a.toNat
      · rw [if_neg h1, if_pos h2, if_pos h2]; try rfl
      · rw [if_neg h1, if_neg h2, if_neg h2, if_neg h1]; try rfl
  eq := by
    intro a b h
    unfold byteC at h
    simp only [UInt8.lt_iff_toNat_lt] at h
    by_cases h1 : a.toNat < b.toNat
    · rw [if_pos h1] at h; omega
    · by_cases h2 : b.toNat < a.toNat
      · rw [if_neg h1, if_pos h2] at h; omega
      · exact UInt8.toNat_inj.1 (by omega)
  tr := by
    intro a b c h1 h2
    unfold byteC at h1 h2 ⊢
    simp only [UInt8.lt_iff_toNat_lt] at h1 h2 ⊢
    split at h1 <;> split at h2 <;> (try split at h1) <;> (try split at h2) <;> split <;> (try split) <;> omega
theorem compareBytes_lex : ∀ a b : List UInt8, Lib.compareBytes a b = lexC byteC a b
  | [], [] => rfl
  | [], _ :: _ => rfl
  | _ :: _, [] => rfl
  | x :: xs, y :: ys => by
    have ih := compareBytes_lex xs ys
    simp only [Lib.compareBytes, lexC]
    by_cases h1 : x < y
    · have e : byteC x y = -1 := by unfold byteC; rw [if_pos h1]
      rw [e, if_pos h1, if_neg (by omega)]
    · by_cases h2 : y < x
      · have e : byteC x y = 1 := by unfold byteC; rw [if_neg h1, if_pos h2]
        rw [e, if_neg h1, if_pos h2, if_neg (by omega)]
      · have e : byteC x y = 0 := by unfold byteC; rw [if_neg h1, if_neg h2]
        rw [e, if_neg h1, if_neg h2, if_pos rfl, ih]
theorem compareBytes_good : Good Lib.compareBytes := by
  have e : Lib.compareBytes = lexC byteC := by funext a b; exact compareBytes_lex a b
  rw [e]
  exact lexC_good byteC_good

/-- The order of two names is the order of their parts. -/
def restL (l : List UInt8) : List (List UInt8) := if l = [] then [] else partsL l
theorem ordL_lex : ∀ (ps : List (List UInt8)) (rest : List UInt8), (∀ p ∈ restL rest, p ≠ []) → ordL ps rest = lexC Lib.compareBytes ps (restL rest)
  | [], rest, _ => by
    unfold restL
    by_cases h0 : rest = []
    · subst h0; rfl
    · rw [if_neg h0, partsL_eq]; simp [ordL, lexC, h0]
  | p :: ps, rest, h => by
    by_cases h0 : rest = []
    · subst h0; rfl
    · have hr : restL rest = (cutP rest).1 :: restL (cutP rest).2.1 := by
        have e : restL rest = (cutP rest).1 :: (if (cutP rest).2.2 = true then partsL (cutP rest).2.1 else []) := by unfold restL; rw [if_neg h0, ← partsL_eq]
        rw [e]
        congr 1
        rcases cutP_index rest with ⟨_, e2⟩ | ⟨i, _, _, e2⟩
        · rw [e2]; rfl
        · have ht : (cutP rest).2.2 = true := by rw [e2]
          rw [if_pos ht]
          unfold restL
          by_cases h3 : (cutP rest).2.1 = []
          · exfalso
            rw [e, if_pos ht, h3] at h
            exact h [] (by simp [partsL]) rfl
          · rw [if_neg h3]
      rw [hr] at h ⊢
      simp only [ordL, lexC]
      rw [if_neg h0]
      by_cases h4 : Lib.compareBytes p (cutP rest).1 = 0
      · rw [if_neg (by simpa using h4), if_pos h4]
        exact ordL_lex ps _ (fun q hq => h q (List.mem_cons_of_mem _ hq))
      · rw [if_pos h4, if_neg h4]
theorem partOk_ne {p : List UInt8} (h : partOk p = true) : p ≠ [] := by
  rintro rfl
  simp [partOk, bnded] at h
theorem right_parts {l : List UInt8} (h : rightN l = true) : l ≠ [] ∧ l.length ≤ 32 ∧ ∀ p ∈ partsL l, p ≠ [] := by
  unfold rightN at h
  simp only [Bool.and_eq_true, decide_eq_true_eq, List.all_eq_true] at h
  refine ⟨fun e => ?_, h.2.1, fun p hp => partOk_ne (h.2.2.2 p hp)⟩
  subst e
  simp at h
theorem orderN_lex (a b : List UInt8) (h : rightN b = true) : orderN a b = lexC Lib.compareBytes (partsL a) (partsL b) := by
  obtain ⟨h0, _, h1⟩ := right_parts h
  unfold orderN
  have e : restL b = partsL b := if_neg h0
  rw [ordL_lex _ _ (by rw [e]; exact h1), e]
theorem names_good : Good (lexC Lib.compareBytes) := lexC_good compareBytes_good
end Go.Proofs.Ytdaalpiiagmdfaa
