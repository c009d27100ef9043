/-
  PLAIN FACTS on the reference's way to read a text: sign by sign. No program is named here.
-/
import Derived.Test.YtapaccbffhcjdaaDoorKeyPlain
namespace Go.Proofs.YtapaccbffhcjdaaDoor
open Go.RowKit
open Go.Lib (decDigits)

/-- The field that is read, and the three numbers. -/
structure PSt where
  at_ : Nat
  n : Nat → Nat
/-- One sign more; none if it is not taken. -/
def pstep (s : PSt) (c : UInt8) : Option PSt :=
  if (c = 64 ∧ s.at_ = 0) ∨ (c = 35 ∧ s.at_ = 1) then some ⟨s.at_ + 1, s.n⟩
  else if (48 ≤ c.toNat ∧ c.toNat ≤ 57) ∧ s.n s.at_ < 1000000000000000 then some ⟨s.at_, fun j => if j = s.at_ then 10 * s.n s.at_ + c.toNat - 48 else s.n j⟩
  else none
def pfold : List UInt8 → PSt → Option PSt
  | [], s => some s
  | c :: l, s => (pstep s c).bind (pfold l)
theorem pfold_append (l m : List UInt8) (s : PSt) : pfold (l ++ m) s = (pfold l s).bind (pfold m) := by
  induction l generalizing s with
  | nil => rfl
  | cons c l ih =>
    show (pstep s c).bind (pfold (l ++ m)) = ((pstep s c).bind (pfold l)).bind (pfold m)
    cases pstep s c with
    | none => rfl
    | some t => exact ih t
theorem pfold_snoc (l : List UInt8) (c : UInt8) (s : PSt) : pfold (l ++ [c]) s = (pfold l s).bind fun t => pstep t c := by
  rw [pfold_append]
  cases pfold l s with
  | none => rfl
  | some t =>
    show (pstep t c).bind (pfold []) = pstep t c
    cases pstep t c <;> rfl
def p0 : PSt := ⟨0, fun _ => 0⟩
theorem pstep_at {s t : PSt} {c : UInt8} (h : pstep s c = some t) (hs : s.at_ ≤ 2) : t.at_ ≤ 2 := by
  unfold pstep at h
  by_cases h1 : (c = 64 ∧ s.at_ = 0) ∨ (c = 35 ∧ s.at_ = 1)
  · rw [if_pos h1] at h; cases h; show s.at_ + 1 ≤ 2; omega
  · rw [if_neg h1] at h
    by_cases h2 : (48 ≤ c.toNat ∧ c.toNat ≤ 57) ∧ s.n s.at_ < 1000000000000000
    · rw [if_pos h2] at h; cases h; exact hs
    · rw [if_neg h2] at h; cases h
theorem pstep_n {s t : PSt} {c : UInt8} (h : pstep s c = some t) (hs : ∀ j, s.n j < 10000000000000000) : ∀ j, t.n j < 10000000000000000 := by
  unfold pstep at h
  intro j
  by_cases h1 : (c = 64 ∧ s.at_ = 0) ∨ (c = 35 ∧ s.at_ = 1)
  · rw [if_pos h1] at h; cases h; exact hs j
  · rw [if_neg h1] at h
    by_cases h2 : (48 ≤ c.toNat ∧ c.toNat ≤ 57) ∧ s.n s.at_ < 1000000000000000
    · rw [if_pos h2] at h; cases h
      show (if j = s.at_ then _ else _) < _
      by_cases e : j = s.at_
      · rw [if_pos e]; omega
      · rw [if_neg e]; exact hs j
    · rw [if_neg h2] at h; cases h
theorem pfold_inv (l : List UInt8) : ∀ {t : PSt}, pfold l p0 = some t → t.at_ ≤ 2 ∧ ∀ j, t.n j < 10000000000000000 := by
  induction l using snoc_ind with
  | nil => intro t h; cases h; exact ⟨by decide, fun j => by show 0 < _; omega⟩
  | snoc l c ih =>
    intro t h
    rw [pfold_snoc] at h
    cases hl : pfold l p0 with
    | none => rw [hl] at h; cases h
    | some s =>
      rw [hl] at h
      obtain ⟨h1, h2⟩ := ih hl
      exact ⟨pstep_at h h1, pstep_n h h2⟩
/-- Digits are taken. -/
theorem pfold_digits (l : List UInt8) (s : PSt) (hd : ∀ c ∈ l, digit c = true) (h0 : s.n s.at_ = 0) (hv : decV l ≤ 281474976710656) :
    pfold l s = some ⟨s.at_, fun j => if j = s.at_ then decV l else s.n j⟩ := by
  induction l using snoc_ind with
  | nil =>
    show some s = _
    congr 1
    cases s with
    | mk a n =>
      simp only [PSt.mk.injEq, true_and]
      funext j
      by_cases e : j = a
      · rw [if_pos e, e]; exact h0
      · rw [if_neg e]
  | snoc l c ih =>
    have hm := decV_mono l [c]
    rw [pfold_snoc, ih (fun x hx => hd x (by simp [hx])) (by omega)]
    have hc := hd c (by simp)
    unfold digit at hc
    have hc := of_decide_eq_true hc
    show pstep _ c = _
    unfold pstep
    have n1 : ¬ ((c = 64 ∧ s.at_ = 0) ∨ (c = 35 ∧ s.at_ = 1)) := by
      rintro (⟨rfl, _⟩ | ⟨rfl, _⟩)
      · exact absurd hc.2 (by decide)
      · exact absurd hc.1 (by decide)
    simp only [if_true]
    rw [if_neg n1, if_pos ⟨hc, by omega⟩]
    congr 1
    simp only [PSt.mk.injEq, true_and]
    funext j
    by_cases e : j = s.at_
    · rw [if_pos e, if_pos e, decV_snoc]; omega
    · rw [if_neg e, if_neg e, if_neg e]
theorem pfold_text {k : Ky} (h : RightK k) : ∃ t, pfold (textK k) p0 = some t ∧ (t.n 0 : Int) = k.1 ∧ (t.n 1 : Int) = k.2.1 ∧ (t.n 2 : Int) = k.2.2 := by
  unfold RightK at h
  have e1 := pfold_digits (decDigits k.1.toNat) p0 (dec_digit _) rfl (by rw [decV_dec]; omega)
  rw [decV_dec] at e1
  have e2 := pfold_digits (decDigits k.2.1.toNat) ⟨1, fun j => if j = 0 then k.1.toNat else 0⟩ (dec_digit _) (by simp) (by rw [decV_dec]; omega)
  rw [decV_dec] at e2
  have e3 := pfold_digits (decDigits k.2.2.toNat) ⟨2, fun j => if j = 1 then k.2.1.toNat else if j = 0 then k.1.toNat else 0⟩ (dec_digit _) (by simp) (by rw [decV_dec]; omega)
  rw [decV_dec] at e3
  have E1 : pfold (decDigits k.1.toNat) p0 = some ⟨0, fun j => if j = 0 then k.1.toNat else 0⟩ := e1
  have E2 : pfold (decDigits k.2.1.toNat) ⟨1, fun j => if j = 0 then k.1.toNat else 0⟩ = some ⟨1, fun j => if j = 1 then k.2.1.toNat else if j = 0 then k.1.toNat else 0⟩ := e2
  have E3 : pfold (decDigits k.2.2.toNat) ⟨2, fun j => if j = 1 then k.2.1.toNat else if j = 0 then k.1.toNat else 0⟩ = some ⟨2, fun j => if j = 2 then k.2.2.toNat else if j = 1 then k.2.1.toNat else if j = 0 then k.1.toNat else 0⟩ := e3
  have s1 : pfold [64] ⟨0, fun j => if j = 0 then k.1.toNat else 0⟩ = some ⟨1, fun j => if j = 0 then k.1.toNat else 0⟩ := rfl
  have s2 : pfold [35] ⟨1, fun j => if j = 1 then k.2.1.toNat else if j = 0 then k.1.toNat else 0⟩ = some ⟨2, fun j => if j = 1 then k.2.1.toNat else if j = 0 then k.1.toNat else 0⟩ := rfl
  refine ⟨⟨2, fun j => if j = 2 then k.2.2.toNat else if j = 1 then k.2.1.toNat else if j = 0 then k.1.toNat else 0⟩, ?_, ?_⟩
  · unfold textK
    rw [pfold_append, pfold_append, pfold_append, pfold_append, E1, Option.bind_some, s1, Option.bind_some, E2, Option.bind_some, s2, Option.bind_some, E3]
  · refine ⟨?_, ?_, ?_⟩
    · simp; omega
    · simp; omega
    · simp; omega
/-- A text of a right key has few signs. -/
theorem dec_few (u : Nat) (n : Nat) (h : u < 10 ^ (n + 1)) : (decDigits u).length ≤ n + 1 := by
  induction n generalizing u with
  | zero => rw [dec_small (by omega)]; simp
  | succ n ih =>
    by_cases h1 : u < 10
    · rw [dec_small h1]; simp
    · have := ih (u / 10) (by rw [Nat.pow_succ] at h; omega)
      rw [dec_big h1, List.length_append, List.length_singleton]
      omega
theorem text_few {k : Ky} (h : RightK k) : (textK k).length ≤ 40 := by
  unfold RightK at h
  have h1 := dec_few k.1.toNat 14 (by omega)
  have h2 := dec_few k.2.1.toNat 1 (by omega)
  have h3 := dec_few k.2.2.toNat 9 (by omega)
  unfold textK
  simp only [List.length_append, List.length_singleton]
  omega
/-- What the reference's Parse says. -/
theorem parse_ok {s : List UInt8} (h : textOk s) : ∃ t, pfold (s.take 40) p0 = some t ∧ (t.n 0 : Int) = (keyT s).1 ∧ (t.n 1 : Int) = (keyT s).2.1 ∧ (t.n 2 : Int) = (keyT s).2.2 := by
  obtain ⟨hr, ht⟩ := textOk_key h
  have := pfold_text hr
  have hf := text_few hr
  rw [ht] at this hf
  rw [List.take_of_length_le hf]
  exact this
end Go.Proofs.YtapaccbffhcjdaaDoor
