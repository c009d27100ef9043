/-
  PLAIN FACTS on the order of bytes: the bytes of keys are in the keys' order. No program is named here.
-/
import Derived.Test.YtapaccbffhcjdaaDoorKeyPlain
namespace Go.Proofs.YtapaccbffhcjdaaDoor
open Go.RowKit

def lexB : List UInt8 → List UInt8 → Int
  | [], [] => 0
  | [], _ :: _ => -1
  | _ :: _, [] => 1
  | a :: l, b :: m => if a.toNat < b.toNat then -1 else if b.toNat < a.toNat then 1 else lexB l m
theorem numL_append (a : List UInt8) (b : List UInt8) : numL (a ++ b) = numL a * 256 ^ b.length + numL b := by
  induction b using snoc_ind with
  | nil => simp [numL]
  | snoc b c ih =>
    rw [← List.append_assoc, numL_snoc, numL_snoc, ih, List.length_append, List.length_singleton, Nat.pow_succ, Nat.add_mul, Nat.mul_assoc]
    omega
theorem numL_cons (a : UInt8) (l : List UInt8) : numL (a :: l) = a.toNat * 256 ^ l.length + numL l := by
  have := numL_append [a] l
  simpa [numL] using this
theorem lexB_num : ∀ l m : List UInt8, l.length = m.length → lexB l m = if numL l < numL m then -1 else if numL m < numL l then 1 else 0
  | [], [], _ => by simp [lexB]
  | [], _ :: _, h => by simp at h
  | _ :: _, [], h => by simp at h
  | a :: l, b :: m, h => by
    have hl : l.length = m.length := by simpa using h
    have ih := lexB_num l m hl
    have h1 := numL_lt l
    have h2 := numL_lt m
    rw [numL_cons, numL_cons, hl]
    rw [hl] at h1
    generalize 256 ^ m.length = p at h1 h2 ⊢
    unfold lexB
    by_cases c1 : a.toNat < b.toNat
    · have : (a.toNat + 1) * p ≤ b.toNat * p := Nat.mul_le_mul_right _ c1
      rw [Nat.add_mul, Nat.one_mul] at this
      rw [if_pos c1, if_pos (by omega)]
    · rw [if_neg c1]
      by_cases c2 : b.toNat < a.toNat
      · have : (b.toNat + 1) * p ≤ a.toNat * p := Nat.mul_le_mul_right _ c2
        rw [Nat.add_mul, Nat.one_mul] at this
        rw [if_pos c2, if_neg (by omega), if_pos (by omega)]
      · rw [if_neg c2, ih, show a.toNat = b.toNat by omega]
        simp only [Nat.add_lt_add_iff_left]
theorem bytes_num {k : Ky} (h : RightK k) : (numL (bytesK k) : Int) = (k.1 * 256 + k.2.1) * 4294967296 + k.2.2 := by
  unfold RightK at h
  unfold bytesK
  rw [numL_append, numL_append, numL_be, numL_be, numL_be, beL_length, beL_length]
  simp only [Nat.reducePow]
  omega
theorem lex_bytes {a b : Ky} (ha : RightK a) (hb : RightK b) : lexB (bytesK a) (bytesK b) = cfK a b := by
  rw [lexB_num _ _ (by rw [bytesK_length, bytesK_length])]
  have e1 := bytes_num ha
  have e2 := bytes_num hb
  have i1 : numL (bytesK a) < numL (bytesK b) ↔ LessK a b := by
    unfold RightK at ha hb; unfold LessK; omega
  have i2 : numL (bytesK b) < numL (bytesK a) ↔ LessK b a := by
    unfold RightK at ha hb; unfold LessK; omega
  unfold cfK
  simp only [i1, i2]
theorem bytesK_inj {a b : Ky} (ha : RightK a) (hb : RightK b) (h : bytesK a = bytesK b) : a = b := by
  rw [← keyB_bytes ha, h, keyB_bytes hb]
theorem textK_inj {a b : Ky} (ha : RightK a) (hb : RightK b) : textK a = textK b ↔ a = b :=
  ⟨fun h => by rw [← (textOk_text ha).2, h, (textOk_text hb).2], fun h => by rw [h]⟩
theorem lexB_diff (i : Nat) : ∀ l m : List UInt8, i < l.length → i < m.length → (∀ j, j < i → l.getD j 0 = m.getD j 0) → l.getD i 0 ≠ m.getD i 0 → lexB l m = if (l.getD i 0).toNat < (m.getD i 0).toNat then -1 else 1 := by
  induction i with
  | zero =>
    intro l m h1 h2 _ hne
    cases l with
    | nil => simp at h1
    | cons x l =>
      cases m with
      | nil => simp at h2
      | cons y m =>
        rw [List.getD_cons_zero, List.getD_cons_zero] at hne ⊢
        have hn : x.toNat ≠ y.toNat := fun e => hne (UInt8.toNat_inj.1 e)
        unfold lexB
        by_cases h : x.toNat < y.toNat
        · rw [if_pos h, if_pos h]
        · rw [if_neg h, if_neg h, if_pos (by omega)]
  | succ i ih =>
    intro l m h1 h2 hj hne
    cases l with
    | nil => simp at h1
    | cons x l =>
      cases m with
      | nil => simp at h2
      | cons y m =>
        have e0 : x = y := by simpa using hj 0 (by omega)
        subst e0
        rw [List.getD_cons_succ, List.getD_cons_succ] at hne ⊢
        unfold lexB
        rw [if_neg (Nat.lt_irrefl _), if_neg (Nat.lt_irrefl _)]
        exact ih l m (by simpa using h1) (by simpa using h2) (fun j hjj => by simpa using hj (j + 1) (by omega)) hne
theorem lexB_pre : ∀ l m : List UInt8, (∀ j, j < l.length → j < m.length → l.getD j 0 = m.getD j 0) → lexB l m = if l.length < m.length then -1 else if m.length < l.length then 1 else 0
  | [], [], _ => by simp [lexB]
  | [], _ :: _, _ => by simp [lexB]
  | _ :: _, [], _ => by simp [lexB]
  | x :: l, y :: m, h => by
    have e0 : x = y := by simpa using h 0 (by simp) (by simp)
    subst e0
    unfold lexB
    rw [if_neg (Nat.lt_irrefl _), if_neg (Nat.lt_irrefl _), lexB_pre l m (fun j h1 h2 => by simpa using h (j + 1) (by simp; omega) (by simp; omega))]
    simp
end Go.Proofs.YtapaccbffhcjdaaDoor
