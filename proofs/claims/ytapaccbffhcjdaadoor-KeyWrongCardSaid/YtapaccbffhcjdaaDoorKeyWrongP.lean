/-
  PLAIN FACTS on texts of keys: nine strings made of the text of a key that are no text of one.
-/
import Derived.Test.YtapaccbffhcjdaaDoorKeyLawP
import Derived.Test.YtapaccbffhcjdaaDoorShelf
namespace Go.Proofs.YtapaccbffhcjdaaDoor
open Go Go.RowKit
open Go.Lib (decDigits)

theorem br_some {w : World} {v : Value} {l : List UInt8} (h : BR w v l) (hl : 0 < l.length) : ∃ b o c, v = .slice (some ⟨b, o, none⟩) l.length c ∧ l.length ≤ c ∧ c ≤ maxLen := by
  rcases h with ⟨rfl, _⟩ | ⟨b, o, c, rfl, _, h1, h2, _⟩
  · cases hl
  · exact ⟨b, o, c, rfl, h1, h2⟩
theorem br_take {w : World} {b o n c : Nat} {l : List UInt8} (h : BR w (.slice (some ⟨b, o, none⟩) n c) l) (k : Nat) (hk : k ≤ l.length) : BR w (.slice (some ⟨b, o, none⟩) k c) (l.take k) := by
  rcases h with ⟨rfl, a, c', e, hc⟩ | ⟨b', o', c', e, q1, q2, q3, q4⟩
  · cases e
    obtain rfl : k = 0 := by simpa using hk
    exact .inl ⟨rfl, _, _, rfl, hc⟩
  · cases e
    have hkl : (l.take k).length = k := by simp; omega
    refine .inr ⟨b, o, c, by rw [hkl], q1, by omega, q3, fun j hj => ?_⟩
    rw [q4 j (by omega)]
    have : (l.take k).getD j 0 = l.getD j 0 := by
      rw [List.getD_eq_getElem?_getD, List.getD_eq_getElem?_getD, List.getElem?_take, if_pos (by omega)]
    rw [this]
theorem cutC_none (c : UInt8) (l : List UInt8) (h : ∀ x ∈ l, x ≠ c) : cutC c l = (l, [], false) := by
  induction l with
  | nil => rfl
  | cons x l ih =>
    have hx : ¬ (x == c) = true := by simpa using h x (by simp)
    rw [cutC, if_neg hx, ih fun y hy => h y (by simp [hy])]
theorem pieces_at (X Y : List UInt8) (h : ∀ x ∈ X, x ≠ 64) : piecesL (X ++ 64 :: Y) = (X, (cutC 35 Y).1, (cutC 35 Y).2.1) := by
  unfold piecesL
  rw [cutC_found 64 X Y h]
theorem begun_zero (l : List UInt8) (h : l ≠ []) : begunL (48 :: l) = false := by
  cases l with
  | nil => exact absurd rfl h
  | cons x l => simp [begunL]
theorem dec_ne (n : Nat) : decDigits n ≠ [] := fun h => by
  have := begun_dec n
  rw [h] at this
  exact absurd this (by decide)
theorem no_digit {l : List UInt8} {m : Nat} (c : UInt8) (hc : c ∈ l) (hd : digit c = false) : ¬ numOk l m := fun h => by
  have := h.2.1 c hc
  rw [hd] at this
  cases this
theorem no_begun {l : List UInt8} {m : Nat} (hb : begunL l = false) : ¬ numOk l m := fun h => by
  have := h.1
  rw [hb] at this
  cases this
theorem text_eq (k : Ky) : textK k = decDigits k.1.toNat ++ 64 :: (decDigits k.2.1.toNat ++ 35 :: decDigits k.2.2.toNat) := by simp [textK]
section
variable (k : Ky)
theorem at_free (n : Nat) : ∀ x ∈ decDigits n, x ≠ 64 := fun x hx => (digit_ne (dec_digit _ x hx)).1
theorem sh_free (n : Nat) : ∀ x ∈ decDigits n, x ≠ 35 := fun x hx => (digit_ne (dec_digit _ x hx)).2
theorem wrong1 : ¬ textOk ([48] ++ textK k) := by
  intro h
  have e : [48] ++ textK k = (48 :: decDigits k.1.toNat) ++ 64 :: (decDigits k.2.1.toNat ++ 35 :: decDigits k.2.2.toNat) := by rw [text_eq]; simp
  unfold textOk at h
  rw [e, pieces_at _ _ (fun x hx => by
    rcases List.mem_cons.1 hx with rfl | hx
    · decide
    · exact at_free _ x hx)] at h
  exact no_begun (begun_zero _ (dec_ne _)) h.1
theorem wrong2 : ¬ textOk (textK k ++ [32]) := by
  intro h
  have e : textK k ++ [32] = decDigits k.1.toNat ++ 64 :: (decDigits k.2.1.toNat ++ 35 :: (decDigits k.2.2.toNat ++ [32])) := by rw [text_eq]; simp
  unfold textOk at h
  rw [e, pieces_at _ _ (at_free _), cutC_found 35 _ _ (sh_free _)] at h
  exact no_digit 32 (by simp) (by decide) h.2.2
theorem wrong_first (c : UInt8) (hc : c ≠ 64) (hd : digit c = false) : ¬ textOk ([c] ++ textK k) := by
  intro h
  have e : [c] ++ textK k = (c :: decDigits k.1.toNat) ++ 64 :: (decDigits k.2.1.toNat ++ 35 :: decDigits k.2.2.toNat) := by rw [text_eq]; simp
  unfold textOk at h
  rw [e, pieces_at _ _ (fun x hx => by
    rcases List.mem_cons.1 hx with rfl | hx
    · exact hc
    · exact at_free _ x hx)] at h
  exact no_digit c (by simp) hd h.1
theorem wrong3 : ¬ textOk ([32] ++ textK k) := wrong_first k 32 (by decide) (by decide)
theorem wrong4 : ¬ textOk ([45] ++ textK k) := wrong_first k 45 (by decide) (by decide)
theorem wrong5 : ¬ textOk (textK k ++ [35, 48]) := by
  intro h
  have e : textK k ++ [35, 48] = decDigits k.1.toNat ++ 64 :: (decDigits k.2.1.toNat ++ 35 :: (decDigits k.2.2.toNat ++ [35, 48])) := by rw [text_eq]; simp
  unfold textOk at h
  rw [e, pieces_at _ _ (at_free _), cutC_found 35 _ _ (sh_free _)] at h
  exact no_digit 35 (by simp) (by decide) h.2.2
theorem index_at (A R : List UInt8) (c : UInt8) (h : ∀ x ∈ A, x ≠ c) : Lib.index (A ++ c :: R) [c] = (A.length : Int) := by
  rw [Lib.index_one]
  induction A with
  | nil => simp [Lib.indexByte]
  | cons x A ih =>
    have hx : ¬ (x == c) = true := by simpa using h x (by simp)
    rw [List.cons_append, Lib.indexByte, if_neg hx, ih fun y hy => h y (by simp [hy])]
    rw [if_neg (by simp)]
    simp
theorem replace_at (A R new : List UInt8) (c : UInt8) (h : ∀ x ∈ A, x ≠ c) (hn : ([c] == new) = false) : Lib.replace (A ++ c :: R) [c] new 1 = A ++ new ++ R := by
  have hnum : Lib.replaceNum (A ++ c :: R) [c] 1 = 1 := by
    unfold Lib.replaceNum
    rw [Lib.count_one, if_neg]
    · rfl
    · have : 1 ≤ (A ++ c :: R).count c := by simp; omega
      omega
  unfold Lib.replace
  rw [hn, hnum, Lib.replaceK_hit _ _ 0 _ A.length (index_at A R c h)]
  simp [Lib.replaceK]
theorem rep6 : Lib.replace (textK k) [64] [35] 1 = decDigits k.1.toNat ++ 35 :: (decDigits k.2.1.toNat ++ 35 :: decDigits k.2.2.toNat) := by
  rw [text_eq, replace_at _ _ _ _ (at_free _) (by decide)]; simp
theorem text_eq2 : textK k = (decDigits k.1.toNat ++ 64 :: decDigits k.2.1.toNat) ++ 35 :: decDigits k.2.2.toNat := by simp [textK]
theorem sh_free2 : ∀ x ∈ decDigits k.1.toNat ++ 64 :: decDigits k.2.1.toNat, x ≠ 35 := fun x hx => by
  rcases List.mem_append.1 hx with h | h
  · exact sh_free _ x h
  · rcases List.mem_cons.1 h with rfl | h
    · decide
    · exact sh_free _ x h
theorem rep7 : Lib.replace (textK k) [35] [64] 1 = decDigits k.1.toNat ++ 64 :: (decDigits k.2.1.toNat ++ 64 :: decDigits k.2.2.toNat) := by
  rw [text_eq2, replace_at _ _ _ _ (sh_free2 k) (by decide)]; simp
theorem rep8 : Lib.replace (textK k) [35] [35, 48] 1 = decDigits k.1.toNat ++ 64 :: (decDigits k.2.1.toNat ++ 35 :: (48 :: decDigits k.2.2.toNat)) := by
  rw [text_eq2, replace_at _ _ _ _ (sh_free2 k) (by decide)]; simp
theorem wrong6 : ¬ textOk (Lib.replace (textK k) [64] [35] 1) := by
  intro h
  unfold textOk at h
  rw [rep6] at h
  unfold piecesL at h
  rw [cutC_none 64 _ (fun x hx => by
    rcases List.mem_append.1 hx with h | h
    · exact at_free _ x h
    · rcases List.mem_cons.1 h with rfl | h
      · decide
      · rcases List.mem_append.1 h with h | h
        · exact at_free _ x h
        · rcases List.mem_cons.1 h with rfl | h
          · decide
          · exact at_free _ x h)] at h
  exact no_digit 35 (by simp) (by decide) h.1
theorem wrong7 : ¬ textOk (Lib.replace (textK k) [35] [64] 1) := by
  intro h
  unfold textOk at h
  rw [rep7, pieces_at _ _ (at_free _), cutC_none 35 _ (fun x hx => by
    rcases List.mem_append.1 hx with h | h
    · exact sh_free _ x h
    · rcases List.mem_cons.1 h with rfl | h
      · decide
      · exact sh_free _ x h)] at h
  exact no_digit 64 (by simp) (by decide) h.2.1
theorem wrong8 : ¬ textOk (Lib.replace (textK k) [35] [35, 48] 1 ++ [48]) := by
  intro h
  have e : Lib.replace (textK k) [35] [35, 48] 1 ++ [48] = decDigits k.1.toNat ++ 64 :: (decDigits k.2.1.toNat ++ 35 :: (48 :: (decDigits k.2.2.toNat ++ [48]))) := by rw [rep8]; simp
  unfold textOk at h
  rw [e, pieces_at _ _ (at_free _), cutC_found 35 _ _ (sh_free _)] at h
  exact no_begun (begun_zero _ (by simp)) h.2.2
theorem index9 : Lib.indexByte (textK k ++ [35]) 35 = ((decDigits k.1.toNat ++ 64 :: decDigits k.2.1.toNat).length : Int) := by
  have e : textK k ++ [35] = (decDigits k.1.toNat ++ 64 :: decDigits k.2.1.toNat) ++ 35 :: (decDigits k.2.2.toNat ++ [35]) := by rw [text_eq2]; simp
  rw [← Lib.index_one, e, index_at _ _ _ (sh_free2 k)]
theorem take9 : (textK k).take (decDigits k.1.toNat ++ 64 :: decDigits k.2.1.toNat).length = decDigits k.1.toNat ++ 64 :: decDigits k.2.1.toNat := by
  rw [text_eq2, List.take_left']
  rfl
theorem wrong9 : ¬ textOk (decDigits k.1.toNat ++ 64 :: decDigits k.2.1.toNat) := by
  intro h
  unfold textOk at h
  rw [pieces_at _ _ (at_free _), cutC_none 35 _ (sh_free _)] at h
  exact no_begun (l := []) (by decide) h.2.2
end
end Go.Proofs.YtapaccbffhcjdaaDoor
