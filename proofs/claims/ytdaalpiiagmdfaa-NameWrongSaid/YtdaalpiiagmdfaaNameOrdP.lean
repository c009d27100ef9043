/-
  PLAIN: the order of names; a name is its parts; what is under what.
-/
import Derived.Test.YtdaalpiiagmdfaaNameMadeP
import Derived.Test.YtdaalpiiagmdfaaNameUnd
import Derived.Test.YtdaalpiiagmdfaaNameJoin
import Derived.Test.YtdaalpiiagmdfaaNameParts2
namespace Go.Proofs.Ytdaalpiiagmdfaa
open Go.RowKit Go.Shelf

theorem ord_anti {a b : List UInt8} (ra : rightN a = true) (rb : rightN b = true) : orderN b a = - orderN a b := by
  rw [orderN_lex b a ra, orderN_lex a b rb]
  exact names_good.anti _ _
theorem ord_refl {a : List UInt8} (ra : rightN a = true) : orderN a a = 0 := by rw [orderN_lex a a ra]; exact names_good.refl _
theorem ord_zero {a b : List UInt8} (rb : rightN b = true) (h : orderN a b = 0) : a = b := by
  rw [orderN_lex a b rb] at h
  have e := names_good.eq _ _ h
  rw [← joinP_parts a, e, joinP_parts]
theorem ord_tr {a b c : List UInt8} (rb : rightN b = true) (rc : rightN c = true) (h1 : orderN a b ≤ 0) (h2 : orderN b c ≤ 0) : orderN a c ≤ 0 := by
  rw [orderN_lex a b rb] at h1
  rw [orderN_lex b c rc] at h2
  rw [orderN_lex a c rc]
  exact names_good.tr _ _ _ h1 h2
theorem lexC_pre {α : Type} {f : α → α → Int} (h : Good f) : ∀ A T : List α, lexC f A (A ++ T) ≤ 0
  | [], [] => by simp [lexC]
  | [], _ :: _ => by simp [lexC]
  | a :: A, T => by
    show lexC f (a :: A) (a :: (A ++ T)) ≤ 0
    simp only [lexC]
    rw [if_pos (h.refl a)]
    exact lexC_pre h A T
theorem und_ge {a b : List UInt8} (ra : rightN a = true) (rb : rightN b = true) (h : undN a b = true) : 0 ≤ orderN a b := by
  obtain ⟨T, hT⟩ := (undN_iff a b).1 h
  have h1 := lexC_pre compareBytes_good (partsL b) T
  rw [hT, ← orderN_lex b a ra, ord_anti ra rb] at h1
  omega
theorem count_parts (a : List UInt8) : (partsL a).length = a.count 46 + 1 := by
  induction a with
  | nil => rfl
  | cons c a ih =>
    have e : partsL (c :: a) = if c == 46 then [] :: partsL a else match partsL a with
      | [] => [[c]]
      | p :: ps => (c :: p) :: ps := rfl
    rw [e]
    by_cases hc : (c == 46) = true
    · rw [if_pos hc, List.length_cons, ih]
      have : c = 46 := by simpa using hc
      subst this
      simp
    · rw [if_neg hc]
      have hne : c ≠ 46 := by simpa using hc
      rw [List.count_cons_of_ne hne]
      cases hp : partsL a with
      | nil => exact absurd hp (partsL_ne a)
      | cons p ps =>
        rw [hp] at ih
        simpa using ih
theorem glued_joinP : ∀ l : List (List UInt8), glued l = joinP l
  | [] => rfl
  | [p] => by simp [glued, Lib.join, joinP]
  | p :: q :: ps => by
    have ih := glued_joinP (q :: ps)
    unfold glued at ih ⊢
    show Lib.join (p :: q :: ps) [46] = p ++ 46 :: joinP (q :: ps)
    rw [← ih]
    simp [Lib.join]
theorem join_back {a : List UInt8} (ra : rightN a = true) : joinV (partsL a) = a ∧ joinE (partsL a) = 0 := by
  have hg : glued (partsL a) = a := by rw [glued_joinP, joinP_parts]
  have hok : joinOk (partsL a) = true := by
    unfold joinOk
    rw [hg, ra, count_parts]
    simp
  unfold joinV joinE
  rw [if_pos hok, if_pos hok, hg]
  exact ⟨rfl, rfl⟩
theorem parts_made (p : Nat) : partsV (madeN p) = partsL (madeN p) ∧ partsE (madeN p) = 0 := by
  unfold partsV partsE
  rw [if_pos (made_right p), if_pos (made_right p)]
  exact ⟨rfl, rfl⟩
theorem compare_made (p q : Nat) : compareN (madeN p) (madeN q) = orderN (madeN p) (madeN q) ∧ compareE (madeN p) (madeN q) = 0 := by
  unfold compareN compareE
  rw [made_right, made_right]
  exact ⟨rfl, rfl⟩
theorem under_made (p q : Nat) : underN (madeN p) (madeN q) = undN (madeN p) (madeN q) := by
  unfold underN
  rw [made_right, made_right]
  rfl
/-- What lies between two names under one's first part is under it, too. -/
theorem between_made (p q r : Nat) (hx : orderN (madeN p) (madeN q) ≤ 0) (hz : orderN (madeN q) (madeN r) ≤ 0) (h : underN (madeN r) (nm p) = true) : underN (madeN q) (nm p) = true := by
  unfold underN at h ⊢
  rw [made_right] at h ⊢
  simp only [Bool.true_and, Bool.and_eq_true] at h ⊢
  refine ⟨h.1, ?_⟩
  rw [undN_iff] at h ⊢
  obtain ⟨a1, -, -, -⟩ := nm_parts p
  have h2 := h.2
  rw [a1] at h2 ⊢
  rw [orderN_lex _ _ (made_right q)] at hx
  rw [orderN_lex _ _ (made_right r)] at hz
  refine prefix_between compareBytes_good _ _ _ ?_ hz h2
  refine names_good.tr _ _ _ ?_ hx
  rw [made_parts p]
  exact lexC_pre compareBytes_good [nm p] _
theorem under_tr (a b c : List UInt8) (h1 : undN a b = true) (h2 : undN c a = true) : undN c b = true := by
  rw [undN_iff] at *
  exact h1.trans h2
theorem madeP_len (p : Nat) : 1 ≤ (partsL (madeN p)).length ∧ (partsL (madeN p)).length ≤ 3 := by
  rw [made_parts]
  unfold madeP
  rw [List.length_cons, List.length_append]
  split <;> split <;> simp
/-- The row of a call's own strings, to be read. -/
theorem trow_own {w : World} {base : Nat} {v : Value} {l : List (List UInt8)} (h : w.ownsRow base 9 1 v l.length (l.map str)) : TRow w v l := by
  obtain ⟨hlen, ⟨rfl, hn⟩ | ⟨g, cap, cur, rfl, h1, h2, h3, h4, h5, h6⟩⟩ := h
  · exact .inl ⟨List.eq_nil_of_length_eq_zero hn, none, 0, rfl⟩
  · refine .inr ⟨g, 0, cap, rfl, (Array.getElem?_eq_some_iff.1 h2).1, h3, fun i x hx => ?_⟩
    rw [Nat.zero_add, cell_of_row w g i cur _ (0, 0) h2]
    have hi : i < l.length := (List.getElem?_eq_some_iff.1 hx).1
    have e : (cur.toList.take (l.length * 1))[i]? = (l.map str)[i]? := by rw [h6]
    rw [List.getElem?_take, if_pos (by omega)] at e
    simp only [Array.getElem?_toList] at e
    rw [e, List.getElem?_map, hx]
    rfl
theorem lexC_range {α : Type} {f : α → α → Int} (h : ∀ a b, -1 ≤ f a b ∧ f a b ≤ 1) : ∀ A B : List α, -1 ≤ lexC f A B ∧ lexC f A B ≤ 1
  | [], [] => by simp [lexC]
  | [], _ :: _ => by simp [lexC]
  | _ :: _, [] => by simp [lexC]
  | a :: A, b :: B => by
    simp only [lexC]
    split
    · exact lexC_range h A B
    · exact h a b
theorem byteC_range (a b : UInt8) : -1 ≤ byteC a b ∧ byteC a b ≤ 1 := by
  unfold byteC
  repeat' split
  all_goals omega
theorem ord_range (p q : Nat) : -1 ≤ orderN (madeN p) (madeN q) ∧ orderN (madeN p) (madeN q) ≤ 1 := by
  rw [orderN_lex _ _ (made_right q)]
  refine lexC_range (fun a b => ?_) _ _
  rw [compareBytes_lex]
  exact lexC_range byteC_range a b
end Go.Proofs.Ytdaalpiiagmdfaa
