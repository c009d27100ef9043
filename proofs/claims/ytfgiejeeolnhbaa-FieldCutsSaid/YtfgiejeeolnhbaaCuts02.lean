/-
  PLAIN: what is read of a form that is cut off, and of a form with more behind it.
-/
import Derived.Test.YtfgiejeeolnhbaaRec02
namespace Go.Proofs.Ytfgiejeeolnhbaa
open Go.RowKit Pl

theorem own8_emptyAt {X : World} {base g : Nat} (h : X.heap[g]? = some (.cells #[] 5 (0, 0))) (hb : base ≤ g) : Own8 X base (.slice (some ⟨g, 0, none⟩) 0 0) [] :=
  ⟨rfl, .inr ⟨g, 0, #[], rfl, hb, h, Nat.le_refl _, Nat.zero_le _, rfl, rfl⟩⟩
theorem cut_cell {X w6 : World} {g c n b off : Nat} {u : Value} (hg : X.grownBy w6 (Value.slice (some ⟨g, 0, none⟩) n c).ownBlock) (hc : X.cell? ⟨b, off, none⟩ = some u) (hne : b ≠ g) : w6.cell? ⟨b, off, none⟩ = some u :=
  hg.cell hc (by simpa [Value.ownBlock] using hne)
theorem cut_row {X w6 : World} {g c n g2 n2 c2 : Nat} {l : List Nat} (hg : X.grownBy w6 (Value.slice (some ⟨g, 0, none⟩) n c).ownBlock) (hr : BRow X (.slice (some ⟨g2, 0, none⟩) n2 c2) l) (hne : g2 ≠ g) : BRow w6 (.slice (some ⟨g2, 0, none⟩) n2 c2) l :=
  hr.grown hg fun b off cap e => by
    cases e
    simpa [Value.ownBlock] using hne
/-- What an append at the block g leaves as it was. -/
theorem below_keep {X w6 : World} {g c n : Nat} (hg : X.grownBy w6 (Value.slice (some ⟨g, 0, none⟩) n c).ownBlock) : X.os = w6.os ∧ X.tape = w6.tape ∧ X.output = w6.output ∧ X.heap.size ≤ w6.heap.size ∧ ∀ k, k < X.heap.size → k ≠ g → w6.heap[k]? = X.heap[k]? :=
  ⟨hg.os.symm, hg.tape.symm, hg.output.symm, hg.size, fun k hk hne => hg.block k hk (by simpa [Value.ownBlock] using hne)⟩
/-- The room that is left behind fields. -/
def roomB (L : List Fld) (a : Int) : Int := match L.getLast? with
  | none => a
  | some p => p.1
theorem roomB_cons (p : Fld) (L : List Fld) (a : Int) : roomB (p :: L) a = roomB L p.1 := by
  cases L with
  | nil => rfl
  | cons q L => rfl
theorem roomB_ge (L : List Fld) : ∀ a, tagsF a L = true → a ≤ roomB L a := by
  induction L with
  | nil => intro a _; exact Int.le_refl _
  | cons p L ih =>
    intro a h
    simp only [tagsF, Bool.and_eq_true, decide_eq_true_eq] at h
    rw [roomB_cons]
    have := ih p.1 h.2
    omega
/-- Behind right fields reading goes on with the room that is left. -/
theorem rd_behind (L : List Fld) : ∀ (x : Nat) (n m : Nat) (b : Int) (r : List Nat), 0 ≤ b → m ≤ 16384 → fits n m b L = true →
    rdRes n m b (fsqA x (recF L ++ r)) = rdRes (n - L.length) (m - sumB L) (roomB L b) (fsqA (x + (recF L).length) r) ∧ (fsqA x (recF L ++ r)).map ylF = L ++ (fsqA (x + (recF L).length) r).map ylF := by
  induction L with
  | nil => intro x n m b r _ _ _; exact ⟨by simp [recF, sumB, roomB], by simp [recF]⟩
  | cons p L ih =>
    intro x n m b r hb hm hf
    simp only [fits, Bool.and_eq_true] at hf
    have ht := hf.1
    simp only [takeOk, decide_eq_true_eq] at ht
    have e0 : recF (p :: L) ++ r = recOne p ++ (recF L ++ r) := by rw [recF_cons, List.append_assoc]
    have hlen : 0 < (recF (p :: L) ++ r).length := by rw [e0]; simp [recOne]
    have hF := firstN_form p (recF L ++ r) (by omega)
    rw [← e0] at hF
    have hne : (firstN (recF (p :: L) ++ r)).2.2 ≠ 0 := by rw [hF]; simp [recOne]
    have hs := fsqA_step x hlen hne
    rw [hF] at hs
    dsimp only at hs
    have hd : (recF (p :: L) ++ r).drop (recOne p).length = recF L ++ r := by rw [e0, List.drop_left]
    rw [hd] at hs
    obtain ⟨i1, i2⟩ := ih (x + (recOne p).length) (n - 1) (m - p.2.length) p.1 r (by omega) (by omega) hf.2
    have et : ((p.1.toNat : Nat) : Int) = p.1 := by omega
    have el : x + (recF (p :: L)).length = x + (recOne p).length + (recF L).length := by rw [recF_cons, List.length_append]; omega
    rw [hs, el]
    constructor
    · rw [rdRes]
      dsimp only
      rw [et, if_pos hf.1, i1, roomB_cons]
      have e1 : n - 1 - L.length = n - (p :: L).length := by simp; omega
      have e2 : m - p.2.length - sumB L = m - sumB (p :: L) := by simp only [sumB]; omega
      rw [e1, e2]
    · rw [List.map_cons, i2]
      simp only [ylF, et, List.cons_append]
/-- A part of a field is none. -/
theorem firstN_part (p : Fld) (k : Nat) (hp : p.2.length ≤ 16384) (h : k < (recOne p).length) : firstN ((recOne p).take k) = (0, [], 0) := by
  have hl : (recOne p).length = 1 + (form p.2.length).length + p.2.length := by simp [recOne]; omega
  cases k with
  | zero => simp [firstN, rd]
  | succ j =>
    have e0 : ((recOne p).take (j + 1)).drop 1 = (form p.2.length ++ p.2).take j := by simp [recOne]
    have elen : ((recOne p).take (j + 1)).length = j + 1 := by rw [List.length_take]; omega
    unfold firstN
    rw [e0, elen]
    by_cases hj : j < (form p.2.length).length
    · have e1 : (form p.2.length ++ p.2).take j = (form p.2.length).take j := by rw [List.take_append_of_le_length (by omega)]
      rw [e1, rd_short p.2.length j (by omega) hj]
      exact if_pos (.inl (by simp))
    · have e1 : (form p.2.length ++ p.2).take j = form p.2.length ++ p.2.take (j - (form p.2.length).length) := by
        rw [List.take_append, List.take_of_length_le (by omega)]
      rw [e1, rd_form p.2.length (by omega)]
      dsimp only
      exact if_pos (.inr (.inr (by omega)))

/-- How many whole fields there are in so many bytes, at most. -/
def wholeF : List Fld → Nat → Nat
  | [], _ => 0
  | p :: L, k => if (recOne p).length ≤ k then 1 + wholeF L (k - (recOne p).length) else 0
theorem wholeF_le (L : List Fld) : ∀ k, wholeF L k ≤ L.length := by
  induction L with
  | nil => intro k; exact Nat.le_refl _
  | cons p L ih => intro k; simp only [wholeF]; split <;> simp; have := ih (k - (recOne p).length); omega
/-- The bytes that are cut off at k: whole fields, and a part of the next one. -/
theorem cut_parts (L : List Fld) : ∀ k, k ≤ (recF L).length → (recF (L.take (wholeF L k))).length ≤ k ∧ (recF L).take k = recF (L.take (wholeF L k)) ++ (recF (L.drop (wholeF L k))).take (k - (recF (L.take (wholeF L k))).length) ∧
    (wholeF L k < L.length → k - (recF (L.take (wholeF L k))).length < (recOne (ft L (wholeF L k), fb L (wholeF L k))).length) ∧ (wholeF L k = L.length → k = (recF L).length) := by
  induction L with
  | nil => intro k hk; simp [recF] at hk; subst hk; simp [recF, wholeF]
  | cons p L ih =>
    intro k hk
    rw [recF_cons, List.length_append] at hk
    by_cases h : (recOne p).length ≤ k
    · have e : wholeF (p :: L) k = wholeF L (k - (recOne p).length) + 1 := by simp only [wholeF]; rw [if_pos h]; omega
      obtain ⟨i1, i2, i3, i4⟩ := ih (k - (recOne p).length) (by omega)
      rw [e, List.take_succ_cons, List.drop_succ_cons, recF_cons, recF_cons, List.length_append]
      refine ⟨by omega, ?_, fun hw => ?_, fun hw => ?_⟩
      · rw [List.take_append, List.take_of_length_le h, i2, List.append_assoc]
        congr 3
        omega
      · have := i3 (by simpa using hw)
        have e1 : ft (p :: L) (wholeF L (k - (recOne p).length) + 1) = ft L (wholeF L (k - (recOne p).length)) := by simp [ft]
        have e2 : fb (p :: L) (wholeF L (k - (recOne p).length) + 1) = fb L (wholeF L (k - (recOne p).length)) := by simp [fb]
        rw [e1, e2]
        omega
      · have := i4 (by simpa using hw)
        rw [List.length_append]
        omega
    · have e : wholeF (p :: L) k = 0 := by simp only [wholeF]; rw [if_neg h]
      rw [e]
      refine ⟨by simp [recF], by simp [recF], fun _ => ?_, fun hw => by simp at hw⟩
      have e1 : (ft (p :: L) 0, fb (p :: L) 0) = p := rfl
      rw [e1]
      simp [recF]; omega
theorem whole_iff (L : List Fld) : ∀ k j, j ≤ L.length → ((recF (L.take j)).length ≤ k ↔ j ≤ wholeF L k) := by
  induction L with
  | nil => intro k j hj; obtain rfl : j = 0 := Nat.le_zero.1 hj; simp [recF, wholeF]
  | cons p L ih =>
    intro k j hj
    cases j with
    | zero => simp [recF]
    | succ j =>
      rw [List.take_succ_cons, recF_cons, List.length_append]
      simp only [wholeF]
      by_cases h : (recOne p).length ≤ k
      · rw [if_pos h]
        have := ih (k - (recOne p).length) j (by simpa using hj)
        omega
      · rw [if_neg h]; omega
theorem next_length (L : List Fld) (j : Nat) (hj : j < L.length) : (recF (L.take (j + 1))).length = (recF (L.take j)).length + 1 + (form (fb L j).length).length + (fb L j).length := by
  rw [recF_take L j hj]; simp; omega
/-- What is read of bytes that are cut off. -/
theorem read_cut (L : List Fld) (hr : rightF L = true) (k : Nat) (hk : k ≤ (recF L).length) :
    ((recF (L.take (wholeF L k))).length = k → readE ((recF L).take k) = none ∧ readV ((recF L).take k) = L.take (wholeF L k)) ∧ ((recF (L.take (wholeF L k))).length ≠ k → readE ((recF L).take k) = some (recF (L.take (wholeF L k))).length) := by
  obtain ⟨c1, c2, c3, c4⟩ := cut_parts L k hk
  have hw := wholeF_le L k
  have hfit : ∀ j, fits 64 16384 0 (L.take j) = true := fun j => by
    have h := (rightF_iff L).1 hr
    rw [fits_eq]
    have h1 : tagsF 0 (L.take j) = true := by
      have : ∀ (M : List Fld) (a : Int) (j : Nat), tagsF a M = true → tagsF a (M.take j) = true := by
        intro M
        induction M with
        | nil => intro a j _; simp [tagsF]
        | cons q M ih =>
          intro a j hM
          cases j with
          | zero => rfl
          | succ j =>
            simp only [tagsF, Bool.and_eq_true, List.take_succ_cons] at hM ⊢
            exact ⟨hM.1, ih _ _ hM.2⟩
      exact this L 0 j h.2.1
    have h2 := sumB_take L j
    rw [h1, decide_eq_true (show (L.take j).length ≤ 64 by rw [List.length_take]; omega), decide_eq_true (show sumB (L.take j) ≤ 16384 by omega)]
    rfl
  constructor
  · intro e
    have e2 : (recF L).take k = recF (L.take (wholeF L k)) := by rw [c2, e]; simp
    rw [e2]
    exact read_form _ (hfit _)
  · intro e
    have hlt : wholeF L k < L.length := by
      by_cases h : wholeF L k = L.length
      · have := c4 h
        rw [h, List.take_length] at e
        omega
      · omega
    have c3' := c3 hlt
    have ed : recF (L.drop (wholeF L k)) = recOne (ft L (wholeF L k), fb L (wholeF L k)) ++ recF (L.drop (wholeF L k + 1)) := by
      rw [List.drop_eq_getElem_cons hlt, recF_cons]
      have : (ft L (wholeF L k), fb L (wholeF L k)) = L[wholeF L k] := by simp [ft, fb, List.getD_eq_getElem?_getD, hlt]
      rw [this]
    have et : (recF (L.drop (wholeF L k))).take (k - (recF (L.take (wholeF L k))).length) = (recOne (ft L (wholeF L k), fb L (wholeF L k))).take (k - (recF (L.take (wholeF L k))).length) := by
      rw [ed, List.take_append_of_le_length (by omega)]
    rw [et] at c2
    have hp : (fb L (wholeF L k)).length ≤ 16384 := (right_lens hr).2 _ hlt
    have hb := (rd_behind (L.take (wholeF L k)) 0 64 16384 0 ((recOne (ft L (wholeF L k), fb L (wholeF L k))).take (k - (recF (L.take (wholeF L k))).length)) (by omega) (by omega) (hfit _)).1
    have hz := firstN_part (ft L (wholeF L k), fb L (wholeF L k)) (k - (recF (L.take (wholeF L k))).length) hp c3'
    have hlen : 0 < ((recOne (ft L (wholeF L k), fb L (wholeF L k))).take (k - (recF (L.take (wholeF L k))).length)).length := by rw [List.length_take]; omega
    rw [fsqA_zero _ hlen (by rw [hz])] at hb
    have hta := roomB_ge (L.take (wholeF L k)) 0 (by have := (fits_eq (L.take (wholeF L k)) 64 16384 0).symm.trans (hfit _); simp only [Bool.and_eq_true] at this; exact this.1.2)
    unfold readE fsq
    rw [c2, hb, rdRes]
    rw [if_neg (by simp [takeOk]; omega)]
    rw [Nat.zero_add]
/-- The first field once more, at the end. -/
theorem read_twice (p : Fld) (L : List Fld) (hr : rightF (p :: L) = true) : readE (recF (p :: L) ++ [p.1.toNat, 0]) = some (recF (p :: L)).length := by
  have hb := (rd_behind (p :: L) 0 64 16384 0 [p.1.toNat, 0] (by omega) (by omega) hr).1
  have ht := right_tags hr p (by simp)
  have hF : firstN [p.1.toNat, 0] = (p.1.toNat, [], 2) := by
    have := firstN_form (p.1, []) [] (by simp)
    simpa [recOne, form] using this
  have hs := fsqA_step (0 + (recF (p :: L)).length) (l := [p.1.toNat, 0]) (by simp) (by rw [hF]; simp)
  rw [hF] at hs
  dsimp only at hs
  have hge : p.1 ≤ roomB (p :: L) 0 := by
    rw [roomB_cons]
    have h := (rightF_iff (p :: L)).1 hr
    have h2 := h.2.1
    simp only [tagsF, Bool.and_eq_true] at h2
    exact roomB_ge L p.1 h2.2
  unfold readE fsq
  rw [hb, hs, rdRes]
  dsimp only
  rw [if_neg (by simp [takeOk]; omega)]
  rw [Nat.zero_add]
end Go.Proofs.Ytfgiejeeolnhbaa
