/-
  PLAIN, more: what is read of cut forms, of wrong forms and of forms with bytes behind them.
-/
import Derived.Test.YteaeedhhdnkldaaNumSplitB
import Derived.Test.YteaeedhhdnkldaaNumCmp
namespace Go.Proofs.Yteaeedhhdnkldaa
open Go.RowKit Pl

theorem rd_short (x k : Nat) (hx : x < 18446744073709551616) (hk : k < (form x).length) : rd ((form x).take k) = (0, 0, 10) := by
  by_cases h0 : k = 0
  · subst h0; rfl
  · obtain ⟨j, rfl⟩ : ∃ j, k = j + 1 := ⟨k - 1, by omega⟩
    have hx2 : 246 < x := by
      by_cases h : x ≤ 246
      · have : (form x).length = 1 := by unfold form; rw [if_pos h]; rfl
        omega
      · omega
    have hd := digs_length x
    have e : form x = (246 + (digs x).length) :: digs x := by unfold form; rw [if_neg (by omega)]
    rw [e] at hk ⊢
    rw [List.length_cons] at hk
    rw [List.take_succ_cons]
    unfold rd
    have hg : ((246 + (digs x).length) :: (digs x).take j).getD 0 0 = 246 + (digs x).length := rfl
    have hl : ((246 + (digs x).length) :: (digs x).take j).length = j + 1 := by simp; omega
    have e3 : 246 + (digs x).length - 246 = (digs x).length := by omega
    rw [hg, hl, e3, if_neg (by omega), if_neg (by omega), if_pos (by omega)]

/-- One digit 0 more in front. -/
theorem rd_zero_front (d : List Nat) (hd : d.length ≤ 7) : rd ((247 + d.length) :: 0 :: d) = (0, 0, 11) := by
  have hg : ((247 + d.length) :: 0 :: d).getD 0 0 = 247 + d.length := rfl
  have e3 : 247 + d.length - 246 = d.length + 1 := by omega
  unfold rd
  rw [hg, e3, if_neg (by simp), if_neg (by omega), if_neg (by simp), if_neg (by omega), if_neg]
  simp [numOk]
theorem rd_shorter (c : Nat) (hc : c ≤ 246) : rd [247, c] = (0, 0, 11) := by
  unfold rd
  have hg : [247, c].getD 0 0 = 247 := rfl
  rw [hg, if_neg (by simp), if_neg (by omega), if_neg (by simp), if_neg (by omega), if_neg]
  simp [numOk, hc]
theorem rd_255 (l : List Nat) : rd (255 :: l) = (0, 0, 11) := by
  unfold rd
  have hg : (255 :: l).getD 0 0 = 255 := rfl
  rw [hg, if_neg (by simp), if_pos (by omega)]

theorem rd_form' (x : Nat) (h : x < 18446744073709551616) : rd (form x) = (x, (form x).length, 0) := by
  have := rd_form x h []
  rwa [List.append_nil] at this
theorem lastN_form (x : Nat) (h : x < 18446744073709551616) : lastN (form x) = (x, (form x).length, 0) := by
  unfold lastN
  rw [rd_form' x h]
  simp
theorem lastN_err {l : List Nat} {e : Nat} (h : rd l = (0, 0, e)) (he : e ≠ 0) : lastN l = (0, 0, e) := by
  unfold lastN
  rw [h, if_pos he]
theorem lastN_behind (x : Nat) (h : x < 18446744073709551616) (r : List Nat) (hr : r ≠ []) : lastN (form x ++ r) = (0, 0, 11) := by
  have hl : 0 < r.length := List.length_pos_iff.2 hr
  unfold lastN
  rw [rd_form x h r]
  simp only []
  rw [if_neg (by simp), if_pos (by simp; omega)]
theorem intN_err {l : List Nat} {k least most : Int} {e : Nat} (h : rdAt l k = (0, 0, e)) (he : e ≠ 0) : intN l k least most = (0, 0, e) := by
  unfold intN
  rw [h, if_pos he]
theorem intN_in {l : List Nat} {k least most : Int} {x n : Nat} (h : rdAt l k = (x, n, 0)) (h1 : (x : Int) ≤ 9223372036854775807) (h2 : least ≤ x) (h3 : x ≤ most) : intN l k least most = ((x : Int), n, 0) := by
  unfold intN
  rw [h, if_neg (by simp), if_neg (by simp only []; omega)]
theorem intN_out {l : List Nat} {k least most : Int} {x n : Nat} (h : rdAt l k = (x, n, 0)) (h1 : 9223372036854775807 < (x : Int) ∨ (x : Int) < least ∨ most < (x : Int)) : intN l k least most = (0, 0, 12) := by
  unfold intN
  rw [h, if_neg (by simp), if_pos (by simp only []; omega)]
theorem rdAt_nat (l : List Nat) (k : Nat) (h : k ≤ l.length) : rdAt l k = rd (l.drop k) := by
  unfold rdAt
  rw [if_neg (by omega)]
  rfl
theorem rdAt_out {l : List Nat} {k : Int} (h : k < 0 ∨ (l.length : Int) < k) : rdAt l k = (0, 0, 2) := by
  unfold rdAt
  rw [if_pos h]
theorem compareN_err1 {l m : List Nat} {e : Nat} (h : lastN l = (0, 0, e)) (he : e ≠ 0) : compareN l m = (0, e) := by
  unfold compareN; rw [h, if_pos he]
theorem compareN_err2 {l m : List Nat} {x n e : Nat} (h : lastN l = (x, n, 0)) (h2 : lastN m = (0, 0, e)) (he : e ≠ 0) : compareN l m = (0, e) := by
  unfold compareN; rw [h, h2, if_neg (by simp), if_pos he]
theorem compareN_ok {l m : List Nat} {x n y k : Nat} (h : lastN l = (x, n, 0)) (h2 : lastN m = (y, k, 0)) : compareN l m = (cmpI x y, 0) := by
  unfold compareN; rw [h, h2, if_neg (by simp), if_neg (by simp)]
theorem split_bad (x : Nat) (h : x < 18446744073709551616) (b : List Nat) (hb : rd b = (0, 0, 11)) : splitE (form x ++ b) = 11 ∧ splitV (form x ++ b) = [] := by
  have hf := rd_form x h b
  have hbl : b.length ≠ 0 := by intro h0; have : b = [] := List.eq_nil_of_length_eq_zero h0; subst this; simp [rd] at hb
  have hs : sq (form x ++ b) = [(x, 0), (0, 11)] := by
    rw [sq_ok (by rw [List.length_append]; have := (form_length x).1; omega) (by rw [hf]), hf]
    dsimp only
    rw [List.drop_left, sq_err hbl (by rw [hb]; simp), hb]
  have he : splitE (form x ++ b) = 11 := by unfold splitE; rw [hs]; rfl
  refine ⟨he, ?_⟩
  unfold splitV
  rw [he]; simp
end Go.Proofs.Yteaeedhhdnkldaa
