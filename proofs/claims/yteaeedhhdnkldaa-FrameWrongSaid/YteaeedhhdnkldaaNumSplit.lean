/-
  CONTRACT of num.Split: what the plain function 'splitN' says of the bytes; nothing that was there is written. (Its loop goes over the iterator that num.forms makes.)
-/
import Derived.Test.YteaeedhhdnkldaaNumAll
import Derived.Test.YteaeedhhdnkldaaNumLast
import Derived.RangeFuncBox
import Derived.RangeFuncLeaves
import Derived.RangeFuncNested
import Derived.RangeFuncBound
import Derived.RangeFuncCalls
import Derived.Shelf.Abstract
import Derived.OwnWalkIn
import Derived.TacticsInMore
import Derived.LoopNIn
import Derived.LoopIn
namespace Go.Proofs.Yteaeedhhdnkldaa
open Go.RowKit Go.Shelf Pl

attribute [local go_sem] Oper.semAt_some

/-! What is yielded: the numbers with 0, up to the first error, which comes with 0. -/
def sqF : Nat → List Nat → List (Nat × Nat)
  | 0, _ => []
  | n + 1, l => if l.length = 0 then [] else if (rd l).2.2 ≠ 0 then [(0, (rd l).2.2)] else ((rd l).1, 0) :: sqF n (l.drop (rd l).2.1)
def sq (l : List Nat) : List (Nat × Nat) := sqF l.length l
theorem rd_size (l : List Nat) (h : (rd l).2.2 = 0) : 1 ≤ (rd l).2.1 := by
  revert h
  unfold rd
  split
  · simp
  split
  · simp
  split
  · simp
  split
  · simp
  split
  · intro _; dsimp only; omega
  · simp
theorem rd_zero (l : List Nat) (h : (rd l).2.2 ≠ 0) : (rd l).1 = 0 := by
  revert h
  unfold rd
  split
  · simp
  split
  · simp
  split
  · simp
  split
  · simp
  split <;> simp
theorem sqF_more (n : Nat) : ∀ (l : List Nat) (m : Nat), l.length ≤ n → l.length ≤ m → sqF n l = sqF m l := by
  induction n with
  | zero => intro l m h1 _; have : l = [] := List.eq_nil_of_length_eq_zero (by omega); subst this; cases m <;> simp [sqF]
  | succ n ih =>
    intro l m h1 h2
    cases m with
    | zero => have : l = [] := List.eq_nil_of_length_eq_zero (by omega); subst this; simp [sqF]
    | succ m =>
      unfold sqF
      split
      · rfl
      split
      · rfl
      · rename_i h0 h3
        have := rd_size l (by simpa using h3)
        rw [ih (l.drop (rd l).2.1) m (by simp; omega) (by simp; omega)]
theorem sq_nil : sq [] = [] := rfl
theorem sq_err {l : List Nat} (h0 : l.length ≠ 0) (h : (rd l).2.2 ≠ 0) : sq l = [(0, (rd l).2.2)] := by
  unfold sq
  cases hl : l.length with
  | zero => exact absurd hl h0
  | succ n => unfold sqF; rw [if_neg h0, if_pos h]
theorem sq_ok {l : List Nat} (h0 : l.length ≠ 0) (h : (rd l).2.2 = 0) : sq l = ((rd l).1, 0) :: sq (l.drop (rd l).2.1) := by
  unfold sq
  cases hl : l.length with
  | zero => exact absurd hl h0
  | succ n =>
    rw [sqF, if_neg h0, if_neg (by simpa using h)]
    congr 1
    have := rd_size l h
    exact sqF_more _ _ _ (by simp; omega) (Nat.le_refl _)

def encF (x : Nat × Nat) : Array Value := #[.int .u64 (x.1 : Int), .int .i64 (x.2 : Int)]

theorem rd_len (l : List Nat) (hb : AllB l) : (rd l).2.1 ≤ l.length := (rd_range l hb).2
/-- What a round that goes on must keep. -/
def KpB (n₀ Bs : Nat) (A B : World) : Prop := Below n₀ A B ∧ B.heap[Bs]? = A.heap[Bs]?

set_option maxRecDepth 100000 in
set_option maxHeartbeats 2000000 in
theorem forms1_in (n : Nat) (hn : 1 ≤ n) (l Bs : Nat) (sv : Value) (bs : List Nat) (w0 : World) (hrow : BRow w0 sv bs) (J Jx : List (Nat × Nat) → World → Prop)
    (hY : ∀ pre x W, J pre W → pre.length < (sq bs).length → YieldAt Fence.wide (n - 1) Try.prog l (encF x) W fun e W' =>
      (e = .returned (.bool true) ∧ J (pre ++ [x]) W' ∧ KpB w0.heap.size Bs W W') ∨ (e = .returned (.bool false) ∧ Jx (pre ++ [x]) W'))
    (W : World) (hB : Below w0.heap.size w0 W) (hbox : Boxed W Bs 22 sv) (h0 : J [] W) :
    CallsIn Fence.wide n Try.prog 138 #[.func (.yield l) #[] #[], .pointer (some ⟨Bs, 0, none⟩)] W fun e W' => (∃ v, e = .returned v) ∧
      ((∃ ys, ys = sq bs ∧ J ys W') ∨ (∃ pre, pre <+: sq bs ∧ Jx pre W')) := by
  have hlen := hrow.len_le
  obtain ⟨sa, sc, hsv⟩ := hrow.shape
  have hR0 := Lib.hid hrow
  have hY0 := Lib.hid hY
  have hSV := Lib.hid hsv
  clear hrow hY hsv
  refine callsIn_of_wp Try.func138 rfl trivial ?_ rfl
  simp only [Try.ntmps138, List.size_toArray, List.length_cons, List.length_nil, Nat.reduceAdd, Nat.reduceSub, Array.replicate_succ, Array.replicate_zero, List.push_toArray, List.append_toArray, List.nil_append, List.cons_append]
  gi_wp2
  gi_loopw [3] (fun i wr => ∃ (pre : List (Nat × Nat)) (k : Nat), k ≤ bs.length ∧ i = .int .i64 k ∧ sq bs = pre ++ sq (bs.drop k) ∧ J pre wr ∧ Below w0.heap.size w0 wr ∧ Boxed wr Bs 22 sv) (fun i _ => bs.length - (intOf i).toNat)
  case atStart => exact ⟨[], 0, by omega, rfl, rfl, h0, hB, hbox⟩
  case round =>
    obtain ⟨pre, k, hk, rfl, hsq, hJs, hbel, hbx⟩ := hrel
    have hS := Lib.hid hsq
    have hBX := Lib.hid hbx
    have hBEL := Lib.hid hbel
    have hJS := Lib.hid hJs
    have hcell := hbx.cell
    rw [hSV.out] at hcell
    clear hsq hbx hbel hJs hbox hB
    by_cases hlt : k < bs.length
    · have hrd := Lib.hid (read_in sv bs wr (hR0.out.below hBEL.out) k hlt)
      have hl1 := Lib.hid (rd_len (bs.drop k) (hR0.out.1.drop k))
      have hsz := Lib.hid (rd_size (bs.drop k))
      have hz := Lib.hid (rd_zero (bs.drop k))
      have herr := Lib.hid (sq_err (l := bs.drop k) (by simp; omega))
      have hok := Lib.hid (sq_ok (l := bs.drop k) (by simp; omega))
      rw [hSV.out] at hrd
      obtain ⟨x, n2, er, hr⟩ : ∃ x n2 er, rd (bs.drop k) = (x, n2, er) := ⟨_, _, _, rfl⟩
      rw [hr] at hrd hl1 hsz hz herr hok
      dsimp only at hrd hl1 hsz hz herr hok
      have hl1' := hl1.out
      rw [List.length_drop] at hl1'
      clear hr hl1
      by_cases her : er = 0
      · subst her
        have hs1 := hsz.out rfl
        have hne : ((0 : Int) != 0) = false := rfl
        have hsq2 : sq bs = (pre ++ [(x, 0)]) ++ sq (bs.drop (k + n2)) := by
          have := hS.out
          rw [hok.out rfl, List.drop_drop] at this
          rw [this]; simp
        have hS2 := Lib.hid hsq2; clear hsq2 hok herr hz hsz
        obtain ⟨fn, tmps, assign, body, hy, hR⟩ := hY0.out pre (x, 0) wr hJS.out (by rw [hS2.out]; simp)
        simp only [encF, Int.natCast_zero] at hy hrd
        have hfrom : ∀ w3, KpB w0.heap.size Bs wr w3 → Below w0.heap.size w0 w3 ∧ Boxed w3 Bs 22 sv := fun w3 h => ⟨hBEL.out.trans h.1, h.2.trans hBX.out⟩
        have hFR := Lib.hid hfrom; clear hfrom
        gi_wp2_with (refine ⟨trivial, ?_⟩; gi_at_call 50; refine (callsIn_wide.2 hrd.out).mono ?_; rintro e w' ⟨rfl, rfl⟩)
        refine hR.mono ?_
        rintro e W3 (⟨rfl, hJ3, hk3⟩ | ⟨rfl, hJx3⟩)
        · have hJ3' := Lib.hid hJ3
          have hk3' := Lib.hid (hFR.out _ hk3)
          clear hJ3 hk3
          gi_wp2
          go_roundw
          case rel => exact ⟨pre ++ [(x, 0)], k + n2, by omega, by go_num, hS2.out, hJ3'.out, hk3'.out.1, hk3'.out.2⟩
          case measure => simp [intOf]; omega
        · gi_wp2
          refine bodyPost_ret (results_none rfl _ _ _) rfl ?_
          exact ⟨⟨_, rfl⟩, .inr ⟨pre ++ [(x, 0)], ⟨_, hS2.out.symm⟩, hJx3⟩⟩
      · have hne : ((er : Int) != 0) = true := by rw [bne_iff_ne]; omega
        obtain rfl : x = 0 := hz.out her
        have hsq2 : sq bs = pre ++ [(0, er)] := by
          have := hS.out
          rw [herr.out her] at this
          exact this
        have hS2 := Lib.hid hsq2; clear hsq2 hok herr hz hsz her
        obtain ⟨fn, tmps, assign, body, hy, hR⟩ := hY0.out pre (0, er) wr hJS.out (by rw [hS2.out]; simp)
        simp only [encF, Int.natCast_zero] at hy hrd
        gi_wp2_with (refine ⟨trivial, ?_⟩; gi_at_call 50; refine (callsIn_wide.2 hrd.out).mono ?_; rintro e w' ⟨rfl, rfl⟩)
        refine hR.mono ?_
        rintro e W3 (⟨rfl, hJ3, hk3⟩ | ⟨rfl, hJx3⟩)
        · have hJ3' := Lib.hid hJ3
          clear hJ3 hk3
          gi_wp2
          refine bodyPost_ret (results_none rfl _ _ _) rfl ?_
          exact ⟨⟨_, rfl⟩, .inl ⟨pre ++ [(0, er)], hS2.out.symm, hJ3'.out⟩⟩
        · gi_wp2
          refine bodyPost_ret (results_none rfl _ _ _) rfl ?_
          exact ⟨⟨_, rfl⟩, .inr ⟨pre ++ [(0, er)], by rw [hS2.out]; exact List.prefix_rfl, hJx3⟩⟩
    · obtain rfl : k = bs.length := by omega
      have hfin : sq bs = pre := by have := hS.out; rw [List.drop_length, sq_nil, List.append_nil] at this; exact this
      have hF := Lib.hid hfin; clear hfin
      gi_wp2
      go_end0
      exact ⟨⟨_, rfl⟩, .inl ⟨pre, hF.out.symm, hJS.out⟩⟩
end Go.Proofs.Yteaeedhhdnkldaa
