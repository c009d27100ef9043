/-
  CONTRACTS of name.parts and of the iterator that it makes: the parts of a string, one by one.
-/
import Derived.Test.YtdaalpiiagmdfaaName1
import Derived.RangeFuncBox
import Derived.RangeFuncLeaves
import Derived.RangeFuncNested
import Derived.RangeFuncBound
import Derived.RangeFuncCalls
import Derived.Shelf.Abstract
import Derived.OwnWalkIn
import Derived.TacticsInMore
import Derived.LoopNIn
import Derived.LoopIn
namespace Go.Proofs.Ytdaalpiiagmdfaa
open Go.RowKit Go.Shelf

attribute [local go_sem] Oper.semAt_some

theorem grown_below {w w' : World} (h : Below w.heap.size w w') (row : Option Nat) : w.grownBy w' row := ⟨h.os, h.tape, h.output, h.size, fun k hk _ => h.block k hk⟩
/-- A part, not endless. -/
abbrev Pt := { x : List UInt8 // x.length ≤ 1000000 }
def encS (x : Pt) : Array Value := #[str x.1]
/-- What a round that goes on must keep. -/
def KpN (n₀ Bs : Nat) (A B : World) : Prop := Below n₀ A B ∧ B.heap[Bs]? = A.heap[Bs]?

set_option maxRecDepth 100000 in
set_option maxHeartbeats 1000000 in
theorem parts_in (n : Nat) (s : List UInt8) (w : World) :
    CallsIn Fence.wide n Try.prog 45 #[str s] w fun e w' => e = .returned (.func (.func 67) #[] #[.pointer (some ⟨w.heap.size, 0, none⟩)]) ∧ w' = w.alloc (.cells #[str s] 9) := by
  unfold str
  refine callsIn_of_wp Try.func45 rfl trivial ?_ rfl
  simp only [Try.ntmps45, List.size_toArray, List.length_cons, List.length_nil, Nat.reduceAdd, Nat.reduceSub, Array.replicate_succ, Array.replicate_zero, List.push_toArray, List.append_toArray, List.nil_append, List.cons_append]
  gi_wp2
  go_ret
  exact ⟨rfl, rfl⟩

theorem partsL_left (pre : List (List UInt8)) (s r : List UInt8) (h : partsL s = pre ++ partsL r) : partsL s = (pre ++ [(cutP r).1]) ++ (if (cutP r).2.2 = true then partsL (cutP r).2.1 else []) := by
  rw [h, partsL_eq r]
  simp

set_option maxRecDepth 100000 in
set_option maxHeartbeats 2000000 in
theorem parts1_in (n : Nat) (hn : 1 ≤ n) (l Bs : Nat) (s : List UInt8) (hs : s.length ≤ 1000000) (w0 : World) (J Jx : List Pt → World → Prop) (W : World) (hJA : AbidesFrom W.heap.size J)
    (hY : ∀ pre x W, J pre W → pre.length < (partsL s).length → YieldAt Fence.wide (n - 1) Try.prog l (encS x) W fun e W' =>
      (e = .returned (.bool true) ∧ J (pre ++ [x]) W' ∧ KpN w0.heap.size Bs W W') ∨ (e = .returned (.bool false) ∧ Jx (pre ++ [x]) W'))
    (hB : Below w0.heap.size w0 W) (hbox : Boxed W Bs 9 (str s)) (h0 : J [] W) :
    CallsIn Fence.wide n Try.prog 67 #[.func (.yield l) #[] #[], .pointer (some ⟨Bs, 0, none⟩)] W fun e W' => (∃ v, e = .returned v) ∧
      ((∃ ys : List Pt, ys.map (·.1) = partsL s ∧ J ys W') ∨ (∃ pre : List Pt, pre.map (·.1) <+: partsL s ∧ Jx pre W')) := by
  have hY0 := Lib.hid hY
  have hJ0 := Lib.hid (fun s A B (h : J s A) (hg : A.grownBy B none) => hJA s A B none h hg (fun r e => by cases e))
  have hcell := hbox.cell
  have HB0 := Lib.hid hB
  have HX0 := Lib.hid hbox
  have HJ00 := Lib.hid h0
  clear hY hJA hB hbox h0
  refine callsIn_of_wp Try.func67 rfl trivial ?_ rfl
  simp only [Try.ntmps67, List.size_toArray, List.length_cons, List.length_nil, Nat.reduceAdd, Nat.reduceSub, Array.replicate_succ, Array.replicate_zero, List.push_toArray, List.append_toArray, List.nil_append, List.cons_append]
  gi_wp2
  gi_loopw [3, 4] (fun rv mv wr => ∃ (pre : List Pt) (r : List UInt8) (more : Bool), r.length ≤ 1000000 ∧ rv = str r ∧ mv = .bool more ∧ partsL s = pre.map (·.1) ++ (if more = true then partsL r else []) ∧ J pre wr ∧ Below w0.heap.size w0 wr ∧ Boxed wr Bs 9 (str s)) (fun rv mv _ => match rv, mv with | .string x, .bool true => x.size + 1 | _, _ => 0)
  case atStart => exact ⟨[], s, true, hs, rfl, rfl, rfl, HJ00.out, HB0.out, HX0.out⟩
  case round =>
    obtain ⟨pre, r, more, hr, rfl, rfl, hsq, hJs, hbel, hbx⟩ := hrel
    have hS := Lib.hid hsq
    have hBX := Lib.hid hbx
    have hBEL := Lib.hid hbel
    have hJS := Lib.hid hJs
    clear hsq hbx hbel hJs hcell
    cases more with
    | false =>
      have hfin : pre.map (·.1) = partsL s := by have := hS.out; rw [if_neg (by decide), List.append_nil] at this; exact this.symm
      have HF := Lib.hid hfin
      clear hfin
      gi_wp2
      refine bodyPost_end (results_none rfl _ _ _) rfl ?_
      exact ⟨⟨_, rfl⟩, .inl ⟨pre, HF.out, hJS.out⟩⟩
    | true =>
      have hS1 := hS.out
      rw [if_pos rfl] at hS1
      have hS2 := partsL_left (pre.map (·.1)) s r hS1
      have hpl : pre.length < (partsL s).length := by rw [hS2, List.length_append, List.length_append, List.length_map]; simp; omega
      have HCut := Lib.hid (fun (W : World) => cut_calls r W (by omega))
      obtain ⟨q1, q2, q3⟩ := cutP_le r
      have HS2 := Lib.hid hS2
      have HPl := Lib.hid hpl
      have HQ3 := Lib.hid q3
      clear hS1 hS2 hpl q3
      generalize (cutP r).1 = p at *
      generalize (cutP r).2.1 = r2 at *
      generalize (cutP r).2.2 = m2 at *
      unfold str at *
      gi_wp2_with fail
      refine ⟨trivial, ?_⟩
      refine (callsIn_wide.2 (HCut.out _)).mono ?_
      rintro e w2 ⟨rfl, hb2⟩
      have HWy := Lib.hid (hBEL.out.trans (hb2.mono hBEL.out.size))
      have HBy := Lib.hid ((hb2.block Bs hBX.out.lt).trans hBX.out)
      have HJy := Lib.hid (hJ0.out pre wr _ hJS.out (grown_below hb2 none))
      obtain ⟨fn, tmps, assign, body, hy, hR⟩ := hY0.out pre ⟨p, by omega⟩ _ HJy.out HPl.out
      simp only [encS, str] at hy
      have HR := Lib.hid hR
      clear hR hb2
      gi_wp2_with fail
      refine HR.out.mono ?_
      rintro e W3 (⟨rfl, hJ3, hk3⟩ | ⟨rfl, hJx3⟩)
      · have HJ3 := Lib.hid hJ3
        have HK3 := Lib.hid (And.intro (HWy.out.trans hk3.1) (hk3.2.trans HBy.out))
        clear hJ3 hk3
        gi_wp2
        go_roundw
        case rel => exact ⟨pre ++ [⟨p, by omega⟩], r2, m2, by omega, rfl, rfl, by rw [HS2.out]; simp, HJ3.out, HK3.out.1, HK3.out.2⟩
        case measure =>
          have h3 := HQ3.out
          have e1 : (⟨r2.toArray⟩ : ByteArray).size = r2.length := by simp [ByteArray.size]
          have e2 : (⟨r.toArray⟩ : ByteArray).size = r.length := by simp [ByteArray.size]
          cases m2 with
          | false => show 0 < (⟨r.toArray⟩ : ByteArray).size + 1; omega
          | true =>
            have := h3 rfl
            show (⟨r2.toArray⟩ : ByteArray).size + 1 < (⟨r.toArray⟩ : ByteArray).size + 1
            omega
      · gi_wp2
        refine bodyPost_ret (results_none rfl _ _ _) rfl ?_
        exact ⟨⟨_, rfl⟩, .inr ⟨pre ++ [⟨p, by omega⟩], ⟨_, by rw [HS2.out]; simp; rfl⟩, hJx3⟩⟩
theorem parts_stops (n : Nat) (hn : 1 ≤ n) (Bs : Nat) (s : List UInt8) (hs : s.length ≤ 1000000) (w0 w : World) (hB : Below w0.heap.size w0 w) (hbox : Boxed w Bs 9 (str s)) :
    SeqStopsK Fence.wide n Try.prog 67 #[.pointer (some ⟨Bs, 0, none⟩)] encS (KpN w0.heap.size Bs) (fun ys : List Pt => ys.map (·.1) = partsL s) (fun pre : List Pt => pre.map (·.1) <+: partsL s) (partsL s).length w := fun l J Jx W hW hJ _ hY h0 =>
  parts1_in n hn l Bs s hs w0 J Jx W hJ hY (hB.trans (hW.mono hB.size)) ((hW.block Bs hbox.lt).trans hbox) h0
end Go.Proofs.Ytdaalpiiagmdfaa
