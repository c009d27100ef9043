/-
  CONTRACT of the iterator of frame.frames: the bodies of bytes as frames, and where each frame ends.
-/
import Derived.Test.YteaeedhhdnkldaaFrameA
import Derived.Test.YteaeedhhdnkldaaFieldSeq
namespace Go.Proofs.Yteaeedhhdnkldaa
open Go.RowKit Go.Shelf Pl

attribute [local go_sem] Oper.semAt_some

abbrev Bl := Nat × List Nat
def frF : Nat → Nat → List Nat → List Bl
  | 0, _, _ => []
  | n + 1, a, l => if ferr l ≠ 0 then [] else (a + fsize l, fbody l) :: frF n (a + fsize l) (l.drop (fsize l))
def frA (a : Nat) (l : List Nat) : List Bl := frF (l.length + 1) a l
def frq (l : List Nat) : List Bl := frA 0 l
theorem bnd_pos {l : List Nat} {f t : Nat} (h : bnd l = some (f, t)) : 1 ≤ t := by
  unfold bnd at h
  split at h
  · simp at h; omega
  · split at h
    · simp at h; omega
    split at h
    · split at h
      · simp at h; omega
      · split at h
        · simp at h
        · simp at h; omega
    split at h
    · split at h
      · simp at h; omega
      · split at h
        · simp at h
        · simp at h; omega
      · split at h
        · simp at h
        · simp at h; omega
    · simp at h
theorem fsize_pos {l : List Nat} (h : ferr l = 0) : 1 ≤ fsize l := by
  unfold ferr at h
  unfold fsize
  split at h
  · simp at h
  · rename_i f t hb
    split at h
    · simp at h
    · rename_i hlt
      rw [if_neg hlt]
      exact bnd_pos hb
theorem ferr_nil : ferr [] = 30 := rfl
theorem frF_more (n : Nat) : ∀ (a : Nat) (l : List Nat) (m : Nat), l.length < n → l.length < m → frF n a l = frF m a l := by
  induction n with
  | zero => intro a l m h1; omega
  | succ n ih =>
    intro a l m h1 h2
    cases m with
    | zero => omega
    | succ m =>
      unfold frF
      split
      · rfl
      · rename_i he
        have h0 : ferr l = 0 := by simpa using he
        have h3 := fsize_pos h0
        have h4 := fsize_le (l := l)
        congr 1
        exact ih _ _ _ (by rw [List.length_drop]; omega) (by rw [List.length_drop]; omega)
theorem frA_end (a : Nat) {l : List Nat} (h : ferr l ≠ 0) : frA a l = [] := by
  unfold frA frF
  rw [if_pos h]
theorem frA_step (a : Nat) {l : List Nat} (h : ferr l = 0) : frA a l = (a + fsize l, fbody l) :: frA (a + fsize l) (l.drop (fsize l)) := by
  have h3 := fsize_pos h
  have h4 := fsize_le (l := l)
  unfold frA
  rw [frF, if_neg (by simpa using h)]
  congr 1
  exact frF_more _ _ _ _ (by rw [List.length_drop]; omega) (by omega)
theorem frA_length (n : Nat) : ∀ (a : Nat) (l : List Nat), l.length ≤ n → (frA a l).length ≤ l.length := by
  induction n with
  | zero => intro a l h; have : l = [] := List.eq_nil_of_length_eq_zero (by omega); subst this; rw [frA_end a (by rw [ferr_nil]; decide)]; simp
  | succ n ih =>
    intro a l h
    by_cases he : ferr l = 0
    · have h3 := fsize_pos he
      have h4 := fsize_le (l := l)
      rw [frA_step a he, List.length_cons]
      have := ih (a + fsize l) (l.drop (fsize l)) (by rw [List.length_drop]; omega)
      rw [List.length_drop] at this
      omega
    · rw [frA_end a he]; simp
theorem frq_length (l : List Nat) : (frq l).length ≤ l.length := frA_length _ 0 l (Nat.le_refl _)

/-- What the loop's body is handed: where the frame ends, the body as a value, and what it reads as. -/
def Yb (w0 : World) : Type := { x : Nat × Value × List Nat // x.1 ≤ 1000000 ∧ x.2.2.length ≤ 16384 ∧ BRow w0 x.2.1 x.2.2 }
def Yb.bl {w0 : World} (x : Yb w0) : Bl := (x.1.1, x.1.2.2)
def encB {w0 : World} (x : Yb w0) : Array Value := #[.int .i64 (x.1.1 : Int), x.1.2.1]

set_option maxRecDepth 100000 in
set_option maxHeartbeats 1000000 in
theorem frames_in (n : Nat) (a : Option Addr) (len cap : Nat) (w : World) :
    CallsIn Fence.wide n Try.prog 102 #[.slice a len cap] w fun e w' => e = .returned (.func (.func 132) #[] #[.pointer (some ⟨w.heap.size, 0, none⟩)]) ∧ w' = w.alloc (.cells #[.slice a len cap] 22) := by
  refine callsIn_of_wp Try.func102 rfl trivial ?_ rfl
  simp only [Try.ntmps102, List.size_toArray, List.length_cons, List.length_nil, Nat.reduceAdd, Nat.reduceSub, Array.replicate_succ, Array.replicate_zero, List.push_toArray, List.append_toArray, List.nil_append, List.cons_append]
  gi_wp2
  go_ret
  exact ⟨rfl, rfl⟩

set_option maxRecDepth 100000 in
set_option maxHeartbeats 2000000 in
theorem frames1_in (n : Nat) (hn : 1 ≤ n) (l Bs : Nat) (sv : Value) (bs : List Nat) (w0 : World) (hrow : BRow w0 sv bs) (hlen : bs.length ≤ 1000000) (J Jx : List (Yb w0) → World → Prop) (W : World) (hJA : AbidesFrom W.heap.size J)
    (hY : ∀ pre x W, J pre W → pre.length < (frq bs).length → YieldAt Fence.wide (n - 1) Try.prog l (encB x) W fun e W' =>
      (e = .returned (.bool true) ∧ J (pre ++ [x]) W' ∧ KpB w0.heap.size Bs W W') ∨ (e = .returned (.bool false) ∧ Jx (pre ++ [x]) W'))
    (hB : Below w0.heap.size w0 W) (hbox : Boxed W Bs 22 sv) (h0 : J [] W) :
    CallsIn Fence.wide n Try.prog 132 #[.func (.yield l) #[] #[], .pointer (some ⟨Bs, 0, none⟩)] W fun e W' => (∃ v, e = .returned v) ∧
      ((∃ ys : List (Yb w0), ys.map Yb.bl = frq bs ∧ J ys W') ∨ (∃ pre : List (Yb w0), pre.map Yb.bl <+: frq bs ∧ Jx pre W')) := by
  obtain ⟨sa, sc, hsv⟩ := hrow.shape
  have hR0 := Lib.hid hrow
  have hY0 := Lib.hid hY
  have hSV := Lib.hid hsv
  have hJ0 := Lib.hid (fun s A B (h : J s A) (hg : A.grownBy B none) => hJA s A B none h hg (fun r e => by cases e))
  have hcap : bs.length ≤ sc ∧ sc ≤ maxLen := by
    subst hsv
    obtain ⟨_, ⟨_, _, e, rfl, h⟩ | ⟨_, _, _, e, h1, h3, _⟩⟩ := hrow
    · cases e; exact ⟨Nat.zero_le _, h⟩
    · cases e; exact ⟨h1, h3⟩
  obtain ⟨hc1, hc2⟩ := hcap
  unfold maxLen at hc2
  clear hrow hY hsv hJA
  refine callsIn_of_wp Try.func132 rfl trivial ?_ rfl
  simp only [Try.ntmps132, List.size_toArray, List.length_cons, List.length_nil, Nat.reduceAdd, Nat.reduceSub, Array.replicate_succ, Array.replicate_zero, List.push_toArray, List.append_toArray, List.nil_append, List.cons_append]
  gi_wp2
  gi_loopw [3] (fun i wr => ∃ (pre : List (Yb w0)) (k : Nat), k ≤ bs.length ∧ i = .int .i64 k ∧ frq bs = pre.map Yb.bl ++ frA k (bs.drop k) ∧ J pre wr ∧ Below w0.heap.size w0 wr ∧ Boxed wr Bs 22 sv) (fun i _ => bs.length - (intOf i).toNat)
  case atStart => exact ⟨[], 0, by omega, rfl, rfl, h0, hB, hbox⟩
  case round =>
    obtain ⟨pre, k, hk, rfl, hsq, hJs, hbel, hbx⟩ := hrel
    have hS := Lib.hid hsq
    have hBX := Lib.hid hbx
    have hBEL := Lib.hid hbel
    have hJS := Lib.hid hJs
    have hcell := hbx.cell
    rw [hSV.out] at hcell
    clear hsq hbx hbel hJs hbox hB
    have hck : (k : Int) ≤ (sc : Int) := by omega
    have hkl : (k : Int) ≤ (bs.length : Int) := by omega
    by_cases hb0 : bs.length = 0
    · have hbs : bs = [] := List.eq_nil_of_length_eq_zero hb0
      subst hbs
      obtain rfl : k = 0 := by simpa using hk
      have hf := Lib.hid (fun (ad : Option Addr) (c : Nat) (hc : c ≤ sc) (W : World) => firstB_calls (.slice ad 0 c) [] W (BRow.empty ad c (by unfold maxLen; omega)))
      have hne : ((30 : Int) != 0) = true := rfl
      rw [show fsize [] = 0 from rfl, show ferr [] = 30 from rfl] at hf
      clear hb0
      have hfin : pre.map Yb.bl = frq [] := by have := hS.out; rw [List.drop_nil, frA_end 0 (by rw [ferr_nil]; decide), List.append_nil] at this; exact this.symm
      have HF := Lib.hid hfin
      clear hfin
      cases sa with
      | none =>
        gi_wp2_with (refine ⟨trivial, ?_⟩; gi_at_call 104; refine (callsIn_wide.2 (hf.out _ _ (by omega) _)).mono ?_; rintro e w2 ⟨v2, rfl, hrow2, hb2⟩; have HJ2 := Lib.hid (hJ0.out pre wr w2 hJS.out (grownBy_of_below hb2 none)); clear hrow2 hb2)
        refine ⟨(fun _ e => (by cases e)), ?_⟩
        gi_wp2
        refine bodyPost_ret (results_none rfl _ _ _) rfl ?_
        exact ⟨⟨_, rfl⟩, .inl ⟨pre, HF.out, HJ2.out⟩⟩
      | some a =>
        obtain ⟨b, off, sp⟩ := a
        gi_wp2_with (refine ⟨trivial, ?_⟩; gi_at_call 104; refine (callsIn_wide.2 (hf.out _ _ (by omega) _)).mono ?_; rintro e w2 ⟨v2, rfl, hrow2, hb2⟩; have HJ2 := Lib.hid (hJ0.out pre wr w2 hJS.out (grownBy_of_below hb2 none)); clear hrow2 hb2)
        refine ⟨(fun _ e => (by cases e)), ?_⟩
        gi_wp2
        refine bodyPost_ret (results_none rfl _ _ _) rfl ?_
        exact ⟨⟨_, rfl⟩, .inl ⟨pre, HF.out, HJ2.out⟩⟩
    obtain ⟨hall, ⟨_, _, _, e, _⟩ | ⟨b, off, cap, hsv2, hc, hm, -⟩⟩ := hR0.out
    · rw [e] at hb0; simp at hb0
    rw [hSV.out] at hsv2
    simp only [Value.slice.injEq, true_and] at hsv2
    obtain ⟨rfl, rfl⟩ := hsv2
    clear hc hm hb0
    by_cases hsk : sc = k
    · subst hsk
      have hbe : bs.drop sc = [] := List.drop_eq_nil_of_le (by omega)
      have hf := Lib.hid (fun (c n : Nat) (hc : c ≤ sc) (hn : n = 0) (W : World) => firstB_calls (.slice (some ⟨b, off, none⟩) n c) [] W (by subst hn; exact BRow.empty _ c (by unfold maxLen; omega)))
      have hne : ((30 : Int) != 0) = true := rfl
      rw [show fsize [] = 0 from rfl, show ferr [] = 30 from rfl] at hf
      have hfin : pre.map Yb.bl = frq bs := by have := hS.out; rw [hbe, frA_end sc (by rw [ferr_nil]; decide), List.append_nil] at this; exact this.symm
      have HF := Lib.hid hfin
      clear hfin hbe hall
      gi_wp2_with (refine ⟨trivial, ?_⟩; gi_at_call 104; refine (callsIn_wide.2 (hf.out _ _ (by omega) (by omega) _)).mono ?_; rintro e w2 ⟨v2, rfl, hrow2, hb2⟩; have HJ2 := Lib.hid (hJ0.out pre wr w2 hJS.out (grownBy_of_below hb2 none)); clear hrow2 hb2)
      refine ⟨(fun _ e => (by cases e)), ?_⟩
      gi_wp2
      refine bodyPost_ret (results_none rfl _ _ _) rfl ?_
      exact ⟨⟨_, rfl⟩, .inl ⟨pre, HF.out, HJ2.out⟩⟩
    have hrow2 : ∀ W0, BRow W0 sv bs → BRow W0 (.slice (some ⟨b, off + k, none⟩) (bs.length - k) (sc - k)) (bs.drop k) := fun W0 h => by
      rw [hSV.out] at h
      exact h.drop k _ _ _ (by omega) rfl rfl (by omega) (by unfold maxLen; omega)
    have HRow2 := Lib.hid hrow2
    have HFC := Lib.hid (fun W' (hb : Below w0.heap.size w0 W') => firstB_calls _ _ W' (hrow2 W' (hR0.out.below hb)))
    have hsz := fsize_le (l := bs.drop k)
    rw [List.length_drop] at hsz
    have hfl := Lib.hid (fbody_len (hall.drop k))
    have hok := Lib.hid (frA_step k (l := bs.drop k))
    have herr := Lib.hid (frA_end k (l := bs.drop k))
    have hpos := Lib.hid (fsize_pos (l := bs.drop k))
    rw [List.drop_drop] at hok
    generalize fsize (bs.drop k) = fsz at *
    generalize fbody (bs.drop k) = fbs at *
    generalize hfe : ferr (bs.drop k) = fe at *
    clear hrow2 hfe hall
    by_cases hf0 : fe = 0
    · subst hf0
      simp only [Int.natCast_zero] at HFC
      have hne : ((0 : Int) != 0) = false := rfl
      have hp1 := hpos.out rfl
      have hsq2 := hok.out rfl
      have hpl : pre.length < (frq bs).length := by rw [hS.out, hsq2, List.length_append, List.length_map]; simp
      have HPl := Lib.hid hpl
      have hbk : (k : Int) + (fsz : Int) ≤ 9223372036854775807 := by omega
      have hbk2 : (k : Int) + (fsz : Int) = ((k + fsz : Nat) : Int) := by omega
      have HBK := Lib.hid hbk2
      clear hsq2 hpl hbk2
      gi_wp2_with (refine ⟨trivial, ?_⟩; gi_at_call 104; refine (callsIn_wide.2 (HFC.out _ hBEL.out)).mono ?_; rintro e w2 ⟨v2, rfl, hrow2, hb2⟩; have hb0 := hrow2 w0 (HRow2.out w0 hR0.out); have HWy := Lib.hid (hBEL.out.trans (hb2.mono hBEL.out.size)); have HBy := Lib.hid ((hb2.block Bs hBX.out.lt).trans hBX.out); have HJy := Lib.hid (hJ0.out pre wr _ hJS.out (grownBy_of_below hb2 none)); obtain ⟨x, hx⟩ : ∃ x : Yb w0, x.1 = (k + fsz, v2, fbs) := ⟨⟨(k + fsz, v2, fbs), by omega, hfl.out, hb0⟩, rfl⟩; obtain ⟨fn, tmps, assign, body, hy, hR⟩ := hY0.out pre x _ HJy.out HPl.out; simp only [encB, hx, Int.natCast_add] at hy; have HR := Lib.hid hR; have HX := Lib.hid hx; clear hR hx hb2 hrow2 hb0)
      have hyl : Yb.bl x = (k + fsz, fbs) := by unfold Yb.bl; rw [HX.out]
      have hsq2 : frq bs = (pre ++ [x]).map Yb.bl ++ frA (k + fsz) (bs.drop (k + fsz)) := by
        rw [List.map_append, List.map_cons, List.map_nil, hyl, hS.out, hok.out (by first | rfl | trivial), List.append_assoc]
        rfl
      have HS2 := Lib.hid hsq2
      clear hsq2 hyl
      refine HR.out.mono ?_
      rintro e W3 (⟨rfl, hJ3, hk3⟩ | ⟨rfl, hJx3⟩)
      · have HJ3 := Lib.hid hJ3
        have HK3 := Lib.hid (And.intro (HWy.out.trans hk3.1) (hk3.2.trans HBy.out))
        clear hJ3 hk3
        gi_wp2
        go_roundw
        case rel => exact ⟨pre ++ [x], k + fsz, by omega, by go_num, HS2.out, HJ3.out, HK3.out.1, HK3.out.2⟩
        case measure => simp [intOf]; omega
      · gi_wp2
        refine bodyPost_ret (results_none rfl _ _ _) rfl ?_
        exact ⟨⟨_, rfl⟩, .inr ⟨pre ++ [x], ⟨_, HS2.out.symm⟩, hJx3⟩⟩
    · have hne : ((fe : Int) != 0) = true := by rw [bne_iff_ne]; omega
      have hfin : pre.map Yb.bl = frq bs := by have := hS.out; rw [herr.out hf0, List.append_nil] at this; exact this.symm
      have HF := Lib.hid hfin
      clear hfin hf0
      gi_wp2_with (refine ⟨trivial, ?_⟩; gi_at_call 104; refine (callsIn_wide.2 (HFC.out _ hBEL.out)).mono ?_; rintro e w2 ⟨v2, rfl, hrow2, hb2⟩; have HJ2 := Lib.hid (hJ0.out pre wr w2 hJS.out (grownBy_of_below hb2 none)); clear hrow2 hb2)
      refine ⟨(fun _ e => (by cases e)), ?_⟩
      gi_wp2
      refine bodyPost_ret (results_none rfl _ _ _) rfl ?_
      exact ⟨⟨_, rfl⟩, .inl ⟨pre, HF.out, HJ2.out⟩⟩
end Go.Proofs.Yteaeedhhdnkldaa
