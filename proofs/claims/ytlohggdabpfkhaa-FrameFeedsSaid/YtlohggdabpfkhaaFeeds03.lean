/-
  CONTRACT of fermatalaw03.feeds: it returns true; nothing that was there is written.
-/
import Derived.Test.YtlohggdabpfkhaaRefF03b
import Derived.Test.YtlohggdabpfkhaaSpoilM03
import Derived.Test.YtlohggdabpfkhaaWFrameCuts
namespace Go.Proofs.Ytlohggdabpfkhaa
open Go.RowKit Go.Shelf Pl

theorem refFeed3_calls (R v : Value) (P l : List Nat) (w : World) (hR : BRow w R P) (hv : BRow w v l) (hlen : P.length + l.length ≤ 1000000) :
    Calls Try.prog 81 #[.agg #[R], v] w (FedR w R P l) := by
  by_cases h : splE P = 31
  · exact refFeed3_dead R v P l w hR hv hlen h
  · exact refFeed3_live R v P l w hR hv hlen h
def StrAt (w : World) (g : Nat) (R : Value) : Prop := w.heap[g]? = some (.cells #[R] 120 (0, 0))
theorem StrAt.lt {w : World} {g : Nat} {R : Value} (s : StrAt w g R) : g < w.heap.size := (Array.getElem?_eq_some_iff.1 s).1
theorem StrAt.below {w w' : World} {g : Nat} {R : Value} (s : StrAt w g R) (hb : Below w.heap.size w w') : StrAt w' g R := (hb.block g s.lt).trans s
theorem StrAt.other {w w' : World} {g k : Nat} {R : Value} (s : StrAt w g R) (hg : w.grownBy w' (some k)) (hne : g ≠ k) : StrAt w' g R := (hg.block g s.lt (by simpa using hne)).trans s
theorem StrAt.row {w w' : World} {g base : Nat} {R v : Value} {l : List Nat} (s : StrAt w g R) (hr : Own8 w base v l) (hg : w.grownBy w' v.ownBlock) : StrAt w' g R := by
  refine (hg.block g s.lt ?_).trans s
  rcases hr.2 with ⟨rfl, _⟩ | ⟨k, cap, cur, rfl, _, q, _⟩
  · simp [Value.ownBlock]
  · intro e
    have e2 : g = k := by simpa [Value.ownBlock] using e
    rw [← e2, show w.heap[g]? = _ from s] at q
    simp at q
theorem StrAt.fed {W w' : World} {g k base : Nat} {R h : Value} {hl : List Nat} (s : StrAt W g R) (hne : g ≠ k) (ho : Own8 W base h hl) (hg : ∃ w1, W.grownBy w1 h.ownBlock ∧ w1.grownBy w' (some k)) : StrAt w' g R := by
  obtain ⟨w1, g1, g2⟩ := hg
  exact (s.row ho g1).other g2 hne
theorem own8_str {w w' : World} {g base : Nat} {R v : Value} {l : List Nat} (hr : Own8 w base v l) (s : StrAt w g R) (hg : w.grownBy w' (some g)) : Own8 w' base v l := by
  refine hr.kept hg ?_
  rcases hr.2 with ⟨e, _⟩ | ⟨k, cap, cur, e, _, q, _⟩
  · rw [e]; exact .inl rfl
  · rw [e]
    refine .inr fun e => ?_
    have e2 : k = g := by simpa [Value.ownBlock] using e
    rw [e2, show w.heap[g]? = _ from s] at q
    simp at q
theorem mval_str {w w' : World} {g base : Nat} {R : Value} {V : List Value} {L : List (List Nat)} (hr : MVal w base V L) (s : StrAt w g R) (hg : w.grownBy w' (some g)) : MVal w' base V L :=
  hr.keep hg fun r c t e hh => by cases e; rw [show w.heap[g]? = _ from s] at hh; cases hh; decide
theorem row_str {w w' : World} {g base n : Nat} {R v : Value} {V : List Value} (hr : w.ownsRow base 23 1 v n V) (s : StrAt w g R) (hg : w.grownBy w' (some g)) : w'.ownsRow base 23 1 v n V := by
  refine hr.kept hg ?_
  rcases hr.2 with ⟨rfl, _⟩ | ⟨k, cap, cur, rfl, _, q, _⟩
  · exact .inl rfl
  · refine .inr fun e => ?_
    have e2 : k = g := by simpa [Value.ownBlock] using e
    rw [e2, show w.heap[g]? = _ from s] at q
    simp at q
/-- WHERE THE STREAM AND THE REFERENCE's STAND. -/
structure FdI (w0 W : World) (gs gr : Nat) (P : List Nat) (h R : Value) : Prop where
  str : StrAt W gr R
  sat : SAt W gs (if splE P = 31 then 2 else 1) (splB P).length h
  held : Own8 W w0.heap.size h (feedH P)
  all : Own8 W w0.heap.size R P
  bytes : AllB P
  apart : ∀ q, R.ownBlock = some q → h.ownBlock ≠ some q
  below : Below w0.heap.size w0 W
theorem feedP_dead {P l : List Nat} (hP : AllB P) (hl : AllB l) (h : splE P = 31) : splE (P ++ l) = splE P ∧ splB (P ++ l) = splB P ∧ feedH (P ++ l) = feedH P := by
  obtain ⟨h1, h2⟩ := fed_dead P l hP hl h
  exact ⟨by rw [h2, h], h1, by rw [feedH_31 h2, feedH_31 h]⟩
theorem feedH_allB {P : List Nat} (h : AllB P) : AllB (feedH P) := by unfold feedH; split; exact AllB.nil; exact h.drop _

theorem FdI.to {w0 W W' : World} {gs gr : Nat} {P : List Nat} {h R : Value} (I : FdI w0 W gs gr P h R) (hb : Below W.heap.size W W') : FdI w0 W' gs gr P h R :=
  ⟨I.str.below hb, I.sat.below hb, ownsRow_below I.held hb, ownsRow_below I.all hb, I.bytes, I.apart, I.below.trans (hb.mono I.below.size)⟩
theorem FdI.start {w0 W : World} {gs gr : Nat} (h1 : StrAt W gr (.slice none 0 0)) (h2 : SAt W gs 1 0 (.slice none 0 0)) (h3 : Below w0.heap.size w0 W) : FdI w0 W gs gr [] (.slice none 0 0) (.slice none 0 0) := by
  have e1 : splE [] = 0 := by decide
  have e2 : splB [] = [] := by decide
  have e3 : feedH [] = [] := by decide
  refine ⟨h1, ?_, ?_, own8_nil _ _, AllB.nil, fun q hq => by simp [Value.ownBlock] at hq, h3⟩
  · rw [e1, e2]; exact h2
  · rw [e3]; exact own8_nil _ _
theorem SAt.apart {w w' : World} {g st fr : Nat} {h : Value} {r : Option Nat} (s : SAt w g st fr h) (hg : w.grownBy w' r) (hne : r ≠ some g) : SAt w' g st fr h :=
  (hg.block g s.lt (by first | exact hne | exact hne.symm | exact fun e => hne e.symm)).trans s
theorem StrAt.apart {w w' : World} {g : Nat} {R : Value} {r : Option Nat} (s : StrAt w g R) (hg : w.grownBy w' r) (hne : r ≠ some g) : StrAt w' g R :=
  (hg.block g s.lt (by first | exact hne | exact hne.symm | exact fun e => hne e.symm)).trans s
theorem stream_tells (P : List Nat) : ((feedH P).length = if splE P = 31 then 0 else P.length - splS P) ∧ ((if (if splE P = 31 then 2 else 1) = 1 then fneed (feedH P) else 0) = if splE P = 31 then 0 else fneed (P.drop (splS P))) ∧ (((if splE P = 31 then 2 else 1 : Nat) == 2) = (splE P == 31)) ∧ ((if splE P = 31 then 2 else 1 : Nat) = 1 ∨ (if splE P = 31 then 2 else 1 : Nat) = 2) := by
  by_cases h : splE P = 31
  · simp [feedH, h]
  · simp [feedH, h]
/-- A row with memory of its own is written: the rest stands. -/
theorem FdI.spoiled {w0 W W' : World} {gs gr : Nat} {P : List Nat} {h R : Value} {r : Option Nat} (I : FdI w0 W gs gr P h R) (hg : W.grownBy W' r) (h1 : r ≠ some gr) (h2 : r ≠ some gs) (h3 : ∀ q, h.ownBlock = some q → r ≠ some q) (h4 : ∀ q, R.ownBlock = some q → r ≠ some q) (h5 : ∀ q, r = some q → w0.heap.size ≤ q) : FdI w0 W' gs gr P h R :=
  ⟨I.str.apart hg h1, I.sat.apart hg h2, own8_gr I.held hg h3, own8_gr I.all hg h4, I.bytes, I.apart, I.below.grown hg I.below.size h5⟩

set_option maxRecDepth 100000 in
set_option maxHeartbeats 8000000 in
theorem feeds_calls (v rv : Value) (T : List (List Nat)) (rs : List Nat) (w : World) (h : TRow w v T) (hrs : BRow w rv rs) (hT : T.length ≤ 40) (hsz : ∀ i < T.length, (mt T i).length ≤ 400) :
    Calls Try.prog 25 #[v, rv] w fun e w' => e = .returned (.bool true) ∧ Below w.heap.size w w' := by
  obtain ⟨va, vc, rfl⟩ := h.shape
  obtain ⟨ra, rc, rfl⟩ := hrs.shape
  have HT := Lib.hid h; have HRs := Lib.hid hrs; have HS := Lib.hid hsz
  have hTl : (T.length : Int) ≤ 40 := by omega
  have hrl := hrs.len_le
  clear h hrs hsz
  go_enter Try.func25, Try.ntmps25
  go_wp2_with fail
  refine (new_calls w).mono ?_
  rintro e w1 ⟨rfl, hs1, hb1, hz1⟩
  have HS1 := Lib.hid hs1; have HB1 := Lib.hid hb1; have HZ1 := Lib.hid hz1
  clear hs1 hb1 hz1
  obtain ⟨gs, hgs⟩ : ∃ gs, w.heap.size = gs := ⟨_, rfl⟩
  go_wp2_with fail
  obtain ⟨gr, hgr⟩ : ∃ gr, w1.heap.size = gr := ⟨_, rfl⟩
  have hgs1 : gr = gs + 1 := by rw [← hgr, ← hgs]; exact HZ1.out
  have hgs2 : w.heap.size ≤ gs := by omega
  have HI0 := Lib.hid (FdI.start (w0 := w) (gs := gs) (gr := gr) (show StrAt (w1.alloc (.cells #[.slice none 0 0] 120)) gr (.slice none 0 0) by rw [← hgr]; exact World.alloc_heap_new w1 _) (by rw [← hgs]; exact HS1.out.below ((Below.refl w1.heap.size w1).alloc (Nat.le_refl _) _)) (HB1.out.alloc HB1.out.size _))
  rw [hgr]
  have hgs3 : gs < gr := by omega
  clear hgr hgs hgs1 HS1 HB1 HZ1
  go_loopw [24] (fun i wr => ∃ (k : Nat) (P : List Nat) (h R : Value), k ≤ T.length ∧ i = .int .i64 k ∧ P.length ≤ 400 * k ∧ FdI w wr gs gr P h R) (fun i _ => T.length - (intOf i).toNat)
  case atStart => exact ⟨0, [], _, _, Nat.zero_le _, rfl, Nat.zero_le _, HI0.out⟩
  case round =>
    obtain ⟨k, P, h, R, hk, rfl, hPl, hI⟩ := hrel
    have HI := Lib.hid hI
    have HZW := And.intro hI.below.size (And.intro hI.str.lt hI.sat.lt)
    clear hI
    by_cases hlt : k < T.length
    · have hd : decide ((k : Int) < (T.length : Int)) = true := decide_eq_true (by omega)
      obtain ⟨b, off, cap, e, hc, hm, hcell⟩ := HT.out.cell (by omega)
      simp only [Value.slice.injEq, true_and] at e
      obtain ⟨rfl, rfl⟩ := e
      obtain ⟨a1, c1, d1, r1⟩ := hcell k hlt
      have d1' := (HI.out.below.cell (p := ⟨b, off + k, none⟩) (block_lt_of_cell d1)).trans d1
      have hz := HS.out k hlt
      obtain ⟨bd, hbd⟩ : ∃ bd, mt T k = bd := ⟨_, rfl⟩
      rw [hbd] at d1' hz r1
      have HBd := Lib.hid r1
      clear d1 r1 hbd hcell hm hc
      have hk40 : (k : Int) + 1 ≤ 40 := by omega
      have hPl2 : P.length ≤ 16000 := by omega
      by_cases hq : k < rs.length
      · have e2 : decide ((k : Int) < (rs.length : Int)) = true := decide_eq_true (by omega)
        obtain ⟨hab, ⟨_, _, e, hl0, _⟩ | ⟨b2, off2, cap2, e, hc2, hm2, hcell2⟩⟩ := HRs.out
        · subst hl0; simp at hq
        simp only [Value.slice.injEq, true_and] at e
        obtain ⟨rfl, rfl⟩ := e
        have hd2 := hcell2 k hq
        have hd2' := (HI.out.below.cell (p := ⟨b2, off2 + k, none⟩) (block_lt_of_cell hd2)).trans hd2
        have hd3 := gt_lt hab k
        obtain ⟨d, hdd⟩ : ∃ d, gt rs k = d := ⟨_, rfl⟩
        rw [hdd] at hd2' hd3
        clear hd2 hcell2 hab hc2 hm2 hdd
        by_cases h15 : d % 16 = 15
        · have h16 : ((d : Int) % 16 == 15) = true := by rw [beq_iff_eq]; omega
          have h0 : 0 ≤ (d : Int) := by omega
          clear h15
          go_wp2_with fail
          refine (reset_calls gs _ _ h wr HI.out.sat (by split <;> simp)).mono ?_
          rintro e wq ⟨rfl, hsq, hgq⟩
          have hstrq := HI.out.str.other hgq (by omega)
          obtain ⟨c6, c5⟩ := str_cell hstrq
          have hbq := HI.out.below.grown hgq HI.out.below.size (fun q hq => by cases hq; omega)
          have hgq2 := grownBy_setCell wq gr 0 (.slice none 0 0)
          have HIq := Lib.hid (FdI.start (w0 := w) (str_set hstrq (.slice none 0 0)) (hsq.other hgq2 (by omega)) (hbq.grown hgq2 hbq.size (fun q hq => by cases hq; omega)))
          clear HI HZW hstrq hbq hgq2 hsq hgq hd2' d1'
          go_wp2_with fail
          generalize wq.setCell ⟨gr, 0, none⟩ (.slice none 0 0) = wx at *
          clear c5 c6 hPl hPl2
          obtain ⟨P, h, R, hPl, hPl2, hI⟩ : ∃ (P : List Nat) (h R : Value), P.length ≤ 400 * k ∧ P.length ≤ 16000 ∧ FdI w wx gs gr P h R := ⟨[], _, _, Nat.zero_le _, by simp, HIq.out⟩
          have HI := Lib.hid hI
          have HZW := And.intro hI.below.size (And.intro hI.str.lt hI.sat.lt)
          clear hI HIq
          refine (sclone_calls _ bd wx (HBd.out.below HI.out.below) (by omega)).mono ?_
          rintro e w2 ⟨v1, rfl, ho1, hb1⟩
          obtain ⟨a2, n2, c2, rfl⟩ : ∃ a n c, v1 = .slice a n c := by obtain ⟨a, c, e⟩ := owns_shape ho1; exact ⟨a, _, c, e⟩
          have HX := Lib.hid ho1; have HI2 := Lib.hid (HI.out.to hb1)
          have HhW := Lib.hid (fun q hq => (HI.out.held.lt q hq).2)
          have HRW := Lib.hid (fun q hq => (HI.out.all.lt q hq).2)
          clear ho1 hb1 HI
          go_wp2_with fail
          refine (feed_any gs w.heap.size h P _ bd w2 HI2.out.sat HI2.out.held HI2.out.bytes (BRow.of_own HX.out HBd.out.1) HI2.out.below.size (by omega)).mono ?_
          rintro e w3 ⟨v3, h1, V1, L1, rfl, hsp, hs3, ho3, hr3, hM3, hne3, hg3, hloc3⟩
          have hg0 : gs ≠ gr := by omega
          have hstr3 := HI2.out.str.fed hg0.symm HI2.out.held hg3
          have hx3 := fed_own8 HX.out (fun q hq e => by have := (HX.out.lt q hq).1; have := HhW.out q e; omega) HI2.out.held HI2.out.sat hg3
          have hR3 := fed_own8 HI2.out.all HI2.out.apart HI2.out.held HI2.out.sat hg3
          have hB3 := fed_below HI2.out.below HI2.out.below.size HI2.out.held (show w.heap.size ≤ gs by omega) hg3
          have hRh : ∀ q, R.ownBlock = some q → h1.ownBlock ≠ some q := fun q hq e => by
            rcases hloc3 with e2 | e2
            · exact HI2.out.apart q hq (by rw [← e2]; exact e)
            · have := e2 q e
              have := (HI2.out.all.lt q hq).2
              omega
          have hxh : ∀ q, (Value.slice a2 n2 c2).ownBlock = some q → h1.ownBlock ≠ some q := fun q hq e => by
            rcases hloc3 with e2 | e2
            · have := HhW.out q (by rw [← e2]; exact e)
              have := (HX.out.lt q hq).1
              omega
            · have := e2 q e
              have := (HX.out.lt q hq).2
              omega
          have hxR : ∀ q, (Value.slice a2 n2 c2).ownBlock = some q → R.ownBlock ≠ some q := fun q hq e => by
            have := HRW.out q e
            have := (HX.out.lt q hq).1
            omega
          have hxl := fun q hq => (HX.out.lt q hq).2
          have hRl := fun q hq => (HI2.out.all.lt q hq).2
          have hzg : gr < w2.heap.size := HI2.out.str.lt
          have hzw : w.heap.size ≤ w2.heap.size := HI2.out.below.size
          have hzW : w.heap.size ≤ wx.heap.size ∧ gr < wx.heap.size ∧ gs < wx.heap.size := HZW
          obtain ⟨a3, c3, rfl⟩ := owns_shape hr3
          obtain ⟨ah, nh, ch, rfl⟩ : ∃ a n c, h1 = .slice a n c := by obtain ⟨a, c, e⟩ := owns_shape ho3; exact ⟨a, _, c, e⟩
          have HStr3 := Lib.hid hstr3; have HX3 := Lib.hid hx3; have HR3 := Lib.hid hR3; have HB3 := Lib.hid hB3; have HRh := Lib.hid hRh; have HXh := Lib.hid hxh; have HXR := Lib.hid hxR
          have HS3 := Lib.hid hs3; have HH3 := Lib.hid ho3; have HRow3 := Lib.hid hr3; have HM3 := Lib.hid hM3; have HNe3 := Lib.hid hne3; have HSp := Lib.hid hsp
          have HPb := Lib.hid HI2.out.bytes
          have HXl := Lib.hid hxl; have HRl := Lib.hid hRl; have HZw := Lib.hid hzw; have HZg := Lib.hid hzg; have HZWW := Lib.hid hzW
          have HX0 := Lib.hid (fun q hq => (HX.out.lt q hq).1)
          have q3 := (str_cell hstr3).1
          clear hstr3 hx3 hR3 hB3 hRh hxh hxR hs3 ho3 hr3 hM3 hne3 hsp hg3 hloc3 HX HI2 HhW HRW hxl hRl hzw hzg hzW
          go_wp2_with fail
          refine (refFeed3_calls R _ P bd w3 (BRow.of_own HR3.out HPb.out) (HBd.out.below HB3.out) (by omega)).mono ?_
          rintro e w4 ⟨R', v4, rfl, ht4, hb4, hR4⟩
          obtain ⟨P', hb', hl', hE', hB', hH', hR', hap'⟩ : ∃ P', AllB P' ∧ P'.length ≤ P.length + bd.length ∧ splE P' = splE (P ++ bd) ∧ splB P' = splB (P ++ bd) ∧ feedH P' = feedH (P ++ bd) ∧ Own8 w4 w.heap.size R' P' ∧ (∀ q, R'.ownBlock = some q → (Value.slice ah nh ch).ownBlock ≠ some q ∧ (Value.slice a2 n2 c2).ownBlock ≠ some q ∧ ∀ i < L1.length, (V1.getD i undef).ownBlock ≠ some q) := by
            rcases hR4 with ⟨h31, rfl⟩ | ⟨h31, ho⟩
            · obtain ⟨f1, f2, f3⟩ := feedP_dead HPb.out HBd.out.1 h31
              exact ⟨P, HPb.out, by omega, f1.symm, f2.symm, f3.symm, ownsRow_below HR3.out hb4, fun q hq => ⟨HRh.out q hq, fun e => HXR.out q e hq, fun i hi e => by have := ((HM3.out.2.1 i hi).lt q e).1; have := HRl.out q hq; omega⟩⟩
            · exact ⟨P ++ bd, HPb.out.append HBd.out.1, by rw [List.length_append]; omega, rfl, rfl, rfl, own_base ho HB3.out.size, fun q hq => ⟨fun e => by have := (HH3.out.lt q e).2; have := (ho.lt q hq).1; omega, fun e => by have := (HX3.out.lt q e).2; have := (ho.lt q hq).1; omega, fun i hi e => by have := ((HM3.out.2.1 i hi).lt q e).2; have := (ho.lt q hq).1; omega⟩⟩
          have hLb : ∀ l ∈ L1, AllB l := fun l hl => splB_allB (HPb.out.append HBd.out.1) l (by rw [HSp.out]; exact List.mem_append_right _ hl)
          have hdr : (splB (P ++ bd)).drop (splB P).length = L1 := by rw [HSp.out, List.drop_left]
          rw [hdr] at ht4
          obtain ⟨aR, nR, cR, rfl⟩ : ∃ a n c, R' = .slice a n c := by obtain ⟨a, c, e⟩ := owns_shape hR'; exact ⟨a, _, c, e⟩
          have hA4 := (Below.refl w4.heap.size w4).alloc (Nat.le_refl _) (.cells #[.slice aR nR cR] 120)
          have hBB := hb4.trans (hA4.mono hb4.size)
          have hstr4 := HStr3.out.below hBB
          have hg5 := grownBy_setCell (w4.alloc (.cells #[.slice aR nR cR] 120)) gr 0 (.slice aR nR cR)
          have hgl : gr < w3.heap.size := HStr3.out.lt
          have hB4 := HB3.out.trans (hBB.mono HB3.out.size)
          have HI5 := Lib.hid (show FdI w ((w4.alloc (.cells #[.slice aR nR cR] 120)).setCell ⟨gr, 0, none⟩ (.slice aR nR cR)) gs gr P' (.slice ah nh ch) (.slice aR nR cR) from
            ⟨str_set hstr4 _, by rw [hE', hB']; exact (HS3.out.below hBB).other hg5 hg0, by rw [hH']; exact own8_str (ownsRow_below HH3.out hBB) hstr4 hg5, own8_str (ownsRow_below hR' hA4) hstr4 hg5, hb', fun q hq => (hap' q hq).1, hB4.grown hg5 hB4.size (fun q hq => by cases hq; omega)⟩)
          have HX5 := Lib.hid (own8_str (ownsRow_below HX3.out hBB) hstr4 hg5)
          have HRow5 := Lib.hid (row_str (ownsRow_below HRow3.out hBB) hstr4 hg5)
          have HM5 := Lib.hid (mval_str (HM3.out.below hBB) hstr4 hg5)
          have HT5 := Lib.hid (ht4 _ _ hA4 gr hgl hg5)
          have HAp := Lib.hid hap'; have HLb := Lib.hid hLb
          have HVb := Lib.hid (fun i hi q hq => ((HM3.out.2.1 i hi).lt q hq).1)
          have hPl' : P'.length ≤ 400 * (k + 1) := by omega
          have hc4 := (str_cell (show StrAt (w4.alloc (.cells #[.slice aR nR cR] 120)) w4.heap.size (.slice aR nR cR) from World.alloc_heap_new w4 _)).1
          obtain ⟨hc6, hc5⟩ := str_cell hstr4
          have hFE : ((feedE (P ++ bd) : Int) != (feedE (P ++ bd) : Int)) = false := by simp
          clear hA4 hBB hg5 hgl hB4 hap' hLb hdr ht4 hb4 hR' hR4 hb' hl' hE' hB' hH' q3 hstr4
          clear HStr3 HX3 HR3 HB3 HRh HXR HS3 HH3 HRow3 HM3 HSp
          go_wp2_with fail
          generalize (w4.alloc (.cells #[.slice aR nR cR] 120)).setCell ⟨gr, 0, none⟩ (.slice aR nR cR) = w5 at *
          clear hc4 hc5 hc6
          refine (equalM_b _ _ L1 L1 w5 (trow_of HRow5.out HM5.out HLb.out) HT5.out true (decide_eq_true rfl)).mono ?_
          rintro e w6 ⟨rfl, hb6⟩
          have HI6 := Lib.hid (HI5.out.to hb6); have HX6 := Lib.hid (ownsRow_below HX5.out hb6); have HRow6 := Lib.hid (ownsRow_below HRow5.out hb6); have HM6 := Lib.hid (HM5.out.below hb6)
          clear hb6 HI5 HX5 HRow5 HM5 HT5
          go_wp2_with fail
          refine (bytesEqual_b _ _ bd bd w6 (BRow.of_own HX6.out HBd.out.1) (HBd.out.below HI6.out.below) true (decide_eq_true rfl)).mono ?_
          rintro e w7 ⟨rfl, hb7⟩
          have HI7 := Lib.hid (HI6.out.to hb7); have HX7 := Lib.hid (ownsRow_below HX6.out hb7); have HRow7 := Lib.hid (ownsRow_below HRow6.out hb7); have HM7 := Lib.hid (HM6.out.below hb7)
          clear hb7 HI6 HX6 HRow6 HM6
          go_wp2_with fail
          have hA7 := (Below.refl w7.heap.size w7).alloc (Nat.le_refl _) (.cells #[.slice a2 n2 c2] 23)
          refine (spoil1_calls _ bd wx.heap.size w7.heap.size _ (ownsRow_below HX7.out hA7) HBd.out.1 (World.alloc_heap_new w7 _)).mono ?_
          rintro e w8 ⟨⟨r8, rfl⟩, hg8⟩
          have HI8 := Lib.hid ((HI7.out.to hA7).spoiled hg8 (fun e => by have := HX0.out _ e; have := HZWW.out.2.1; omega) (fun e => by have := HX0.out _ e; have := HZWW.out.2.2; omega) (fun q hq e => HXh.out q e hq) (fun q hq e => (HAp.out q hq).2.1 e) (fun q e => Nat.le_trans HZWW.out.1 (HX0.out q e)))
          have HRow8 := Lib.hid (rowM_gr (ownsRow_below HRow7.out hA7) (ownsRow_below HX7.out hA7) hg8)
          have HM8 := Lib.hid (show MVal w8 w2.heap.size V1 L1 from ⟨HM7.out.1, fun i hi => own8_gr ((HM7.out.below hA7).2.1 i hi) hg8 (fun q hq e => by have := HVb.out i hi q hq; have := HXl.out q e; omega), HM7.out.2.2⟩)
          clear hA7 hg8 HI7 HX7 HRow7 HM7
          go_wp2_with fail
          refine (spoilM_calls _ L1.length w2.heap.size w2.heap.size V1 L1 w8 HRow8.out HM8.out rfl HLb.out).mono ?_
          rintro e w9 ⟨⟨r9, rfl⟩, hsp9⟩
          have HI9 := Lib.hid (hsp9 (fun W => FdI w W gs gr P' (.slice ah nh ch) (.slice aR nR cR)) HI8.out (fun W W' i hi hQ hg => hQ.spoiled hg (fun e => by have := HVb.out i hi _ e; have := HZg.out; omega) (fun e => by have := HVb.out i hi _ e; have := HZg.out; omega) (fun q hq e => HNe3.out i hi q e hq) (fun q hq e => (HAp.out q hq).2.2 i hi e) (fun q e => Nat.le_trans HZw.out (HVb.out i hi q e))))
          clear hsp9 HI8 HRow8 HM8
          have q9 := (str_cell HI9.out.str).1
          go_wp2_with fail
          refine (refTells3_calls _ P' w.heap.size w9 HI9.out.all HI9.out.bytes (by omega)).mono ?_
          rintro e w10 ⟨rfl, hb10⟩
          have HI10 := Lib.hid (HI9.out.to hb10)
          clear hb10 HI9 q9
          obtain ⟨t1, t2, t3, t4⟩ := stream_tells P'
          have hnh : nh = (feedH P').length := by
            obtain ⟨a, c, e⟩ := owns_shape HI10.out.held
            simp only [Value.slice.injEq] at e
            exact e.2.1
          rw [← t1, ← t2, ← hnh]
          have hnl : (feedH P').length ≤ 1000000 := by unfold feedH; split; simp; rw [List.length_drop]; omega
          obtain ⟨st, hst⟩ : ∃ st : Nat, (if splE P' = 31 then 2 else 1) = st := ⟨_, rfl⟩
          obtain ⟨fr, hfr⟩ : ∃ fr : Nat, (splB P').length = fr := ⟨_, rfl⟩
          obtain ⟨dd, hdd⟩ : ∃ dd : Bool, (splE P' == 31) = dd := ⟨_, rfl⟩
          have hsat := HI10.out.sat
          rw [hst, hfr] at hsat
          rw [hst] at t3 t4 ⊢
          rw [hfr]
          obtain ⟨nd, hnd⟩ : ∃ nd : Nat, (if st = 1 then fneed (feedH P') else 0) = nd := ⟨_, rfl⟩
          rw [hnd]
          have HSat := Lib.hid hsat
          have HHd := Lib.hid (fun W (hb : Below w10.heap.size w10 W) => held_calls gs st fr _ _ nh _ W (HSat.out.below hb) rfl t4)
          have HNd := Lib.hid (fun W (hb : Below w10.heap.size w10 W) => show Calls Try.prog 38 #[.pointer (some ⟨gs, 0, none⟩)] W fun e w' => e = .returned (.int .i64 (nd : Int)) ∧ Below W.heap.size W w' from by rw [← hnd]; exact sneed_calls gs st fr _ (feedH P') W (HSat.out.below hb) ((BRow.of_own HI10.out.held (feedH_allB HI10.out.bytes)).below hb))
          have HFr := Lib.hid (fun W (hb : Below w10.heap.size w10 W) => frames_calls gs st fr _ W (HSat.out.below hb) t4)
          have HDe := Lib.hid (fun W (hb : Below w10.heap.size w10 W) => show Calls Try.prog 40 #[.pointer (some ⟨gs, 0, none⟩)] W fun e w' => e = .returned (.bool dd) ∧ W = w' from by rw [← hdd, ← t3]; exact dead_calls gs st fr _ W (HSat.out.below hb))
          have HRd := Lib.hid (fun W (hb : Below w10.heap.size w10 W) => show Calls Try.prog 83 #[.agg #[.slice aR nR cR]] W fun e w' => e = .returned (.bool dd) ∧ Below W.heap.size W w' from by rw [← hdd]; exact refDead3_calls _ P' W ((BRow.of_own HI10.out.all HI10.out.bytes).below hb) (by omega))
          have HCl := Lib.hid (fun W (hb : Below w10.heap.size w10 W) => (str_cell (HI10.out.str.below hb)).1)
          have hc1 : ((nh : Int) != (nh : Int)) = false := by simp
          have hc2 : ((nd : Int) != (nd : Int)) = false := by simp
          have hc3 : ((fr : Int) != (fr : Int)) = false := by simp
          have hc4 : (dd != dd) = false := by simp
          clear t1 t2 t3 t4 hst hfr hdd hsat hnd hnh hnl
          clear HNe3 HPb HXl HRl HZw HZg HX0 HXh HAp HLb HVb
          go_wp2_with fail
          go_region_law (first
            | (go_simp; go_at_call 37; refine (HHd.out _ (by first | exact (Below.refl _ _).drew | exact Below.refl _ _)).mono ?_; rintro e w11 ⟨rfl, rfl⟩)
            | (go_simp; go_at_call 38; refine (HNd.out _ (by first | exact (Below.refl _ _).drew | exact Below.refl _ _)).mono ?_; rintro e w12 ⟨rfl, hb12⟩; have HB12 := Lib.hid (show Below w10.heap.size w10 w12 by first | exact (Below.refl w10.heap.size w10).drew.trans hb12 | exact hb12); have q12 := HCl.out _ HB12.out; clear hb12)
            | (go_simp; go_at_call 39; refine (HFr.out _ HB12.out).mono ?_; rintro e w13 ⟨rfl, rfl⟩)
            | (go_simp; go_at_call 40; refine (HDe.out _ HB12.out).mono ?_; rintro e w14 ⟨rfl, rfl⟩)
            | (go_simp; go_at_call 83; refine (HRd.out _ HB12.out).mono ?_; rintro e w15 ⟨rfl, hb15⟩; have HB15 := Lib.hid (HB12.out.trans (hb15.mono HB12.out.size)); clear hb15)
            | fail)
          all_goals
            go_wp2_with fail
            exact ⟨⟨k + 1, P', _, _, by omega, by go_num, hPl', HI10.out.to HB15.out⟩, by simp [intOf]; omega⟩
        · have h16 : ((d : Int) % 16 == 15) = false := by rw [beq_eq_false_iff_ne]; omega
          have h0 : 0 ≤ (d : Int) := by omega
          clear h15
          go_wp2_with fail
          refine (sclone_calls _ bd wr (HBd.out.below HI.out.below) (by omega)).mono ?_
          rintro e w2 ⟨v1, rfl, ho1, hb1⟩
          obtain ⟨a2, n2, c2, rfl⟩ : ∃ a n c, v1 = .slice a n c := by obtain ⟨a, c, e⟩ := owns_shape ho1; exact ⟨a, _, c, e⟩
          have HX := Lib.hid ho1; have HI2 := Lib.hid (HI.out.to hb1)
          have HhW := Lib.hid (fun q hq => (HI.out.held.lt q hq).2)
          have HRW := Lib.hid (fun q hq => (HI.out.all.lt q hq).2)
          clear ho1 hb1 HI
          go_wp2_with fail
          refine (feed_any gs w.heap.size h P _ bd w2 HI2.out.sat HI2.out.held HI2.out.bytes (BRow.of_own HX.out HBd.out.1) HI2.out.below.size (by omega)).mono ?_
          rintro e w3 ⟨v3, h1, V1, L1, rfl, hsp, hs3, ho3, hr3, hM3, hne3, hg3, hloc3⟩
          have hg0 : gs ≠ gr := by omega
          have hstr3 := HI2.out.str.fed hg0.symm HI2.out.held hg3
          have hx3 := fed_own8 HX.out (fun q hq e => by have := (HX.out.lt q hq).1; have := HhW.out q e; omega) HI2.out.held HI2.out.sat hg3
          have hR3 := fed_own8 HI2.out.all HI2.out.apart HI2.out.held HI2.out.sat hg3
          have hB3 := fed_below HI2.out.below HI2.out.below.size HI2.out.held (show w.heap.size ≤ gs by omega) hg3
          have hRh : ∀ q, R.ownBlock = some q → h1.ownBlock ≠ some q := fun q hq e => by
            rcases hloc3 with e2 | e2
            · exact HI2.out.apart q hq (by rw [← e2]; exact e)
            · have := e2 q e
              have := (HI2.out.all.lt q hq).2
              omega
          have hxh : ∀ q, (Value.slice a2 n2 c2).ownBlock = some q → h1.ownBlock ≠ some q := fun q hq e => by
            rcases hloc3 with e2 | e2
            · have := HhW.out q (by rw [← e2]; exact e)
              have := (HX.out.lt q hq).1
              omega
            · have := e2 q e
              have := (HX.out.lt q hq).2
              omega
          have hxR : ∀ q, (Value.slice a2 n2 c2).ownBlock = some q → R.ownBlock ≠ some q := fun q hq e => by
            have := HRW.out q e
            have := (HX.out.lt q hq).1
            omega
          have hxl := fun q hq => (HX.out.lt q hq).2
          have hRl := fun q hq => (HI2.out.all.lt q hq).2
          have hzg : gr < w2.heap.size := HI2.out.str.lt
          have hzw : w.heap.size ≤ w2.heap.size := HI2.out.below.size
          have hzW : w.heap.size ≤ wr.heap.size ∧ gr < wr.heap.size ∧ gs < wr.heap.size := HZW
          obtain ⟨a3, c3, rfl⟩ := owns_shape hr3
          obtain ⟨ah, nh, ch, rfl⟩ : ∃ a n c, h1 = .slice a n c := by obtain ⟨a, c, e⟩ := owns_shape ho3; exact ⟨a, _, c, e⟩
          have HStr3 := Lib.hid hstr3; have HX3 := Lib.hid hx3; have HR3 := Lib.hid hR3; have HB3 := Lib.hid hB3; have HRh := Lib.hid hRh; have HXh := Lib.hid hxh; have HXR := Lib.hid hxR
          have HS3 := Lib.hid hs3; have HH3 := Lib.hid ho3; have HRow3 := Lib.hid hr3; have HM3 := Lib.hid hM3; have HNe3 := Lib.hid hne3; have HSp := Lib.hid hsp
          have HPb := Lib.hid HI2.out.bytes
          have HXl := Lib.hid hxl; have HRl := Lib.hid hRl; have HZw := Lib.hid hzw; have HZg := Lib.hid hzg; have HZWW := Lib.hid hzW
          have HX0 := Lib.hid (fun q hq => (HX.out.lt q hq).1)
          have q3 := (str_cell hstr3).1
          clear hstr3 hx3 hR3 hB3 hRh hxh hxR hs3 ho3 hr3 hM3 hne3 hsp hg3 hloc3 HX HI2 HhW HRW hxl hRl hzw hzg hzW
          go_wp2_with fail
          refine (refFeed3_calls R _ P bd w3 (BRow.of_own HR3.out HPb.out) (HBd.out.below HB3.out) (by omega)).mono ?_
          rintro e w4 ⟨R', v4, rfl, ht4, hb4, hR4⟩
          obtain ⟨P', hb', hl', hE', hB', hH', hR', hap'⟩ : ∃ P', AllB P' ∧ P'.length ≤ P.length + bd.length ∧ splE P' = splE (P ++ bd) ∧ splB P' = splB (P ++ bd) ∧ feedH P' = feedH (P ++ bd) ∧ Own8 w4 w.heap.size R' P' ∧ (∀ q, R'.ownBlock = some q → (Value.slice ah nh ch).ownBlock ≠ some q ∧ (Value.slice a2 n2 c2).ownBlock ≠ some q ∧ ∀ i < L1.length, (V1.getD i undef).ownBlock ≠ some q) := by
            rcases hR4 with ⟨h31, rfl⟩ | ⟨h31, ho⟩
            · obtain ⟨f1, f2, f3⟩ := feedP_dead HPb.out HBd.out.1 h31
              exact ⟨P, HPb.out, by omega, f1.symm, f2.symm, f3.symm, ownsRow_below HR3.out hb4, fun q hq => ⟨HRh.out q hq, fun e => HXR.out q e hq, fun i hi e => by have := ((HM3.out.2.1 i hi).lt q e).1; have := HRl.out q hq; omega⟩⟩
            · exact ⟨P ++ bd, HPb.out.append HBd.out.1, by rw [List.length_append]; omega, rfl, rfl, rfl, own_base ho HB3.out.size, fun q hq => ⟨fun e => by have := (HH3.out.lt q e).2; have := (ho.lt q hq).1; omega, fun e => by have := (HX3.out.lt q e).2; have := (ho.lt q hq).1; omega, fun i hi e => by have := ((HM3.out.2.1 i hi).lt q e).2; have := (ho.lt q hq).1; omega⟩⟩
          have hLb : ∀ l ∈ L1, AllB l := fun l hl => splB_allB (HPb.out.append HBd.out.1) l (by rw [HSp.out]; exact List.mem_append_right _ hl)
          have hdr : (splB (P ++ bd)).drop (splB P).length = L1 := by rw [HSp.out, List.drop_left]
          rw [hdr] at ht4
          obtain ⟨aR, nR, cR, rfl⟩ : ∃ a n c, R' = .slice a n c := by obtain ⟨a, c, e⟩ := owns_shape hR'; exact ⟨a, _, c, e⟩
          have hA4 := (Below.refl w4.heap.size w4).alloc (Nat.le_refl _) (.cells #[.slice aR nR cR] 120)
          have hBB := hb4.trans (hA4.mono hb4.size)
          have hstr4 := HStr3.out.below hBB
          have hg5 := grownBy_setCell (w4.alloc (.cells #[.slice aR nR cR] 120)) gr 0 (.slice aR nR cR)
          have hgl : gr < w3.heap.size := HStr3.out.lt
          have hB4 := HB3.out.trans (hBB.mono HB3.out.size)
          have HI5 := Lib.hid (show FdI w ((w4.alloc (.cells #[.slice aR nR cR] 120)).setCell ⟨gr, 0, none⟩ (.slice aR nR cR)) gs gr P' (.slice ah nh ch) (.slice aR nR cR) from
            ⟨str_set hstr4 _, by rw [hE', hB']; exact (HS3.out.below hBB).other hg5 hg0, by rw [hH']; exact own8_str (ownsRow_below HH3.out hBB) hstr4 hg5, own8_str (ownsRow_below hR' hA4) hstr4 hg5, hb', fun q hq => (hap' q hq).1, hB4.grown hg5 hB4.size (fun q hq => by cases hq; omega)⟩)
          have HX5 := Lib.hid (own8_str (ownsRow_below HX3.out hBB) hstr4 hg5)
          have HRow5 := Lib.hid (row_str (ownsRow_below HRow3.out hBB) hstr4 hg5)
          have HM5 := Lib.hid (mval_str (HM3.out.below hBB) hstr4 hg5)
          have HT5 := Lib.hid (ht4 _ _ hA4 gr hgl hg5)
          have HAp := Lib.hid hap'; have HLb := Lib.hid hLb
          have HVb := Lib.hid (fun i hi q hq => ((HM3.out.2.1 i hi).lt q hq).1)
          have hPl' : P'.length ≤ 400 * (k + 1) := by omega
          have hc4 := (str_cell (show StrAt (w4.alloc (.cells #[.slice aR nR cR] 120)) w4.heap.size (.slice aR nR cR) from World.alloc_heap_new w4 _)).1
          obtain ⟨hc6, hc5⟩ := str_cell hstr4
          have hFE : ((feedE (P ++ bd) : Int) != (feedE (P ++ bd) : Int)) = false := by simp
          clear hA4 hBB hg5 hgl hB4 hap' hLb hdr ht4 hb4 hR' hR4 hb' hl' hE' hB' hH' q3 hstr4
          clear HStr3 HX3 HR3 HB3 HRh HXR HS3 HH3 HRow3 HM3 HSp
          go_wp2_with fail
          generalize (w4.alloc (.cells #[.slice aR nR cR] 120)).setCell ⟨gr, 0, none⟩ (.slice aR nR cR) = w5 at *
          clear hc4 hc5 hc6
          refine (equalM_b _ _ L1 L1 w5 (trow_of HRow5.out HM5.out HLb.out) HT5.out true (decide_eq_true rfl)).mono ?_
          rintro e w6 ⟨rfl, hb6⟩
          have HI6 := Lib.hid (HI5.out.to hb6); have HX6 := Lib.hid (ownsRow_below HX5.out hb6); have HRow6 := Lib.hid (ownsRow_below HRow5.out hb6); have HM6 := Lib.hid (HM5.out.below hb6)
          clear hb6 HI5 HX5 HRow5 HM5 HT5
          go_wp2_with fail
          refine (bytesEqual_b _ _ bd bd w6 (BRow.of_own HX6.out HBd.out.1) (HBd.out.below HI6.out.below) true (decide_eq_true rfl)).mono ?_
          rintro e w7 ⟨rfl, hb7⟩
          have HI7 := Lib.hid (HI6.out.to hb7); have HX7 := Lib.hid (ownsRow_below HX6.out hb7); have HRow7 := Lib.hid (ownsRow_below HRow6.out hb7); have HM7 := Lib.hid (HM6.out.below hb7)
          clear hb7 HI6 HX6 HRow6 HM6
          go_wp2_with fail
          have hA7 := (Below.refl w7.heap.size w7).alloc (Nat.le_refl _) (.cells #[.slice a2 n2 c2] 23)
          refine (spoil1_calls _ bd wr.heap.size w7.heap.size _ (ownsRow_below HX7.out hA7) HBd.out.1 (World.alloc_heap_new w7 _)).mono ?_
          rintro e w8 ⟨⟨r8, rfl⟩, hg8⟩
          have HI8 := Lib.hid ((HI7.out.to hA7).spoiled hg8 (fun e => by have := HX0.out _ e; have := HZWW.out.2.1; omega) (fun e => by have := HX0.out _ e; have := HZWW.out.2.2; omega) (fun q hq e => HXh.out q e hq) (fun q hq e => (HAp.out q hq).2.1 e) (fun q e => Nat.le_trans HZWW.out.1 (HX0.out q e)))
          have HRow8 := Lib.hid (rowM_gr (ownsRow_below HRow7.out hA7) (ownsRow_below HX7.out hA7) hg8)
          have HM8 := Lib.hid (show MVal w8 w2.heap.size V1 L1 from ⟨HM7.out.1, fun i hi => own8_gr ((HM7.out.below hA7).2.1 i hi) hg8 (fun q hq e => by have := HVb.out i hi q hq; have := HXl.out q e; omega), HM7.out.2.2⟩)
          clear hA7 hg8 HI7 HX7 HRow7 HM7
          go_wp2_with fail
          refine (spoilM_calls _ L1.length w2.heap.size w2.heap.size V1 L1 w8 HRow8.out HM8.out rfl HLb.out).mono ?_
          rintro e w9 ⟨⟨r9, rfl⟩, hsp9⟩
          have HI9 := Lib.hid (hsp9 (fun W => FdI w W gs gr P' (.slice ah nh ch) (.slice aR nR cR)) HI8.out (fun W W' i hi hQ hg => hQ.spoiled hg (fun e => by have := HVb.out i hi _ e; have := HZg.out; omega) (fun e => by have := HVb.out i hi _ e; have := HZg.out; omega) (fun q hq e => HNe3.out i hi q e hq) (fun q hq e => (HAp.out q hq).2.2 i hi e) (fun q e => Nat.le_trans HZw.out (HVb.out i hi q e))))
          clear hsp9 HI8 HRow8 HM8
          have q9 := (str_cell HI9.out.str).1
          go_wp2_with fail
          refine (refTells3_calls _ P' w.heap.size w9 HI9.out.all HI9.out.bytes (by omega)).mono ?_
          rintro e w10 ⟨rfl, hb10⟩
          have HI10 := Lib.hid (HI9.out.to hb10)
          clear hb10 HI9 q9
          obtain ⟨t1, t2, t3, t4⟩ := stream_tells P'
          have hnh : nh = (feedH P').length := by
            obtain ⟨a, c, e⟩ := owns_shape HI10.out.held
            simp only [Value.slice.injEq] at e
            exact e.2.1
          rw [← t1, ← t2, ← hnh]
          have hnl : (feedH P').length ≤ 1000000 := by unfold feedH; split; simp; rw [List.length_drop]; omega
          obtain ⟨st, hst⟩ : ∃ st : Nat, (if splE P' = 31 then 2 else 1) = st := ⟨_, rfl⟩
          obtain ⟨fr, hfr⟩ : ∃ fr : Nat, (splB P').length = fr := ⟨_, rfl⟩
          obtain ⟨dd, hdd⟩ : ∃ dd : Bool, (splE P' == 31) = dd := ⟨_, rfl⟩
          have hsat := HI10.out.sat
          rw [hst, hfr] at hsat
          rw [hst] at t3 t4 ⊢
          rw [hfr]
          obtain ⟨nd, hnd⟩ : ∃ nd : Nat, (if st = 1 then fneed (feedH P') else 0) = nd := ⟨_, rfl⟩
          rw [hnd]
          have HSat := Lib.hid hsat
          have HHd := Lib.hid (fun W (hb : Below w10.heap.size w10 W) => held_calls gs st fr _ _ nh _ W (HSat.out.below hb) rfl t4)
          have HNd := Lib.hid (fun W (hb : Below w10.heap.size w10 W) => show Calls Try.prog 38 #[.pointer (some ⟨gs, 0, none⟩)] W fun e w' => e = .returned (.int .i64 (nd : Int)) ∧ Below W.heap.size W w' from by rw [← hnd]; exact sneed_calls gs st fr _ (feedH P') W (HSat.out.below hb) ((BRow.of_own HI10.out.held (feedH_allB HI10.out.bytes)).below hb))
          have HFr := Lib.hid (fun W (hb : Below w10.heap.size w10 W) => frames_calls gs st fr _ W (HSat.out.below hb) t4)
          have HDe := Lib.hid (fun W (hb : Below w10.heap.size w10 W) => show Calls Try.prog 40 #[.pointer (some ⟨gs, 0, none⟩)] W fun e w' => e = .returned (.bool dd) ∧ W = w' from by rw [← hdd, ← t3]; exact dead_calls gs st fr _ W (HSat.out.below hb))
          have HRd := Lib.hid (fun W (hb : Below w10.heap.size w10 W) => show Calls Try.prog 83 #[.agg #[.slice aR nR cR]] W fun e w' => e = .returned (.bool dd) ∧ Below W.heap.size W w' from by rw [← hdd]; exact refDead3_calls _ P' W ((BRow.of_own HI10.out.all HI10.out.bytes).below hb) (by omega))
          have HCl := Lib.hid (fun W (hb : Below w10.heap.size w10 W) => (str_cell (HI10.out.str.below hb)).1)
          have hc1 : ((nh : Int) != (nh : Int)) = false := by simp
          have hc2 : ((nd : Int) != (nd : Int)) = false := by simp
          have hc3 : ((fr : Int) != (fr : Int)) = false := by simp
          have hc4 : (dd != dd) = false := by simp
          clear t1 t2 t3 t4 hst hfr hdd hsat hnd hnh hnl
          clear HNe3 HPb HXl HRl HZw HZg HX0 HXh HAp HLb HVb
          go_wp2_with fail
          go_region_law (first
            | (go_simp; go_at_call 37; refine (HHd.out _ (by first | exact (Below.refl _ _).drew | exact Below.refl _ _)).mono ?_; rintro e w11 ⟨rfl, rfl⟩)
            | (go_simp; go_at_call 38; refine (HNd.out _ (by first | exact (Below.refl _ _).drew | exact Below.refl _ _)).mono ?_; rintro e w12 ⟨rfl, hb12⟩; have HB12 := Lib.hid (show Below w10.heap.size w10 w12 by first | exact (Below.refl w10.heap.size w10).drew.trans hb12 | exact hb12); have q12 := HCl.out _ HB12.out; clear hb12)
            | (go_simp; go_at_call 39; refine (HFr.out _ HB12.out).mono ?_; rintro e w13 ⟨rfl, rfl⟩)
            | (go_simp; go_at_call 40; refine (HDe.out _ HB12.out).mono ?_; rintro e w14 ⟨rfl, rfl⟩)
            | (go_simp; go_at_call 83; refine (HRd.out _ HB12.out).mono ?_; rintro e w15 ⟨rfl, hb15⟩; have HB15 := Lib.hid (HB12.out.trans (hb15.mono HB12.out.size)); clear hb15)
            | fail)
          all_goals
            go_wp2_with fail
            exact ⟨⟨k + 1, P', _, _, by omega, by go_num, hPl', HI10.out.to HB15.out⟩, by simp [intOf]; omega⟩
      · have e2 : decide ((k : Int) < (rs.length : Int)) = false := decide_eq_false (by omega)
        go_wp2_with fail
        refine (sclone_calls _ bd wr (HBd.out.below HI.out.below) (by omega)).mono ?_
        rintro e w2 ⟨v1, rfl, ho1, hb1⟩
        obtain ⟨a2, n2, c2, rfl⟩ : ∃ a n c, v1 = .slice a n c := by obtain ⟨a, c, e⟩ := owns_shape ho1; exact ⟨a, _, c, e⟩
        have HX := Lib.hid ho1; have HI2 := Lib.hid (HI.out.to hb1)
        have HhW := Lib.hid (fun q hq => (HI.out.held.lt q hq).2)
        have HRW := Lib.hid (fun q hq => (HI.out.all.lt q hq).2)
        clear ho1 hb1 HI
        go_wp2_with fail
        refine (feed_any gs w.heap.size h P _ bd w2 HI2.out.sat HI2.out.held HI2.out.bytes (BRow.of_own HX.out HBd.out.1) HI2.out.below.size (by omega)).mono ?_
        rintro e w3 ⟨v3, h1, V1, L1, rfl, hsp, hs3, ho3, hr3, hM3, hne3, hg3, hloc3⟩
        have hg0 : gs ≠ gr := by omega
        have hstr3 := HI2.out.str.fed hg0.symm HI2.out.held hg3
        have hx3 := fed_own8 HX.out (fun q hq e => by have := (HX.out.lt q hq).1; have := HhW.out q e; omega) HI2.out.held HI2.out.sat hg3
        have hR3 := fed_own8 HI2.out.all HI2.out.apart HI2.out.held HI2.out.sat hg3
        have hB3 := fed_below HI2.out.below HI2.out.below.size HI2.out.held (show w.heap.size ≤ gs by omega) hg3
        have hRh : ∀ q, R.ownBlock = some q → h1.ownBlock ≠ some q := fun q hq e => by
          rcases hloc3 with e2 | e2
          · exact HI2.out.apart q hq (by rw [← e2]; exact e)
          · have := e2 q e
            have := (HI2.out.all.lt q hq).2
            omega
        have hxh : ∀ q, (Value.slice a2 n2 c2).ownBlock = some q → h1.ownBlock ≠ some q := fun q hq e => by
          rcases hloc3 with e2 | e2
          · have := HhW.out q (by rw [← e2]; exact e)
            have := (HX.out.lt q hq).1
            omega
          · have := e2 q e
            have := (HX.out.lt q hq).2
            omega
        have hxR : ∀ q, (Value.slice a2 n2 c2).ownBlock = some q → R.ownBlock ≠ some q := fun q hq e => by
          have := HRW.out q e
          have := (HX.out.lt q hq).1
          omega
        have hxl := fun q hq => (HX.out.lt q hq).2
        have hRl := fun q hq => (HI2.out.all.lt q hq).2
        have hzg : gr < w2.heap.size := HI2.out.str.lt
        have hzw : w.heap.size ≤ w2.heap.size := HI2.out.below.size
        have hzW : w.heap.size ≤ wr.heap.size ∧ gr < wr.heap.size ∧ gs < wr.heap.size := HZW
        obtain ⟨a3, c3, rfl⟩ := owns_shape hr3
        obtain ⟨ah, nh, ch, rfl⟩ : ∃ a n c, h1 = .slice a n c := by obtain ⟨a, c, e⟩ := owns_shape ho3; exact ⟨a, _, c, e⟩
        have HStr3 := Lib.hid hstr3; have HX3 := Lib.hid hx3; have HR3 := Lib.hid hR3; have HB3 := Lib.hid hB3; have HRh := Lib.hid hRh; have HXh := Lib.hid hxh; have HXR := Lib.hid hxR
        have HS3 := Lib.hid hs3; have HH3 := Lib.hid ho3; have HRow3 := Lib.hid hr3; have HM3 := Lib.hid hM3; have HNe3 := Lib.hid hne3; have HSp := Lib.hid hsp
        have HPb := Lib.hid HI2.out.bytes
        have HXl := Lib.hid hxl; have HRl := Lib.hid hRl; have HZw := Lib.hid hzw; have HZg := Lib.hid hzg; have HZWW := Lib.hid hzW
        have HX0 := Lib.hid (fun q hq => (HX.out.lt q hq).1)
        have q3 := (str_cell hstr3).1
        clear hstr3 hx3 hR3 hB3 hRh hxh hxR hs3 ho3 hr3 hM3 hne3 hsp hg3 hloc3 HX HI2 HhW HRW hxl hRl hzw hzg hzW
        go_wp2_with fail
        refine (refFeed3_calls R _ P bd w3 (BRow.of_own HR3.out HPb.out) (HBd.out.below HB3.out) (by omega)).mono ?_
        rintro e w4 ⟨R', v4, rfl, ht4, hb4, hR4⟩
        obtain ⟨P', hb', hl', hE', hB', hH', hR', hap'⟩ : ∃ P', AllB P' ∧ P'.length ≤ P.length + bd.length ∧ splE P' = splE (P ++ bd) ∧ splB P' = splB (P ++ bd) ∧ feedH P' = feedH (P ++ bd) ∧ Own8 w4 w.heap.size R' P' ∧ (∀ q, R'.ownBlock = some q → (Value.slice ah nh ch).ownBlock ≠ some q ∧ (Value.slice a2 n2 c2).ownBlock ≠ some q ∧ ∀ i < L1.length, (V1.getD i undef).ownBlock ≠ some q) := by
          rcases hR4 with ⟨h31, rfl⟩ | ⟨h31, ho⟩
          · obtain ⟨f1, f2, f3⟩ := feedP_dead HPb.out HBd.out.1 h31
            exact ⟨P, HPb.out, by omega, f1.symm, f2.symm, f3.symm, ownsRow_below HR3.out hb4, fun q hq => ⟨HRh.out q hq, fun e => HXR.out q e hq, fun i hi e => by have := ((HM3.out.2.1 i hi).lt q e).1; have := HRl.out q hq; omega⟩⟩
          · exact ⟨P ++ bd, HPb.out.append HBd.out.1, by rw [List.length_append]; omega, rfl, rfl, rfl, own_base ho HB3.out.size, fun q hq => ⟨fun e => by have := (HH3.out.lt q e).2; have := (ho.lt q hq).1; omega, fun e => by have := (HX3.out.lt q e).2; have := (ho.lt q hq).1; omega, fun i hi e => by have := ((HM3.out.2.1 i hi).lt q e).2; have := (ho.lt q hq).1; omega⟩⟩
        have hLb : ∀ l ∈ L1, AllB l := fun l hl => splB_allB (HPb.out.append HBd.out.1) l (by rw [HSp.out]; exact List.mem_append_right _ hl)
        have hdr : (splB (P ++ bd)).drop (splB P).length = L1 := by rw [HSp.out, List.drop_left]
        rw [hdr] at ht4
        obtain ⟨aR, nR, cR, rfl⟩ : ∃ a n c, R' = .slice a n c := by obtain ⟨a, c, e⟩ := owns_shape hR'; exact ⟨a, _, c, e⟩
        have hA4 := (Below.refl w4.heap.size w4).alloc (Nat.le_refl _) (.cells #[.slice aR nR cR] 120)
        have hBB := hb4.trans (hA4.mono hb4.size)
        have hstr4 := HStr3.out.below hBB
        have hg5 := grownBy_setCell (w4.alloc (.cells #[.slice aR nR cR] 120)) gr 0 (.slice aR nR cR)
        have hgl : gr < w3.heap.size := HStr3.out.lt
        have hB4 := HB3.out.trans (hBB.mono HB3.out.size)
        have HI5 := Lib.hid (show FdI w ((w4.alloc (.cells #[.slice aR nR cR] 120)).setCell ⟨gr, 0, none⟩ (.slice aR nR cR)) gs gr P' (.slice ah nh ch) (.slice aR nR cR) from
          ⟨str_set hstr4 _, by rw [hE', hB']; exact (HS3.out.below hBB).other hg5 hg0, by rw [hH']; exact own8_str (ownsRow_below HH3.out hBB) hstr4 hg5, own8_str (ownsRow_below hR' hA4) hstr4 hg5, hb', fun q hq => (hap' q hq).1, hB4.grown hg5 hB4.size (fun q hq => by cases hq; omega)⟩)
        have HX5 := Lib.hid (own8_str (ownsRow_below HX3.out hBB) hstr4 hg5)
        have HRow5 := Lib.hid (row_str (ownsRow_below HRow3.out hBB) hstr4 hg5)
        have HM5 := Lib.hid (mval_str (HM3.out.below hBB) hstr4 hg5)
        have HT5 := Lib.hid (ht4 _ _ hA4 gr hgl hg5)
        have HAp := Lib.hid hap'; have HLb := Lib.hid hLb
        have HVb := Lib.hid (fun i hi q hq => ((HM3.out.2.1 i hi).lt q hq).1)
        have hPl' : P'.length ≤ 400 * (k + 1) := by omega
        have hc4 := (str_cell (show StrAt (w4.alloc (.cells #[.slice aR nR cR] 120)) w4.heap.size (.slice aR nR cR) from World.alloc_heap_new w4 _)).1
        obtain ⟨hc6, hc5⟩ := str_cell hstr4
        have hFE : ((feedE (P ++ bd) : Int) != (feedE (P ++ bd) : Int)) = false := by simp
        clear hA4 hBB hg5 hgl hB4 hap' hLb hdr ht4 hb4 hR' hR4 hb' hl' hE' hB' hH' q3 hstr4
        clear HStr3 HX3 HR3 HB3 HRh HXR HS3 HH3 HRow3 HM3 HSp
        go_wp2_with fail
        generalize (w4.alloc (.cells #[.slice aR nR cR] 120)).setCell ⟨gr, 0, none⟩ (.slice aR nR cR) = w5 at *
        clear hc4 hc5 hc6
        refine (equalM_b _ _ L1 L1 w5 (trow_of HRow5.out HM5.out HLb.out) HT5.out true (decide_eq_true rfl)).mono ?_
        rintro e w6 ⟨rfl, hb6⟩
        have HI6 := Lib.hid (HI5.out.to hb6); have HX6 := Lib.hid (ownsRow_below HX5.out hb6); have HRow6 := Lib.hid (ownsRow_below HRow5.out hb6); have HM6 := Lib.hid (HM5.out.below hb6)
        clear hb6 HI5 HX5 HRow5 HM5 HT5
        go_wp2_with fail
        refine (bytesEqual_b _ _ bd bd w6 (BRow.of_own HX6.out HBd.out.1) (HBd.out.below HI6.out.below) true (decide_eq_true rfl)).mono ?_
        rintro e w7 ⟨rfl, hb7⟩
        have HI7 := Lib.hid (HI6.out.to hb7); have HX7 := Lib.hid (ownsRow_below HX6.out hb7); have HRow7 := Lib.hid (ownsRow_below HRow6.out hb7); have HM7 := Lib.hid (HM6.out.below hb7)
        clear hb7 HI6 HX6 HRow6 HM6
        go_wp2_with fail
        have hA7 := (Below.refl w7.heap.size w7).alloc (Nat.le_refl _) (.cells #[.slice a2 n2 c2] 23)
        refine (spoil1_calls _ bd wr.heap.size w7.heap.size _ (ownsRow_below HX7.out hA7) HBd.out.1 (World.alloc_heap_new w7 _)).mono ?_
        rintro e w8 ⟨⟨r8, rfl⟩, hg8⟩
        have HI8 := Lib.hid ((HI7.out.to hA7).spoiled hg8 (fun e => by have := HX0.out _ e; have := HZWW.out.2.1; omega) (fun e => by have := HX0.out _ e; have := HZWW.out.2.2; omega) (fun q hq e => HXh.out q e hq) (fun q hq e => (HAp.out q hq).2.1 e) (fun q e => Nat.le_trans HZWW.out.1 (HX0.out q e)))
        have HRow8 := Lib.hid (rowM_gr (ownsRow_below HRow7.out hA7) (ownsRow_below HX7.out hA7) hg8)
        have HM8 := Lib.hid (show MVal w8 w2.heap.size V1 L1 from ⟨HM7.out.1, fun i hi => own8_gr ((HM7.out.below hA7).2.1 i hi) hg8 (fun q hq e => by have := HVb.out i hi q hq; have := HXl.out q e; omega), HM7.out.2.2⟩)
        clear hA7 hg8 HI7 HX7 HRow7 HM7
        go_wp2_with fail
        refine (spoilM_calls _ L1.length w2.heap.size w2.heap.size V1 L1 w8 HRow8.out HM8.out rfl HLb.out).mono ?_
        rintro e w9 ⟨⟨r9, rfl⟩, hsp9⟩
        have HI9 := Lib.hid (hsp9 (fun W => FdI w W gs gr P' (.slice ah nh ch) (.slice aR nR cR)) HI8.out (fun W W' i hi hQ hg => hQ.spoiled hg (fun e => by have := HVb.out i hi _ e; have := HZg.out; omega) (fun e => by have := HVb.out i hi _ e; have := HZg.out; omega) (fun q hq e => HNe3.out i hi q e hq) (fun q hq e => (HAp.out q hq).2.2 i hi e) (fun q e => Nat.le_trans HZw.out (HVb.out i hi q e))))
        clear hsp9 HI8 HRow8 HM8
        have q9 := (str_cell HI9.out.str).1
        go_wp2_with fail
        refine (refTells3_calls _ P' w.heap.size w9 HI9.out.all HI9.out.bytes (by omega)).mono ?_
        rintro e w10 ⟨rfl, hb10⟩
        have HI10 := Lib.hid (HI9.out.to hb10)
        clear hb10 HI9 q9
        obtain ⟨t1, t2, t3, t4⟩ := stream_tells P'
        have hnh : nh = (feedH P').length := by
          obtain ⟨a, c, e⟩ := owns_shape HI10.out.held
          simp only [Value.slice.injEq] at e
          exact e.2.1
        rw [← t1, ← t2, ← hnh]
        have hnl : (feedH P').length ≤ 1000000 := by unfold feedH; split; simp; rw [List.length_drop]; omega
        obtain ⟨st, hst⟩ : ∃ st : Nat, (if splE P' = 31 then 2 else 1) = st := ⟨_, rfl⟩
        obtain ⟨fr, hfr⟩ : ∃ fr : Nat, (splB P').length = fr := ⟨_, rfl⟩
        obtain ⟨dd, hdd⟩ : ∃ dd : Bool, (splE P' == 31) = dd := ⟨_, rfl⟩
        have hsat := HI10.out.sat
        rw [hst, hfr] at hsat
        rw [hst] at t3 t4 ⊢
        rw [hfr]
        obtain ⟨nd, hnd⟩ : ∃ nd : Nat, (if st = 1 then fneed (feedH P') else 0) = nd := ⟨_, rfl⟩
        rw [hnd]
        have HSat := Lib.hid hsat
        have HHd := Lib.hid (fun W (hb : Below w10.heap.size w10 W) => held_calls gs st fr _ _ nh _ W (HSat.out.below hb) rfl t4)
        have HNd := Lib.hid (fun W (hb : Below w10.heap.size w10 W) => show Calls Try.prog 38 #[.pointer (some ⟨gs, 0, none⟩)] W fun e w' => e = .returned (.int .i64 (nd : Int)) ∧ Below W.heap.size W w' from by rw [← hnd]; exact sneed_calls gs st fr _ (feedH P') W (HSat.out.below hb) ((BRow.of_own HI10.out.held (feedH_allB HI10.out.bytes)).below hb))
        have HFr := Lib.hid (fun W (hb : Below w10.heap.size w10 W) => frames_calls gs st fr _ W (HSat.out.below hb) t4)
        have HDe := Lib.hid (fun W (hb : Below w10.heap.size w10 W) => show Calls Try.prog 40 #[.pointer (some ⟨gs, 0, none⟩)] W fun e w' => e = .returned (.bool dd) ∧ W = w' from by rw [← hdd, ← t3]; exact dead_calls gs st fr _ W (HSat.out.below hb))
        have HRd := Lib.hid (fun W (hb : Below w10.heap.size w10 W) => show Calls Try.prog 83 #[.agg #[.slice aR nR cR]] W fun e w' => e = .returned (.bool dd) ∧ Below W.heap.size W w' from by rw [← hdd]; exact refDead3_calls _ P' W ((BRow.of_own HI10.out.all HI10.out.bytes).below hb) (by omega))
        have HCl := Lib.hid (fun W (hb : Below w10.heap.size w10 W) => (str_cell (HI10.out.str.below hb)).1)
        have hc1 : ((nh : Int) != (nh : Int)) = false := by simp
        have hc2 : ((nd : Int) != (nd : Int)) = false := by simp
        have hc3 : ((fr : Int) != (fr : Int)) = false := by simp
        have hc4 : (dd != dd) = false := by simp
        clear t1 t2 t3 t4 hst hfr hdd hsat hnd hnh hnl
        clear HNe3 HPb HXl HRl HZw HZg HX0 HXh HAp HLb HVb
        go_wp2_with fail
        go_region_law (first
          | (go_simp; go_at_call 37; refine (HHd.out _ (by first | exact (Below.refl _ _).drew | exact Below.refl _ _)).mono ?_; rintro e w11 ⟨rfl, rfl⟩)
          | (go_simp; go_at_call 38; refine (HNd.out _ (by first | exact (Below.refl _ _).drew | exact Below.refl _ _)).mono ?_; rintro e w12 ⟨rfl, hb12⟩; have HB12 := Lib.hid (show Below w10.heap.size w10 w12 by first | exact (Below.refl w10.heap.size w10).drew.trans hb12 | exact hb12); have q12 := HCl.out _ HB12.out; clear hb12)
          | (go_simp; go_at_call 39; refine (HFr.out _ HB12.out).mono ?_; rintro e w13 ⟨rfl, rfl⟩)
          | (go_simp; go_at_call 40; refine (HDe.out _ HB12.out).mono ?_; rintro e w14 ⟨rfl, rfl⟩)
          | (go_simp; go_at_call 83; refine (HRd.out _ HB12.out).mono ?_; rintro e w15 ⟨rfl, hb15⟩; have HB15 := Lib.hid (HB12.out.trans (hb15.mono HB12.out.size)); clear hb15)
          | fail)
        all_goals
          go_wp2_with fail
          exact ⟨⟨k + 1, P', _, _, by omega, by go_num, hPl', HI10.out.to HB15.out⟩, by simp [intOf]; omega⟩
    · obtain rfl : k = T.length := by omega
      have hd : decide ((T.length : Int) < (T.length : Int)) = false := by simp
      have HBw := Lib.hid HI.out.below
      clear HI HZW
      go_wp2_with fail
      go_ret
      exact ⟨rfl, HBw.out⟩
end Go.Proofs.Ytlohggdabpfkhaa
