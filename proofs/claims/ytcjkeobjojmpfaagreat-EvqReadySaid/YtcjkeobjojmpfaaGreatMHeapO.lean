import Derived.Test.YtcjkeobjojmpfaaGreatMHeapK
import Derived.Test.YtcjkeobjojmpfaaGreatMDrawn3
import Derived.Sort.OwnSorted
import Derived.Shelf.SlSortCmp.WholeK
import Derived.Shelf.SlSortCmp.NoneTotal
section
/-
  CONTRACTS of heap's places and Tree.
-/
namespace Go.Proofs.YtcjkeobjojmpfaaGreat
open Go.RowKit Go.Shelf

/-- A ROW OF NUMBERS in the block g. -/
structure IR (w : World) (g c : Nat) (l : List Int) : Prop where
  blk : ∃ cur, w.heap[g]? = some (.cells cur 3 (0, 0))
  le : l.length ≤ c ∧ c ≤ maxLen
  cell : ∀ i, i < l.length → w.cell? ⟨g, i, none⟩ = some (.int .i64 (l.getD i 0))
theorem IR.lt {w : World} {g c : Nat} {l : List Int} (h : IR w g c l) : g < w.heap.size := by
  obtain ⟨cur, hc⟩ := h.blk
  exact (Array.getElem?_eq_some_iff.1 hc).1
theorem IR.keep {w w' : World} {g c : Nat} {l : List Int} (h : IR w g c l) (e : w'.heap[g]? = w.heap[g]?) : IR w' g c l :=
  ⟨by rw [e]; exact h.blk, h.le, fun i hi => by rw [cell_blk e]; exact h.cell i hi⟩
theorem IR.below {w w' : World} {g c : Nat} {l : List Int} (h : IR w g c l) (hb : Below w.heap.size w w') : IR w' g c l := h.keep (hb.block g h.lt)
theorem IR.off {F : Nat → Prop} {w w' : World} {g c : Nat} {l : List Int} (h : IR w g c l) (hb : Off F w w') (hF : ¬ F g) : IR w' g c l := h.keep (hb.block g h.lt hF)
/-- The places of some entries. -/
def plc (t : List En) : List Int := t.map fun e => (e.2 : Int)
theorem plc_len (t : List En) : (plc t).length = t.length := by simp [plc]
theorem plc_get (t : List En) (i : Nat) (h : i < t.length) : (plc t).getD i 0 = ((en t i).2 : Int) := by
  unfold plc
  rw [List.getD_eq_getElem?_getD, List.getElem?_map, en_get h]; rfl
set_option maxRecDepth 100000 in
set_option maxHeartbeats 2000000 in
theorem places_calls (tv : Value) (t : List En) (w : World) (h : TV w tv t) (hn : t.length ≤ 4096) :
    Calls Tryz.prog 84 #[tv] w fun e w' => ∃ g c, e = .returned (.slice (some ⟨g, 0, none⟩) t.length c) ∧ IR w' g c (plc t) ∧ w.heap.size ≤ g ∧ Below w.heap.size w w' := by
  obtain ⟨ta, tc, rfl, htc, htl⟩ := h.shape
  obtain ⟨m, hm⟩ : ∃ m, t.length = m := ⟨_, rfl⟩
  obtain ⟨w1, hmk, ⟨C, hg1, hC⟩, hb1⟩ := make_ints m (by omega) w
  have HB1 := Lib.hid hb1
  have HG1 := Lib.hid (show ∃ cur, w1.heap[w.heap.size]? = some (.cells cur 3 (0, 0)) ∧ cur.size = m ∧ ∀ i, i < 0 → cur[i]? = some (.int .i64 ((en t i).2 : Int)) from ⟨_, hg1, by simpa using hC, fun i h => by omega⟩)
  have HT := Lib.hid h
  have HM := Lib.hid hm
  rw [hm]
  rw [hm] at hn htl
  clear hg1 hb1 hC h
  have hmi : (m : Int) ≤ 4096 := by omega
  obtain ⟨g, hg⟩ : ∃ g, w.heap.size = g := ⟨_, rfl⟩
  have HGe := Lib.hid hg
  rw [hg] at hmk HG1
  clear hm hg
  go_enter Tryz.func84, Tryz.ntmps84
  go_wp2_with fail
  go_loopw [11] (fun s11 wr => ∃ k : Nat, k ≤ m ∧ s11 = .int .i64 (k : Int) ∧ (∃ cur, wr.heap[g]? = some (.cells cur 3 (0, 0)) ∧ cur.size = m ∧ ∀ i, i < k → cur[i]? = some (.int .i64 ((en t i).2 : Int))) ∧ Below g w wr) (fun s11 _ => m - (intOf s11).toNat)
  case atStart => exact ⟨0, Nat.zero_le _, rfl, HG1.out, by rw [← HGe.out]; exact HB1.out⟩
  case round =>
    obtain ⟨k, hk, rfl, ⟨cur, hcur, hcs, hci⟩, hB⟩ := hrel
    have HB := Lib.hid hB
    have HCu := Lib.hid hcur
    have HCi := Lib.hid (And.intro hcs hci)
    clear HG1 HB1 hmk hB hci
    by_cases hlt : k < m
    · have ht := HT.out.below (show Below w.heap.size w wr by rw [HGe.out]; exact HB.out)
      rcases ht with ⟨e, e2⟩ | ⟨gt, cap, e, hrow, hcap⟩
      · have := HM.out; rw [e2] at this; simp at this; omega
      obtain ⟨x0, x1, x2, x3⟩ := hrow.cell k (by rw [HM.out]; exact hlt)
      have e3 : ta = some ⟨gt, 0, none⟩ ∧ tc = cap := by simpa [HM.out] using e
      obtain ⟨rfl, rfl⟩ := e3
      obtain ⟨E, hE⟩ : ∃ E, en t k = E := ⟨_, rfl⟩
      have HE := Lib.hid hE
      rw [hE] at x0 x1 x2 x3
      have hrl := hrow.lt
      have hgl : g < wr.heap.size := (Array.getElem?_eq_some_iff.1 hcur).1
      obtain ⟨cv, hgc⟩ : ∃ cv, wr.cell? ⟨g, k, none⟩ = some cv := ⟨cur[k]'(by omega), by simp [World.cell?, hcur, hcs, hlt]⟩
      have hgf : wr.frozen? ⟨g, k, none⟩ = false := by simp [World.frozen?, hcur]
      have hk1 : (k : Int) < (m : Int) := by omega
      have HNew := Lib.hid (show ∀ wx : World, wx.heap[g]? = wr.heap[g]? → ∃ cur', (wx.setCell ⟨g, k, none⟩ (.int .i64 (E.2 : Int))).heap[g]? = some (.cells cur' 3 (0, 0)) ∧ cur'.size = m ∧ ∀ i, i < k + 1 → cur'[i]? = some (.int .i64 ((en t i).2 : Int)) by
        intro wx hx
        refine ⟨_, heap_setC (hx.trans HCu.out) k _, by simp [HCi.out.1], fun i hi => ?_⟩
        rw [Array.getElem?_setIfInBounds]
        by_cases c : k = i
        · subst c
          rw [if_pos rfl, if_pos (by rw [HCi.out.1]; omega), HE.out]
        · rw [if_neg c]; exact HCi.out.2 i (by omega))
      clear hcur hcs e hrow hcap hE
      go_wp2_with fail
      go_roundw
      case rel =>
        refine ⟨k + 1, hlt, by go_num, ?_, ?_⟩
        · rw [Below.heap_alloc _ _ _ (by simpa using hgl)]
          exact HNew.out wr rfl
        · exact (HB.out.setCell (p := ⟨g, k, none⟩) (Nat.le_refl _) _).alloc (by simp; omega) _
      case measure => simp [intOf]; omega
    · obtain rfl : k = m := by omega
      go_wp2
      go_ret
      refine ⟨g, k, rfl, ⟨⟨cur, HCu.out⟩, ⟨by rw [plc_len, HM.out]; exact Nat.le_refl _, by unfold maxLen; omega⟩, fun i hi => ?_⟩, by rw [HGe.out]; exact Nat.le_refl _, by rw [HGe.out]; exact HB.out⟩
      rw [plc_len, HM.out] at hi
      rw [plc_get _ _ (by rw [HM.out]; exact hi)]
      have := HCi.out.2 i hi
      simp [World.cell?, HCu.out, this]
end Go.Proofs.YtcjkeobjojmpfaaGreat
end

section
/-
  CONTRACTS of slices.Values, AppendSeq and Collect at entries.
-/
namespace Go.Proofs.YtcjkeobjojmpfaaGreat
open Go.RowKit Go.Shelf

attribute [local go_sem] Oper.semAt_some

set_option maxHeartbeats 1000000 in
theorem values_calls (a : Option Addr) (m c : Nat) (w : World) :
    Calls Tryz.prog 86 #[.slice a m c] w fun e w' => e = .returned (.func (.func 110) #[] #[.pointer (some ⟨w.heap.size, 0, none⟩)]) ∧ w' = w.alloc (.cells #[.slice a m c] 118) := by
  go_enter Tryz.func86, Tryz.ntmps86
  go_wp2
  go_ret
  exact ⟨rfl, rfl⟩
/-- What the iterator reads. -/
def Vals (Bt : Nat) (a : Option Addr) (c : Nat) (t : List En) (W : World) : Prop := Boxed W Bt 118 (.slice a t.length c) ∧ TV W (.slice a t.length c) t
set_option maxRecDepth 100000 in
set_option maxHeartbeats 2000000 in
theorem values1_kept (n : Nat) (hn : 1 ≤ n) (Bt c : Nat) (a : Option Addr) (t : List En) (ht : t.length ≤ 4096) :
    SeqKept Fence.wide n Tryz.prog 110 #[.pointer (some ⟨Bt, 0, none⟩)] (fun k => #[.agg #[.int .i64 (en t k).1.1, .int .i64 (en t k).1.2.1, .int .i64 (en t k).1.2.2, .int .i64 ((en t k).2 : Int)]]) t.length (Vals Bt a c t) := by
  intro l J Jx W hJA hJx hSt hY h0
  have hY0 := Lib.hid hY
  have hJ0 := Lib.hid hJA
  have hS0 := Lib.hid hSt
  have HJ00 := Lib.hid h0
  obtain ⟨k1, k2⟩ := hSt 0 W h0
  have c1 := k1.cell
  obtain ⟨m, hm⟩ : ∃ m, t.length = m := ⟨_, rfl⟩
  have HM := Lib.hid hm
  rw [hm] at c1 ht
  have hmi : (m : Int) ≤ 4096 := by omega
  clear hY hJA hJx hSt h0 k1 k2
  refine callsIn_of_wp Tryz.func110 rfl trivial ?_ rfl
  simp only [Tryz.ntmps110, List.size_toArray, List.length_cons, List.length_nil, Nat.reduceAdd, Nat.reduceSub, Array.replicate_succ, Array.replicate_zero, List.push_toArray, List.append_toArray, List.nil_append, List.cons_append]
  clear hm
  rw [HM.out]
  gi_wp2
  gi_loopw [7] (fun jv wr => ∃ k : Nat, k ≤ m ∧ jv = .int .i64 (k : Int) ∧ J k wr) (fun jv _ => m - (intOf jv).toNat)
  case atStart => exact ⟨0, Nat.zero_le _, by simp, HJ00.out⟩
  case round =>
    obtain ⟨k, hk, rfl, hJ⟩ := hrel
    have HJ := Lib.hid hJ
    obtain ⟨k1, k2⟩ := hS0.out k wr hJ
    clear hJ k1 c1
    by_cases hlt : k < m
    · have e1 : (k : Int) < (m : Int) := by omega
      rcases k2 with ⟨_, e2⟩ | ⟨g, cap, e, hrow, hcap⟩
      · have := HM.out; rw [e2] at this; simp at this; omega
      obtain ⟨x0, x1, x2, x3⟩ := hrow.cell k (by rw [HM.out]; exact hlt)
      have e3 : a = some ⟨g, 0, none⟩ ∧ c = cap := by simpa [HM.out] using e
      obtain ⟨rfl, rfl⟩ := e3
      have HJa := Lib.hid (hJ0.out k wr _ HJ.out (World.grownBy_alloc wr (.cells #[.int .i64 (en t k).1.1, .int .i64 (en t k).1.2.1, .int .i64 (en t k).1.2.2, .int .i64 ((en t k).2 : Int)] 117) none))
      obtain ⟨fn, tmps, assign, body, hy, hR⟩ := hY0.out k _ (by rw [HM.out]; exact hlt) HJa.out
      have HR := Lib.hid hR
      generalize en t k = E at *
      clear hR e hrow hcap
      gi_wp2_with fail
      refine HR.out.mono ?_
      rintro e W3 (⟨rfl, hJ3⟩ | ⟨rfl, hJx3⟩)
      · have HJ3 := Lib.hid hJ3
        clear hJ3
        gi_wp2
        go_roundw
        case rel => exact ⟨k + 1, hlt, by go_num, HJ3.out⟩
        case measure => simp [intOf]; omega
      · gi_wp2
        refine bodyPost_ret (results_none rfl _ _ _) rfl ?_
        exact ⟨⟨_, rfl⟩, .inr ⟨k, hlt, hJx3⟩⟩
    · obtain rfl : k = m := by omega
      clear k2 hlt
      gi_wp2
      refine bodyPost_end (results_none rfl _ _ _) rfl ?_
      exact ⟨⟨_, rfl⟩, .inl HJ.out⟩
end Go.Proofs.YtcjkeobjojmpfaaGreat
end

section
/-
  CONTRACTS of slices.AppendSeq and Collect at entries.
-/
namespace Go.Proofs.YtcjkeobjojmpfaaGreat
open Go.RowKit Go.Shelf

attribute [local go_sem] Oper.semAt_some

theorem cells4_new (w : World) (a b c d : Value) (ty : TypeId) : ∀ j u, [a, b, c, d][j]? = some u → (w.alloc (.cells #[a, b, c, d] ty)).cell? ((⟨w.heap.size, 0, none⟩ : Addr).add j) = some u := by
  intro j u hj
  rw [Addr.add_lit, Nat.zero_add]
  have hh : (w.alloc (.cells #[a, b, c, d] ty)).heap[w.heap.size]? = some (.cells #[a, b, c, d] ty) := World.alloc_heap_new w _
  rw [cell_of_row _ _ j _ _ (0, 0) hh, ← Array.getElem?_toList]
  exact hj
theorem take_succ_en (t : List En) (k : Nat) (h : k < t.length) : cellsE (t.take (k + 1)) = cellsE (t.take k) ++ encE (en t k) := by
  have e : t.take (k + 1) = t.take k ++ [en t k] := by
    rw [List.take_add_one, en_get h]; rfl
  rw [e, cellsE_append]
  rfl
set_option maxRecDepth 100000 in
set_option maxHeartbeats 4000000 in
theorem appendSeqE_in (r : Nat) (hr : 5 ≤ r) (Bt c : Nat) (a : Option Addr) (t : List En) (w : World) (hV : Vals Bt a c t w) (ht : t.length ≤ 4096) :
    CallsIn Fence.wide r Tryz.prog 122 #[.slice none 0 0, .func (.func 110) #[] #[.pointer (some ⟨Bt, 0, none⟩)]] w fun e W' => ∃ v', e = .returned v' ∧ W'.ownsRow w.heap.size 117 4 v' t.length (cellsE t) ∧ Below w.heap.size w W' := by
  obtain ⟨i0, hi, hz0, hz1, hz2⟩ := info_parts info_entry
  refine callsIn_of_wp_marks Tryz.func122 rfl trivial ?_ rfl
  simp only [Tryz.ntmps122, List.size_toArray, List.length_cons, List.length_nil, Nat.reduceAdd, Nat.reduceSub, Array.replicate_succ, Array.replicate_zero, List.push_toArray, List.append_toArray, List.nil_append, List.cons_append]
  gi_wp2_with fail
  have b1 := Boxed.new w 118 (.slice none 0 0)
  have hB0 : Below w.heap.size w (w.alloc (.cells #[.slice none 0 0] 118)) := (Below.refl _ w).alloc (Nat.le_refl _) _
  have hBt := hV.1.lt
  refine wpIn_rangeKept (encs := fun k => #[.agg #[.int .i64 (en t k).1.1, .int .i64 (en t k).1.2.1, .int .i64 (en t k).1.2.2, .int .i64 ((en t k).2 : Int)]]) (N := t.length) (St := Vals Bt a c t) rfl (by omega) (gf := 110) (lb := #[.pointer (some ⟨Bt, 0, none⟩)]) rfl trivial (enters_of Tryz.func110 (by kernel_rfl) rfl)
    (values1_kept (r - 1) (by omega) Bt c a t ht)
    (fun _ => rfl)
    (fun k W => (∃ v, Boxed W w.heap.size 118 v ∧ W.ownsRow w.heap.size 117 4 v k (cellsE (t.take k)) ∧ True) ∧ Below w.heap.size w W)
    (fun _ _ _ => False)
    (fun k W h => ⟨(h.2.block Bt hBt).trans hV.1, hV.2.below h.2⟩)
    (OwnFrom.and (Own.from (holdsRow_own w.heap.size w.heap.size 118 117 4 (fun k => k) (fun k => cellsE (t.take k)) (fun _ _ => True)) _) (ownFrom_below (Nat.le_refl _) (by simp)))
    (fun c => ownFrom_pure _ _)
    ⟨⟨_, b1, World.ownsRow_nil _ _ _ _, trivial⟩, hB0⟩
    (fun k a' W => ∃ pb, a' = { tmps := #[.slice none 0 0, .func (.func 110) #[] #[.pointer (some ⟨Bt, 0, none⟩)], .pointer (some ⟨w.heap.size, 0, none⟩), undef, .slice none 0 0, .pointer (some ⟨pb, 0, none⟩), .func (.func 110) #[] #[.pointer (some ⟨Bt, 0, none⟩)], .agg #[.int .i64 (en t k).1.1, .int .i64 (en t k).1.2.1, .int .i64 (en t k).1.2.2, .int .i64 ((en t k).2 : Int)], undef, undef, undef, undef, undef], defers := [] } ∧ BoxE W pb (en t k))
    (fun k a' => fun s A B row hs hg hr => by obtain ⟨pb, e1, e2⟩ := hs; exact ⟨pb, e1, (hg.block pb (Array.getElem?_eq_some_iff.1 e2).1 (fun e => by obtain ⟨_, o, ho, hc⟩ := hr pb e.symm; rw [show A.heap[pb]? = _ from e2] at ho; cases ho; cases hc)).trans e2⟩) ?assign ?body ?done ?stop
  case assign =>
    rintro l k W K hk hI hK
    generalize en t k = E at *
    gi_wp2
    refine hK _ _ ((KeepsOthers.alloc _ _).from _) ?_ ⟨_, rfl, World.alloc_heap_new W _⟩
    obtain ⟨⟨v, h1, h2, h3⟩, h4⟩ := hI
    exact ⟨⟨v, h1.alloc _, h2.alloc _, h3⟩, h4.alloc h4.size _⟩
  case body =>
    rintro l k a' W hk ⟨⟨v, hv, hrow2, -⟩, hB⟩ ⟨pb, rfl, hpb⟩
    have hV0 := Lib.hid hv
    have hR2 := Lib.hid hrow2
    have hBB := Lib.hid hB
    have hsz := hB.size
    have hI := Lib.hid hi
    have hZ0 := Lib.hid hz0
    have hZ1 := Lib.hid hz1
    have hZ2 := Lib.hid hz2
    have c3 := hv.cell
    have f3 := hv.frozen
    obtain ⟨p0, p1, p2, p3, -⟩ := hpb.cells
    have HTk := Lib.hid (take_succ_en t k hk)
    generalize en t k = E at *
    clear hv hrow2 hB hi hz0 hz1 hz2 b1 hB0 hV hBt hpb
    gi_wp2_with (gi_at_builtin; refine wpListIn_append_own _ rfl _ _ 118 rfl w.heap.size 117 i0 (.agg #[.int .i64 0, .int .i64 0, .int .i64 0, .int .i64 0]) 4 32 Tryz.underlying118 hI.out hZ0.out hZ1.out hZ2.out rfl (by decide) _ _ _ rfl (hR2.out.alloc _) ⟨W.heap.size, 0, none⟩ 1 1 [.int .i64 E.1.1, .int .i64 E.1.2.1, .int .i64 E.1.2.2, .int .i64 (E.2 : Int)] rfl rfl (cells4_new _ _ _ _ _ _) (by intro u hu; simp at hu; rcases hu with rfl | rfl | rfl | rfl <;> rfl) (by unfold maxLen; omega) (by omega) (by simp; omega) ?_; intro v' w1 hown' hgrow _; obtain ⟨g', cap', rfl⟩ := ownsRow_succ hown'; obtain ⟨hv1, hv2, hr2, hk2, hb2⟩ := hV0.out.appended (by decide) hR2.out hsz (by omega) hown' hgrow; have hc1 := hv1.cell; have hf1 := hv1.frozen; have hG := Lib.hid hgrow; have hV2 := Lib.hid hv2; have hR3 := Lib.hid hr2; have hK2 := Lib.hid hk2; have hB2 := Lib.hid hb2; clear hgrow hv1 hv2 hr2 hk2 hb2 hown')
    refine ⟨hK2.out.from _, ⟨_, hV2.out, ?_, trivial⟩, hBB.out.trans hB2.out⟩
    rw [HTk.out]
    exact hR3.out
  case done =>
    rintro D W hD ⟨⟨v, hv, hrow2, -⟩, hB⟩ hK
    have e : ∃ va n vc, v = .slice va n vc := by
      rcases hrow2.2 with ⟨rfl, _⟩ | ⟨g, cap, cur, rfl, _⟩
      · exact ⟨_, _, _, rfl⟩
      · exact ⟨_, _, _, rfl⟩
    obtain ⟨va, vn, vc, rfl⟩ := e
    have hV0 := Lib.hid hv
    have hR2 := Lib.hid hrow2
    have hBB := Lib.hid hB
    have hKK := Lib.hid hK
    have hDD := Lib.hid hD
    have c3 := hv.cell
    clear hv hrow2 hB hK hD hi hz0 hz1 hz2 b1 hB0 hV
    gi_wp2
    refine ⟨by simp, .inl ⟨_, _, rfl, run_takeDeferred hKK.out, ?_⟩⟩
    have hD0 := hDD.out
    simp only [World.size_alloc] at hD0
    refine ⟨.slice va vn vc, by simp [results, Tryz.f122, go_sem], .slice va vn vc, rfl, ?_, hBB.out.trans (belowK_b (w := w) (Nat.le_refl _) _ D _ _ (by omega) hKK.out rfl rfl)⟩
    have h := ownsRow_putObj hR2.out (.deferred none) hKK.out rfl
    rw [List.take_length] at h
    exact h
  case stop =>
    rintro D c k W hD hk h hK
    exact h.elim
theorem appendSeqE_calls (Bt c : Nat) (a : Option Addr) (t : List En) (w : World) (hV : Vals Bt a c t w) (ht : t.length ≤ 4096) :
    Calls Tryz.prog 122 #[.slice none 0 0, .func (.func 110) #[] #[.pointer (some ⟨Bt, 0, none⟩)]] w fun e W' => ∃ v', e = .returned v' ∧ W'.ownsRow w.heap.size 117 4 v' t.length (cellsE t) ∧ Below w.heap.size w W' :=
  (callsIn_wide (n := 5)).1 (appendSeqE_in 5 (by omega) Bt c a t w hV ht)
set_option maxRecDepth 100000 in
theorem collectE_calls (Bt c : Nat) (a : Option Addr) (t : List En) (w : World) (hV : Vals Bt a c t w) (ht : t.length ≤ 4096) :
    Calls Tryz.prog 108 #[.func (.func 110) #[] #[.pointer (some ⟨Bt, 0, none⟩)]] w fun e W' => ∃ a c, e = .returned (.slice a t.length c) ∧ W'.ownsRow w.heap.size 117 4 (.slice a t.length c) t.length (cellsE t) ∧ Below w.heap.size w W' := by
  have HA := Lib.hid (appendSeqE_calls Bt c a t w hV ht)
  clear hV
  go_enter Tryz.func108, Tryz.ntmps108
  go_wp2_with fail
  refine HA.out.mono ?_
  rintro e w1 ⟨v, rfl, ho, hb⟩
  have HO := Lib.hid ho
  have HB := Lib.hid hb
  obtain ⟨a1, c1, rfl, -, -⟩ := (TV.of_owns ho).1.shape
  clear ho hb
  go_wp2
  go_ret
  exact ⟨a1, c1, rfl, HO.out, HB.out⟩
end Go.Proofs.YtcjkeobjojmpfaaGreat
end

section
/-
  CONTRACTS of slices.SortFunc and SortedFunc at entries, and of heap's Order.
-/
namespace Go.Proofs.YtcjkeobjojmpfaaGreat
open Go.RowKit Go.Shelf Go.Sort

theorem en_arr (l : List En) (j : Nat) : l.toArray[j]! = en l j := by
  unfold en
  rw [List.getD_eq_getElem?_getD]
  by_cases h : j < l.length
  · rw [getElem!_pos _ _ (by simpa using h), List.getElem?_eq_getElem h]; rfl
  · rw [getElem!_neg _ _ (by simpa using h), List.getElem?_eq_none (by omega)]; rfl
theorem flatE_cells (l : List En) : flatK encE 4 l.toArray = (cellsE l).toArray := by
  refine ext_get! (by simp [cellsE_len]) fun t ht => ?_
  have ht' : t < l.length * 4 := by simpa using ht
  rw [get_flatK _ _ _ t (by simpa using ht')]
  have hj : t / 4 < l.length := by omega
  obtain ⟨h0, h1, h2, h3⟩ := cellsE_get l (t / 4) hj
  rw [en_arr l (t / 4)]
  have e : (cellsE l).toArray[t]! = ((cellsE l)[t]?).getD default := by simp [getElem!_def]; rfl
  rw [e]
  have h4 : t % 4 = 0 ∨ t % 4 = 1 ∨ t % 4 = 2 ∨ t % 4 = 3 := by omega
  rcases h4 with h | h | h | h
  · rw [h, show t = t / 4 * 4 by omega, show (t / 4 * 4) / 4 = t / 4 by omega, h0]; rfl
  · rw [h, show t = t / 4 * 4 + 1 by omega, show (t / 4 * 4 + 1) / 4 = t / 4 by omega, h1]; rfl
  · rw [h, show t = t / 4 * 4 + 2 by omega, show (t / 4 * 4 + 2) / 4 = t / 4 by omega, h2]; rfl
  · rw [h, show t = t / 4 * 4 + 3 by omega, show (t / 4 * 4 + 3) / 4 = t / 4 by omega, h3]; rfl
theorem ownsE_holds {w : World} {base : Nat} {v : Value} {l : List En} (h : w.ownsRow base 117 4 v l.length (cellsE l)) (hv : v ≠ .slice none 0 0) :
    ∃ g cap cur, v = .slice (some ⟨g, 0, none⟩) l.length cap ∧ base ≤ g ∧ g < w.heap.size ∧ w.heap[g]? = some (.cells cur 117 (0, 0)) ∧ l.length ≤ cap ∧ cap ≤ maxLen ∧ cur.size = cap * 4 ∧ HoldsK encE 4 w g 0 l.toArray := by
  have hT := (TV.of_owns h).1
  obtain ⟨hl, ⟨rfl, h0⟩ | ⟨g, cap, cur, rfl, hb, hg, hn, hm, hs, ht⟩⟩ := h
  · exact absurd rfl hv
  · refine ⟨g, cap, cur, rfl, hb, (Array.getElem?_eq_some_iff.1 hg).1, hg, hn, hm, hs, ?_⟩
    unfold HoldsK
    rw [flatE_cells]
    intro j hj
    refine ⟨?_, by simp [World.frozen?, hg]⟩
    have hj' : j < (cellsE l).length := by simpa using hj
    have e : (cellsE l)[j]? = some ((cellsE l).toArray[j]!) := by simp [hj']
    rw [Nat.zero_add, cell_of_row _ _ j _ _ (0, 0) hg, ← Array.getElem?_toList]
    show cur.toList[j]? = some ((cellsE l).toArray[j]!)
    rw [← e, ← ht, List.getElem?_take_of_lt (by rw [cellsE_len] at hj'; exact hj')]
theorem ownE_sorted {w : World} {base g cap : Nat} {cur : Array Value} {n : Nat} {os : Array Obj} (l ts : List En) (hl : ts.length = l.length) (hb : base ≤ g) (hg : w.heap[g]? = some (.cells cur 117 (0, 0))) (hn : l.length ≤ cap) (hm : cap ≤ maxLen) (hs : cur.size = cap * 4) :
    (sortWorldK encE 4 w g 0 n ts.toArray os).ownsRow base 117 4 (.slice (some ⟨g, 0, none⟩) l.length cap) ts.length (cellsE ts) ∧ w.grownBy (sortWorldK encE 4 w g 0 n ts.toArray os) (some g) := by
  have hlt : g < w.heap.size := (Array.getElem?_eq_some_iff.1 hg).1
  unfold sortWorldK putRowK
  rw [flatE_cells]
  constructor
  · rw [← hl]
    refine ⟨cellsE_len ts, .inr ⟨g, cap, putCells id 0 (cellsE ts).toArray cur, rfl, hb, ?_, by omega, hm, by simp [putCells, hs], ?_⟩⟩
    · rw [heap_grow_old _ _ (by simpa using hlt)]
      simp [putRow, mapBlock, Sort.ahead, Array.getElem?_modify, hg, onCells]
    · rw [← cellsE_len ts]
      have hc : (cellsE ts).length ≤ cur.size := by rw [cellsE_len, hs, hl]; omega
      apply List.ext_getElem?
      intro j
      by_cases hj : j < (cellsE ts).length
      · rw [List.getElem?_take_of_lt hj, Array.getElem?_toList]
        simp [putCells, hj, show j < cur.size by omega]
      · rw [List.getElem?_take_eq_none (by omega), List.getElem?_eq_none (by omega)]
  · refine ⟨rfl, rfl, rfl, by simp, fun k hk hne => ?_⟩
    rw [heap_grow_old _ _ (by simpa using hk)]
    have : g ≠ k := fun e => hne (by rw [e])
    simp [putRow, mapBlock, Sort.ahead, Array.getElem?_modify, this]
theorem cfE_swo : SWO (ltOf cfE) where
  irrefl x := by unfold ltOf; exact decide_eq_false (fun h => ltE_irrefl x (cfE_neg.1 h))
  trans x y z h1 h2 := by
    unfold ltOf at h1 h2 ⊢
    exact decide_eq_true (cfE_neg.2 (ltE_trans (cfE_neg.1 (of_decide_eq_true h1)) (cfE_neg.1 (of_decide_eq_true h2))))
  ntrans x y z h1 h2 := by
    unfold ltOf at h1 h2 ⊢
    have a1 : LeE y x := fun h => (of_decide_eq_false h1) (cfE_neg.2 h)
    have a2 : LeE z y := fun h => (of_decide_eq_false h2) (cfE_neg.2 h)
    exact decide_eq_false fun h => leE_trans a2 a1 (cfE_neg.1 h)
theorem orderE_lays (blk off size : Nat) (w : World) : CmpLays Tryz.prog 87 #[] encE 4 cfE blk off size w := fun _ _ _ _ x y =>
  Drawn.calls_grow (order_calls x y _)
/-- slices.SortFunc, with heap's order. -/
theorem sortE_calls (v : Value) (l : List En) (w : World) (base : Nat) (hown : w.ownsRow base 117 4 v l.length (cellsE l)) (hlen : l.length ≤ 1000000) :
    Calls Tryz.prog 109 #[v, .func (.func 87) #[] #[]] w fun e w' => e = .returned (.tuple #[]) ∧ ∃ ts : List En, ts.Perm l ∧ (∀ i j, i < j → j < ts.length → LeE (en ts i) (en ts j)) ∧ w'.ownsRow base 117 4 v ts.length (cellsE ts) ∧ w.grownBy w' v.ownBlock := by
  by_cases hv : v = .slice none 0 0
  · subst hv
    have hl : l = [] := by
      rcases hown.2 with ⟨_, h⟩ | ⟨_, _, _, e, _⟩
      · exact List.eq_nil_of_length_eq_zero h
      · cases e
    subst hl
    refine (AnyF.slices_SortFunc_none Tryz.laysSortK none 0 _ w).mono ?_
    rintro e w' ⟨he, rfl⟩
    exact ⟨he, [], List.Perm.refl _, fun i j _ h => absurd h (by simp), hown, ⟨rfl, rfl, rfl, Nat.le_refl _, fun _ _ _ => rfl⟩⟩
  · obtain ⟨g, cap, cur, rfl, hb, hlt, hg, hn, hm, hs, hH⟩ := ownsE_holds hown hv
    have h := AnyQ.slices_SortFunc Tryz.laysSortK 4 Tryz.isAgg117 Tryz.sizeOf117 encE (fun _ => rfl) (fun x u hu => by simp only [encE, List.mem_cons, List.not_mem_nil, or_false] at hu; rcases hu with rfl | rfl | rfl | rfl <;> rfl) cfE cfE_swo 87 #[] g 0 cap l.toArray w (enters_of Tryz.func87 (by kernel_rfl) rfl) (orderE_lays g 0 _ w) hH hlt (by simp; omega)
    refine h.mono ?_
    rintro e w' ⟨he, d', n, os, hp, hso, hw⟩
    obtain ⟨p1, _, p3⟩ := hp
    simp only [List.size_toArray] at p1 p3 hso
    have e1 : d'.extract 0 l.length = d' := by rw [← p1]; simp
    have e2 : l.toArray.extract 0 l.length = l.toArray := by simp
    rw [e1, e2] at p3
    obtain ⟨ts⟩ := d'
    have hl2 : ts.length = l.length := by simpa using p1
    obtain ⟨q1, q2⟩ := ownE_sorted (n := n) (os := os) l ts hl2 hb hg hn hm hs
    refine ⟨he, ts, by simpa using p3, fun i j hij hj => ?_, by rw [hw]; exact q1, by rw [hw]; exact q2⟩
    have := of_decide_eq_false (show decide _ = false from hso i j (Nat.zero_le _) hij (by omega))
    have k1 : (⟨ts⟩ : Array En)[j]! = en ts j := en_arr ts _
    have k2 : (⟨ts⟩ : Array En)[i]! = en ts i := en_arr ts _
    rw [k1, k2] at this
    exact fun h => this (cfE_neg.2 h)
set_option maxRecDepth 100000 in
theorem sortedE_calls (Bt c : Nat) (a : Option Addr) (t : List En) (w : World) (hV : Vals Bt a c t w) (ht : t.length ≤ 4096) :
    Calls Tryz.prog 85 #[.func (.func 110) #[] #[.pointer (some ⟨Bt, 0, none⟩)], .func (.func 87) #[] #[]] w fun e W' => ∃ v ts, e = .returned v ∧ ts.Perm t ∧ (∀ i j, i < j → j < ts.length → LeE (en ts i) (en ts j)) ∧ TV W' v ts ∧ Below w.heap.size w W' := by
  have HA := Lib.hid (collectE_calls Bt c a t w hV ht)
  clear hV
  go_enter Tryz.func85, Tryz.ntmps85
  go_wp2_with fail
  refine HA.out.mono ?_
  rintro e w1 ⟨a1, c1, rfl, ho, hb⟩
  have HS := Lib.hid (sortE_calls _ t w1 w.heap.size ho (by omega))
  have HB := Lib.hid hb
  have HO := Lib.hid ho
  clear ho hb
  go_wp2_with fail
  refine HS.out.mono ?_
  rintro e w2 ⟨rfl, ts, h1, h2, h3, h4⟩
  have H1 := Lib.hid h1; have H2 := Lib.hid h2; have H3 := Lib.hid h3; have H4 := Lib.hid h4
  clear h1 h2 h3 h4
  go_wp2
  go_ret
  exact ⟨_, ts, rfl, H1.out, H2.out, (TV.of_owns H3.out).1, HB.out.grown H4.out HB.out.size fun k hk => (World.ownsRow.lt HO.out k hk).1⟩
theorem asc_of_sorted {n : Nat} {t ts : List En} {ix : Nat → Int} (ha : Agr n t ix) (hp : ts.Perm t) (h : ∀ i j, i < j → j < ts.length → LeE (en ts i) (en ts j)) : AscE ts := by
  have nd : ts.Nodup := by
    refine hp.nodup_iff.2 ?_
    unfold List.Nodup
    rw [List.pairwise_iff_getElem]
    intro i j hi hj hij e
    have : i = j := ha.inj hi hj (by unfold en; rw [List.getD_eq_getElem?_getD, List.getD_eq_getElem?_getD, List.getElem?_eq_getElem hi, List.getElem?_eq_getElem hj, e])
    omega
  intro i j hij hj
  rcases ltE_tri (en ts i) (en ts j) with c | c | c
  · exact c
  · exfalso
    unfold List.Nodup at nd
    rw [List.pairwise_iff_getElem] at nd
    refine nd i j (by omega) hj hij ?_
    have e1 := en_get (show i < ts.length by omega)
    have e2 := en_get hj
    rw [List.getElem?_eq_getElem (show i < ts.length by omega)] at e1
    rw [List.getElem?_eq_getElem hj, ← c] at e2
    simpa using e1.trans e2.symm
  · exact absurd c (h i j hij hj)
set_option maxHeartbeats 2000000 in
/-- heap's Order. -/
theorem heapOrder_calls {w : World} {q : Nat} {F : Nat → Prop} {n : Nat} {M : Mp} (h : HA w q F n M) :
    Calls Tryz.prog 67 #[.pointer (some ⟨q, 0, none⟩)] w fun e w' => ∃ g c, e = .returned (.slice (some ⟨g, 0, none⟩) (ordM n M).length c) ∧ IR w' g c (plc (ordM n M)) ∧ w.heap.size ≤ g ∧ Below w.heap.size w w' := by
  obtain ⟨tv, x, xc, t, ix, hd, ho, hm, hF⟩ := h.ex
  have hlen : t.length ≤ 4096 := by have := hd.agr.len; have := hd.caps.2.2; omega
  obtain ⟨c0, -, -, -⟩ := hd.cells
  obtain ⟨ta, tc, rfl, -, -⟩ := hd.tree.shape
  have HI := Lib.hid (is_calls hd.own)
  have HV := Lib.hid (values_calls ta t.length tc w)
  have HB0 := Lib.hid ((Below.refl w.heap.size w).alloc (Nat.le_refl _) (.cells #[.slice ta t.length tc] 118))
  have HS := Lib.hid (sortedE_calls w.heap.size tc ta t (w.alloc (.cells #[.slice ta t.length tc] 118)) ⟨Boxed.new w _ _, hd.tree.below HB0.out⟩ hlen)
  have HO := Lib.hid (show ∀ ts : List En, ts.Perm t → (∀ i j, i < j → j < ts.length → LeE (en ts i) (en ts j)) → ts = ordM n M from fun ts hp hs => ordM_is hm hd.agr (asc_of_sorted hd.agr hp hs) fun e => hp.mem_iff)
  have HL := Lib.hid hlen
  clear h hd ho hm hF hlen
  go_enter Tryz.func67, Tryz.ntmps67
  go_wp2_with (first
    | (go_at_call 83; refine HI.out.mono ?_; rintro e w2 ⟨rfl, rfl⟩)
    | (go_at_call 86; refine HV.out.mono ?_; rintro e w2 ⟨rfl, rfl⟩)
    | (go_at_call 85; refine HS.out.mono ?_; rintro e w3 ⟨v, ts, rfl, h1, h2, h3, h4⟩; have e1 := HO.out ts h1 h2; subst e1; have HP := Lib.hid (places_calls v _ w3 h3 (by rw [h1.length_eq]; exact HL.out)); have H4 := Lib.hid (HB0.out.trans (h4.mono HB0.out.size)); clear h1 h2 h3 h4)
    | (go_at_call 84; refine HP.out.mono ?_; rintro e w4 ⟨g, c, rfl, h5, h6, h7⟩; have H5 := Lib.hid h5; have H6 := Lib.hid h6; have H7 := Lib.hid h7; clear h5 h6 h7)
    | fail)
  go_ret
  exact ⟨g, c, rfl, H5.out, Nat.le_trans H4.out.size H6.out, H4.out.trans (H7.out.mono H4.out.size)⟩
end Go.Proofs.YtcjkeobjojmpfaaGreat
end
