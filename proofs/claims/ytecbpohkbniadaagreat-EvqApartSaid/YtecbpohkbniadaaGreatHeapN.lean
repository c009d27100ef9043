import Derived.Test.YtecbpohkbniadaaGreatHeapK
section
/-
  CONTRACTS of heap's places and Tree.
-/
namespace Go.Proofs.YtecbpohkbniadaaGreat
open Go.RowKit Go.Shelf

/-- A ROW OF NUMBERS in the block g. -/
structure IR (w : World) (g c : Nat) (l : List Int) : Prop where
  blk : ∃ cur, w.heap[g]? = some (.cells cur 3 (0, 0))
  le : l.length ≤ c ∧ c ≤ maxLen
  cell : ∀ i, i < l.length → w.cell? ⟨g, i, none⟩ = some (.int .i64 (l.getD i 0))
theorem IR.lt {w : World} {g c : Nat} {l : List Int} (h : IR w g c l) : g < w.heap.size := by
  obtain ⟨cur, hc⟩ := h.blk
  exact (Array.getElem?_eq_some_iff.1 hc).1
theorem IR.keep {w w' : World} {g c : Nat} {l : List Int} (h : IR w g c l) (e : w'.heap[g]? = w.heap[g]?) : IR w' g c l :=
  ⟨by rw [e]; exact h.blk, h.le, fun i hi => by rw [cell_blk e]; exact h.cell i hi⟩
theorem IR.below {w w' : World} {g c : Nat} {l : List Int} (h : IR w g c l) (hb : Below w.heap.size w w') : IR w' g c l := h.keep (hb.block g h.lt)
theorem IR.off {F : Nat → Prop} {w w' : World} {g c : Nat} {l : List Int} (h : IR w g c l) (hb : Off F w w') (hF : ¬ F g) : IR w' g c l := h.keep (hb.block g h.lt hF)
/-- The places of some entries. -/
def plc (t : List En) : List Int := t.map fun e => (e.2 : Int)
theorem plc_len (t : List En) : (plc t).length = t.length := by simp [plc]
theorem plc_get (t : List En) (i : Nat) (h : i < t.length) : (plc t).getD i 0 = ((en t i).2 : Int) := by
  unfold plc
  rw [List.getD_eq_getElem?_getD, List.getElem?_map, en_get h]; rfl
set_option maxRecDepth 100000 in
set_option maxHeartbeats 2000000 in
theorem places_calls (tv : Value) (t : List En) (w : World) (h : TV w tv t) (hn : t.length ≤ 4096) :
    Calls Tryz.prog 108 #[tv] w fun e w' => ∃ g c, e = .returned (.slice (some ⟨g, 0, none⟩) t.length c) ∧ IR w' g c (plc t) ∧ w.heap.size ≤ g ∧ Below w.heap.size w w' := by
  obtain ⟨ta, tc, rfl, htc, htl⟩ := h.shape
  obtain ⟨m, hm⟩ : ∃ m, t.length = m := ⟨_, rfl⟩
  obtain ⟨w1, hmk, ⟨C, hg1, hC⟩, hb1⟩ := make_ints m (by omega) w
  have HB1 := Lib.hid hb1
  have HG1 := Lib.hid (show ∃ cur, w1.heap[w.heap.size]? = some (.cells cur 3 (0, 0)) ∧ cur.size = m ∧ ∀ i, i < 0 → cur[i]? = some (.int .i64 ((en t i).2 : Int)) from ⟨_, hg1, by simpa using hC, fun i h => by omega⟩)
  have HT := Lib.hid h
  have HM := Lib.hid hm
  rw [hm]
  rw [hm] at hn htl
  clear hg1 hb1 hC h
  have hmi : (m : Int) ≤ 4096 := by omega
  obtain ⟨g, hg⟩ : ∃ g, w.heap.size = g := ⟨_, rfl⟩
  have HGe := Lib.hid hg
  rw [hg] at hmk HG1
  clear hm hg
  go_enter Tryz.func108, Tryz.ntmps108
  go_wp2_with fail
  go_loopw [11] (fun s11 wr => ∃ k : Nat, k ≤ m ∧ s11 = .int .i64 (k : Int) ∧ (∃ cur, wr.heap[g]? = some (.cells cur 3 (0, 0)) ∧ cur.size = m ∧ ∀ i, i < k → cur[i]? = some (.int .i64 ((en t i).2 : Int))) ∧ Below g w wr) (fun s11 _ => m - (intOf s11).toNat)
  case atStart => exact ⟨0, Nat.zero_le _, rfl, HG1.out, by rw [← HGe.out]; exact HB1.out⟩
  case round =>
    obtain ⟨k, hk, rfl, ⟨cur, hcur, hcs, hci⟩, hB⟩ := hrel
    have HB := Lib.hid hB
    have HCu := Lib.hid hcur
    have HCi := Lib.hid (And.intro hcs hci)
    clear HG1 HB1 hmk hB hci
    by_cases hlt : k < m
    · have ht := HT.out.below (show Below w.heap.size w wr by rw [HGe.out]; exact HB.out)
      rcases ht with ⟨e, e2⟩ | ⟨gt, cap, e, hrow, hcap⟩
      · have := HM.out; rw [e2] at this; simp at this; omega
      obtain ⟨x0, x1, x2, x3⟩ := hrow.cell k (by rw [HM.out]; exact hlt)
      have e3 : ta = some ⟨gt, 0, none⟩ ∧ tc = cap := by simpa [HM.out] using e
      obtain ⟨rfl, rfl⟩ := e3
      obtain ⟨E, hE⟩ : ∃ E, en t k = E := ⟨_, rfl⟩
      have HE := Lib.hid hE
      rw [hE] at x0 x1 x2 x3
      have hrl := hrow.lt
      have hgl : g < wr.heap.size := (Array.getElem?_eq_some_iff.1 hcur).1
      obtain ⟨cv, hgc⟩ : ∃ cv, wr.cell? ⟨g, k, none⟩ = some cv := ⟨cur[k]'(by omega), by simp [World.cell?, hcur, hcs, hlt]⟩
      have hgf : wr.frozen? ⟨g, k, none⟩ = false := by simp [World.frozen?, hcur]
      have hk1 : (k : Int) < (m : Int) := by omega
      have HNew := Lib.hid (show ∀ wx : World, wx.heap[g]? = wr.heap[g]? → ∃ cur', (wx.setCell ⟨g, k, none⟩ (.int .i64 (E.2 : Int))).heap[g]? = some (.cells cur' 3 (0, 0)) ∧ cur'.size = m ∧ ∀ i, i < k + 1 → cur'[i]? = some (.int .i64 ((en t i).2 : Int)) by
        intro wx hx
        refine ⟨_, heap_setC (hx.trans HCu.out) k _, by simp [HCi.out.1], fun i hi => ?_⟩
        rw [Array.getElem?_setIfInBounds]
        by_cases c : k = i
        · subst c
          rw [if_pos rfl, if_pos (by rw [HCi.out.1]; omega), HE.out]
        · rw [if_neg c]; exact HCi.out.2 i (by omega))
      clear hcur hcs e hrow hcap hE
      go_wp2_with fail
      go_roundw
      case rel =>
        refine ⟨k + 1, hlt, by go_num, ?_, ?_⟩
        · rw [Below.heap_alloc _ _ _ (by simpa using hgl)]
          exact HNew.out wr rfl
        · exact (HB.out.setCell (p := ⟨g, k, none⟩) (Nat.le_refl _) _).alloc (by simp; omega) _
      case measure => simp [intOf]; omega
    · obtain rfl : k = m := by omega
      go_wp2
      go_ret
      refine ⟨g, k, rfl, ⟨⟨cur, HCu.out⟩, ⟨by rw [plc_len, HM.out]; exact Nat.le_refl _, by unfold maxLen; omega⟩, fun i hi => ?_⟩, by rw [HGe.out]; exact Nat.le_refl _, by rw [HGe.out]; exact HB.out⟩
      rw [plc_len, HM.out] at hi
      rw [plc_get _ _ (by rw [HM.out]; exact hi)]
      have := HCi.out.2 i hi
      simp [World.cell?, HCu.out, this]
end Go.Proofs.YtecbpohkbniadaaGreat
end

section
/-
  CONTRACTS of slices.Values, AppendSeq and Collect at entries.
-/
namespace Go.Proofs.YtecbpohkbniadaaGreat
open Go.RowKit Go.Shelf

attribute [local go_sem] Oper.semAt_some

set_option maxHeartbeats 1000000 in
theorem values_calls (a : Option Addr) (m c : Nat) (w : World) :
    Calls Tryz.prog 110 #[.slice a m c] w fun e w' => e = .returned (.func (.func 134) #[] #[.pointer (some ⟨w.heap.size, 0, none⟩)]) ∧ w' = w.alloc (.cells #[.slice a m c] 145) := by
  go_enter Tryz.func110, Tryz.ntmps110
  go_wp2
  go_ret
  exact ⟨rfl, rfl⟩
/-- What the iterator reads. -/
def Vals (Bt : Nat) (a : Option Addr) (c : Nat) (t : List En) (W : World) : Prop := Boxed W Bt 145 (.slice a t.length c) ∧ TV W (.slice a t.length c) t
set_option maxRecDepth 100000 in
set_option maxHeartbeats 2000000 in
theorem values1_kept (n : Nat) (hn : 1 ≤ n) (Bt c : Nat) (a : Option Addr) (t : List En) (ht : t.length ≤ 4096) :
    SeqKept Fence.wide n Tryz.prog 134 #[.pointer (some ⟨Bt, 0, none⟩)] (fun k => #[.agg #[.int .i64 (en t k).1.1, .int .i64 (en t k).1.2.1, .int .i64 (en t k).1.2.2, .int .i64 ((en t k).2 : Int)]]) t.length (Vals Bt a c t) := by
  intro l J Jx W hJA hJx hSt hY h0
  have hY0 := Lib.hid hY
  have hJ0 := Lib.hid hJA
  have hS0 := Lib.hid hSt
  have HJ00 := Lib.hid h0
  obtain ⟨k1, k2⟩ := hSt 0 W h0
  have c1 := k1.cell
  obtain ⟨m, hm⟩ : ∃ m, t.length = m := ⟨_, rfl⟩
  have HM := Lib.hid hm
  rw [hm] at c1 ht
  have hmi : (m : Int) ≤ 4096 := by omega
  clear hY hJA hJx hSt h0 k1 k2
  refine callsIn_of_wp Tryz.func134 rfl trivial ?_ rfl
  simp only [Tryz.ntmps134, List.size_toArray, List.length_cons, List.length_nil, Nat.reduceAdd, Nat.reduceSub, Array.replicate_succ, Array.replicate_zero, List.push_toArray, List.append_toArray, List.nil_append, List.cons_append]
  clear hm
  rw [HM.out]
  gi_wp2
  gi_loopw [7] (fun jv wr => ∃ k : Nat, k ≤ m ∧ jv = .int .i64 (k : Int) ∧ J k wr) (fun jv _ => m - (intOf jv).toNat)
  case atStart => exact ⟨0, Nat.zero_le _, by simp, HJ00.out⟩
  case round =>
    obtain ⟨k, hk, rfl, hJ⟩ := hrel
    have HJ := Lib.hid hJ
    obtain ⟨k1, k2⟩ := hS0.out k wr hJ
    clear hJ k1 c1
    by_cases hlt : k < m
    · have e1 : (k : Int) < (m : Int) := by omega
      rcases k2 with ⟨_, e2⟩ | ⟨g, cap, e, hrow, hcap⟩
      · have := HM.out; rw [e2] at this; simp at this; omega
      obtain ⟨x0, x1, x2, x3⟩ := hrow.cell k (by rw [HM.out]; exact hlt)
      have e3 : a = some ⟨g, 0, none⟩ ∧ c = cap := by simpa [HM.out] using e
      obtain ⟨rfl, rfl⟩ := e3
      have HJa := Lib.hid (hJ0.out k wr _ HJ.out (World.grownBy_alloc wr (.cells #[.int .i64 (en t k).1.1, .int .i64 (en t k).1.2.1, .int .i64 (en t k).1.2.2, .int .i64 ((en t k).2 : Int)] 144) none))
      obtain ⟨fn, tmps, assign, body, hy, hR⟩ := hY0.out k _ (by rw [HM.out]; exact hlt) HJa.out
      have HR := Lib.hid hR
      generalize en t k = E at *
      clear hR e hrow hcap
      gi_wp2_with fail
      refine HR.out.mono ?_
      rintro e W3 (⟨rfl, hJ3⟩ | ⟨rfl, hJx3⟩)
      · have HJ3 := Lib.hid hJ3
        clear hJ3
        gi_wp2
        go_roundw
        case rel => exact ⟨k + 1, hlt, by go_num, HJ3.out⟩
        case measure => simp [intOf]; omega
      · gi_wp2
        refine bodyPost_ret (results_none rfl _ _ _) rfl ?_
        exact ⟨⟨_, rfl⟩, .inr ⟨k, hlt, hJx3⟩⟩
    · obtain rfl : k = m := by omega
      clear k2 hlt
      gi_wp2
      refine bodyPost_end (results_none rfl _ _ _) rfl ?_
      exact ⟨⟨_, rfl⟩, .inl HJ.out⟩
end Go.Proofs.YtecbpohkbniadaaGreat
end

section
/-
  CONTRACTS of slices.AppendSeq and Collect at entries.
-/
namespace Go.Proofs.YtecbpohkbniadaaGreat
open Go.RowKit Go.Shelf

attribute [local go_sem] Oper.semAt_some

theorem cells4_new (w : World) (a b c d : Value) (ty : TypeId) : ∀ j u, [a, b, c, d][j]? = some u → (w.alloc (.cells #[a, b, c, d] ty)).cell? ((⟨w.heap.size, 0, none⟩ : Addr).add j) = some u := by
  intro j u hj
  rw [Addr.add_lit, Nat.zero_add]
  have hh : (w.alloc (.cells #[a, b, c, d] ty)).heap[w.heap.size]? = some (.cells #[a, b, c, d] ty) := World.alloc_heap_new w _
  rw [cell_of_row _ _ j _ _ (0, 0) hh, ← Array.getElem?_toList]
  exact hj
theorem take_succ_en (t : List En) (k : Nat) (h : k < t.length) : cellsE (t.take (k + 1)) = cellsE (t.take k) ++ encE (en t k) := by
  have e : t.take (k + 1) = t.take k ++ [en t k] := by
    rw [List.take_add_one, en_get h]; rfl
  rw [e, cellsE_append]
  rfl
set_option maxRecDepth 100000 in
set_option maxHeartbeats 4000000 in
theorem appendSeqE_in (r : Nat) (hr : 5 ≤ r) (Bt c : Nat) (a : Option Addr) (t : List En) (w : World) (hV : Vals Bt a c t w) (ht : t.length ≤ 4096) :
    CallsIn Fence.wide r Tryz.prog 146 #[.slice none 0 0, .func (.func 134) #[] #[.pointer (some ⟨Bt, 0, none⟩)]] w fun e W' => ∃ v', e = .returned v' ∧ W'.ownsRow w.heap.size 144 4 v' t.length (cellsE t) ∧ Below w.heap.size w W' := by
  obtain ⟨i0, hi, hz0, hz1, hz2⟩ := info_parts info_entry
  refine callsIn_of_wp_marks Tryz.func146 rfl trivial ?_ rfl
  simp only [Tryz.ntmps146, List.size_toArray, List.length_cons, List.length_nil, Nat.reduceAdd, Nat.reduceSub, Array.replicate_succ, Array.replicate_zero, List.push_toArray, List.append_toArray, List.nil_append, List.cons_append]
  gi_wp2_with fail
  have b1 := Boxed.new w 145 (.slice none 0 0)
  have hB0 : Below w.heap.size w (w.alloc (.cells #[.slice none 0 0] 145)) := (Below.refl _ w).alloc (Nat.le_refl _) _
  have hBt := hV.1.lt
  refine wpIn_rangeKept (encs := fun k => #[.agg #[.int .i64 (en t k).1.1, .int .i64 (en t k).1.2.1, .int .i64 (en t k).1.2.2, .int .i64 ((en t k).2 : Int)]]) (N := t.length) (St := Vals Bt a c t) rfl (by omega) (gf := 134) (lb := #[.pointer (some ⟨Bt, 0, none⟩)]) rfl trivial (enters_of Tryz.func134 (by kernel_rfl) rfl)
    (values1_kept (r - 1) (by omega) Bt c a t ht)
    (fun _ => rfl)
    (fun k W => (∃ v, Boxed W w.heap.size 145 v ∧ W.ownsRow w.heap.size 144 4 v k (cellsE (t.take k)) ∧ True) ∧ Below w.heap.size w W)
    (fun _ _ _ => False)
    (fun k W h => ⟨(h.2.block Bt hBt).trans hV.1, hV.2.below h.2⟩)
    (OwnFrom.and (Own.from (holdsRow_own w.heap.size w.heap.size 145 144 4 (fun k => k) (fun k => cellsE (t.take k)) (fun _ _ => True)) _) (ownFrom_below (Nat.le_refl _) (by simp)))
    (fun c => ownFrom_pure _ _)
    ⟨⟨_, b1, World.ownsRow_nil _ _ _ _, trivial⟩, hB0⟩
    (fun k a' W => ∃ pb, a' = { tmps := #[.slice none 0 0, .func (.func 134) #[] #[.pointer (some ⟨Bt, 0, none⟩)], .pointer (some ⟨w.heap.size, 0, none⟩), undef, .slice none 0 0, .pointer (some ⟨pb, 0, none⟩), .func (.func 134) #[] #[.pointer (some ⟨Bt, 0, none⟩)], .agg #[.int .i64 (en t k).1.1, .int .i64 (en t k).1.2.1, .int .i64 (en t k).1.2.2, .int .i64 ((en t k).2 : Int)], undef, undef, undef, undef, undef], defers := [] } ∧ BoxE W pb (en t k))
    (fun k a' => fun s A B row hs hg hr => by obtain ⟨pb, e1, e2⟩ := hs; exact ⟨pb, e1, (hg.block pb (Array.getElem?_eq_some_iff.1 e2).1 (fun e => by obtain ⟨_, o, ho, hc⟩ := hr pb e.symm; rw [show A.heap[pb]? = _ from e2] at ho; cases ho; cases hc)).trans e2⟩) ?assign ?body ?done ?stop
  case assign =>
    rintro l k W K hk hI hK
    generalize en t k = E at *
    gi_wp2
    refine hK _ _ ((KeepsOthers.alloc _ _).from _) ?_ ⟨_, rfl, World.alloc_heap_new W _⟩
    obtain ⟨⟨v, h1, h2, h3⟩, h4⟩ := hI
    exact ⟨⟨v, h1.alloc _, h2.alloc _, h3⟩, h4.alloc h4.size _⟩
  case body =>
    rintro l k a' W hk ⟨⟨v, hv, hrow2, -⟩, hB⟩ ⟨pb, rfl, hpb⟩
    have hV0 := Lib.hid hv
    have hR2 := Lib.hid hrow2
    have hBB := Lib.hid hB
    have hsz := hB.size
    have hI := Lib.hid hi
    have hZ0 := Lib.hid hz0
    have hZ1 := Lib.hid hz1
    have hZ2 := Lib.hid hz2
    have c3 := hv.cell
    have f3 := hv.frozen
    obtain ⟨p0, p1, p2, p3, -⟩ := hpb.cells
    have HTk := Lib.hid (take_succ_en t k hk)
    generalize en t k = E at *
    clear hv hrow2 hB hi hz0 hz1 hz2 b1 hB0 hV hBt hpb
    gi_wp2_with (gi_at_builtin; refine wpListIn_append_own _ rfl _ _ 145 rfl w.heap.size 144 i0 (.agg #[.int .i64 0, .int .i64 0, .int .i64 0, .int .i64 0]) 4 32 Tryz.underlying145 hI.out hZ0.out hZ1.out hZ2.out rfl (by decide) _ _ _ rfl (hR2.out.alloc _) ⟨W.heap.size, 0, none⟩ 1 1 [.int .i64 E.1.1, .int .i64 E.1.2.1, .int .i64 E.1.2.2, .int .i64 (E.2 : Int)] rfl rfl (cells4_new _ _ _ _ _ _) (by intro u hu; simp at hu; rcases hu with rfl | rfl | rfl | rfl <;> rfl) (by unfold maxLen; omega) (by omega) (by simp; omega) ?_; intro v' w1 hown' hgrow _; obtain ⟨g', cap', rfl⟩ := ownsRow_succ hown'; obtain ⟨hv1, hv2, hr2, hk2, hb2⟩ := hV0.out.appended (by decide) hR2.out hsz (by omega) hown' hgrow; have hc1 := hv1.cell; have hf1 := hv1.frozen; have hG := Lib.hid hgrow; have hV2 := Lib.hid hv2; have hR3 := Lib.hid hr2; have hK2 := Lib.hid hk2; have hB2 := Lib.hid hb2; clear hgrow hv1 hv2 hr2 hk2 hb2 hown')
    refine ⟨hK2.out.from _, ⟨_, hV2.out, ?_, trivial⟩, hBB.out.trans hB2.out⟩
    rw [HTk.out]
    exact hR3.out
  case done =>
    rintro D W hD ⟨⟨v, hv, hrow2, -⟩, hB⟩ hK
    have e : ∃ va n vc, v = .slice va n vc := by
      rcases hrow2.2 with ⟨rfl, _⟩ | ⟨g, cap, cur, rfl, _⟩
      · exact ⟨_, _, _, rfl⟩
      · exact ⟨_, _, _, rfl⟩
    obtain ⟨va, vn, vc, rfl⟩ := e
    have hV0 := Lib.hid hv
    have hR2 := Lib.hid hrow2
    have hBB := Lib.hid hB
    have hKK := Lib.hid hK
    have hDD := Lib.hid hD
    have c3 := hv.cell
    clear hv hrow2 hB hK hD hi hz0 hz1 hz2 b1 hB0 hV
    gi_wp2
    refine ⟨by simp, .inl ⟨_, _, rfl, run_takeDeferred hKK.out, ?_⟩⟩
    have hD0 := hDD.out
    simp only [World.size_alloc] at hD0
    refine ⟨.slice va vn vc, by simp [results, Tryz.f146, go_sem], .slice va vn vc, rfl, ?_, hBB.out.trans (belowK_b (w := w) (Nat.le_refl _) _ D _ _ (by omega) hKK.out rfl rfl)⟩
    have h := ownsRow_putObj hR2.out (.deferred none) hKK.out rfl
    rw [List.take_length] at h
    exact h
  case stop =>
    rintro D c k W hD hk h hK
    exact h.elim
theorem appendSeqE_calls (Bt c : Nat) (a : Option Addr) (t : List En) (w : World) (hV : Vals Bt a c t w) (ht : t.length ≤ 4096) :
    Calls Tryz.prog 146 #[.slice none 0 0, .func (.func 134) #[] #[.pointer (some ⟨Bt, 0, none⟩)]] w fun e W' => ∃ v', e = .returned v' ∧ W'.ownsRow w.heap.size 144 4 v' t.length (cellsE t) ∧ Below w.heap.size w W' :=
  (callsIn_wide (n := 5)).1 (appendSeqE_in 5 (by omega) Bt c a t w hV ht)
set_option maxRecDepth 100000 in
theorem collectE_calls (Bt c : Nat) (a : Option Addr) (t : List En) (w : World) (hV : Vals Bt a c t w) (ht : t.length ≤ 4096) :
    Calls Tryz.prog 132 #[.func (.func 134) #[] #[.pointer (some ⟨Bt, 0, none⟩)]] w fun e W' => ∃ a c, e = .returned (.slice a t.length c) ∧ W'.ownsRow w.heap.size 144 4 (.slice a t.length c) t.length (cellsE t) ∧ Below w.heap.size w W' := by
  have HA := Lib.hid (appendSeqE_calls Bt c a t w hV ht)
  clear hV
  go_enter Tryz.func132, Tryz.ntmps132
  go_wp2_with fail
  refine HA.out.mono ?_
  rintro e w1 ⟨v, rfl, ho, hb⟩
  have HO := Lib.hid ho
  have HB := Lib.hid hb
  obtain ⟨a1, c1, rfl, -, -⟩ := (TV.of_owns ho).1.shape
  clear ho hb
  go_wp2
  go_ret
  exact ⟨a1, c1, rfl, HO.out, HB.out⟩
end Go.Proofs.YtecbpohkbniadaaGreat
end
