/-
  CONTRACTS of slices.AppendSeq and Collect at entries.
-/
import Derived.Test.YtjnocijfjkbaiaaHeapM
namespace Go.Proofs.Ytjnocijfjkbaiaa
open Go.RowKit Go.Shelf

attribute [local go_sem] Oper.semAt_some

theorem cells4_new (w : World) (a b c d : Value) (ty : TypeId) : ∀ j u, [a, b, c, d][j]? = some u → (w.alloc (.cells #[a, b, c, d] ty)).cell? ((⟨w.heap.size, 0, none⟩ : Addr).add j) = some u := by
  intro j u hj
  rw [Addr.add_lit, Nat.zero_add]
  have hh : (w.alloc (.cells #[a, b, c, d] ty)).heap[w.heap.size]? = some (.cells #[a, b, c, d] ty) := World.alloc_heap_new w _
  rw [cell_of_row _ _ j _ _ (0, 0) hh, ← Array.getElem?_toList]
  exact hj
theorem take_succ_en (t : List En) (k : Nat) (h : k < t.length) : cellsE (t.take (k + 1)) = cellsE (t.take k) ++ encE (en t k) := by
  have e : t.take (k + 1) = t.take k ++ [en t k] := by
    rw [List.take_add_one, en_get h]; rfl
  rw [e, cellsE_append]
  rfl
set_option maxRecDepth 100000 in
set_option maxHeartbeats 4000000 in
theorem appendSeqE_in (r : Nat) (hr : 5 ≤ r) (Bt c : Nat) (a : Option Addr) (t : List En) (w : World) (hV : Vals Bt a c t w) (ht : t.length ≤ 4096) :
    CallsIn Fence.wide r Try.prog 64 #[.slice none 0 0, .func (.func 55) #[] #[.pointer (some ⟨Bt, 0, none⟩)]] w fun e W' => ∃ v', e = .returned v' ∧ W'.ownsRow w.heap.size 81 4 v' t.length (cellsE t) ∧ Below w.heap.size w W' := by
  obtain ⟨i0, hi, hz0, hz1, hz2⟩ := info_parts info_entry
  refine callsIn_of_wp_marks Try.func64 rfl trivial ?_ rfl
  simp only [Try.ntmps64, List.size_toArray, List.length_cons, List.length_nil, Nat.reduceAdd, Nat.reduceSub, Array.replicate_succ, Array.replicate_zero, List.push_toArray, List.append_toArray, List.nil_append, List.cons_append]
  gi_wp2_with fail
  have b1 := Boxed.new w 39 (.slice none 0 0)
  have hB0 : Below w.heap.size w (w.alloc (.cells #[.slice none 0 0] 39)) := (Below.refl _ w).alloc (Nat.le_refl _) _
  have hBt := hV.1.lt
  refine wpIn_rangeKept (encs := fun k => #[.agg #[.int .i64 (en t k).1.1, .int .i64 (en t k).1.2.1, .int .i64 (en t k).1.2.2, .int .i64 ((en t k).2 : Int)]]) (N := t.length) (St := Vals Bt a c t) rfl (by omega) (gf := 55) (lb := #[.pointer (some ⟨Bt, 0, none⟩)]) rfl trivial (enters_of Try.func55 (by kernel_rfl) rfl)
    (values1_kept (r - 1) (by omega) Bt c a t ht)
    (fun _ => rfl)
    (fun k W => (∃ v, Boxed W w.heap.size 39 v ∧ W.ownsRow w.heap.size 81 4 v k (cellsE (t.take k)) ∧ True) ∧ Below w.heap.size w W)
    (fun _ _ _ => False)
    (fun k W h => ⟨(h.2.block Bt hBt).trans hV.1, hV.2.below h.2⟩)
    (OwnFrom.and (Own.from (holdsRow_own w.heap.size w.heap.size 39 81 4 (fun k => k) (fun k => cellsE (t.take k)) (fun _ _ => True)) _) (ownFrom_below (Nat.le_refl _) (by simp)))
    (fun c => ownFrom_pure _ _)
    ⟨⟨_, b1, World.ownsRow_nil _ _ _ _, trivial⟩, hB0⟩
    (fun k a' W => ∃ pb, a' = { tmps := #[.slice none 0 0, .func (.func 55) #[] #[.pointer (some ⟨Bt, 0, none⟩)], .pointer (some ⟨w.heap.size, 0, none⟩), undef, .slice none 0 0, .pointer (some ⟨pb, 0, none⟩), .func (.func 55) #[] #[.pointer (some ⟨Bt, 0, none⟩)], .agg #[.int .i64 (en t k).1.1, .int .i64 (en t k).1.2.1, .int .i64 (en t k).1.2.2, .int .i64 ((en t k).2 : Int)], undef, undef, undef, undef, undef], defers := [] } ∧ BoxE W pb (en t k))
    (fun k a' => fun s A B row hs hg hr => by obtain ⟨pb, e1, e2⟩ := hs; exact ⟨pb, e1, (hg.block pb (Array.getElem?_eq_some_iff.1 e2).1 (fun e => by obtain ⟨_, o, ho, hc⟩ := hr pb e.symm; rw [show A.heap[pb]? = _ from e2] at ho; cases ho; cases hc)).trans e2⟩) ?assign ?body ?done ?stop
  case assign =>
    rintro l k W K hk hI hK
    generalize en t k = E at *
    gi_wp2
    refine hK _ _ ((KeepsOthers.alloc _ _).from _) ?_ ⟨_, rfl, World.alloc_heap_new W _⟩
    obtain ⟨⟨v, h1, h2, h3⟩, h4⟩ := hI
    exact ⟨⟨v, h1.alloc _, h2.alloc _, h3⟩, h4.alloc h4.size _⟩
  case body =>
    rintro l k a' W hk ⟨⟨v, hv, hrow2, -⟩, hB⟩ ⟨pb, rfl, hpb⟩
    have hV0 := Lib.hid hv
    have hR2 := Lib.hid hrow2
    have hBB := Lib.hid hB
    have hsz := hB.size
    have hI := Lib.hid hi
    have hZ0 := Lib.hid hz0
    have hZ1 := Lib.hid hz1
    have hZ2 := Lib.hid hz2
    have c3 := hv.cell
    have f3 := hv.frozen
    obtain ⟨p0, p1, p2, p3, -⟩ := hpb.cells
    have HTk := Lib.hid (take_succ_en t k hk)
    generalize en t k = E at *
    clear hv hrow2 hB hi hz0 hz1 hz2 b1 hB0 hV hBt hpb
    gi_wp2_with (gi_at_builtin; refine wpListIn_append_own _ rfl _ _ 39 rfl w.heap.size 81 i0 (.agg #[.int .i64 0, .int .i64 0, .int .i64 0, .int .i64 0]) 4 32 Try.underlying39 hI.out hZ0.out hZ1.out hZ2.out rfl (by decide) _ _ _ rfl (hR2.out.alloc _) ⟨W.heap.size, 0, none⟩ 1 1 [.int .i64 E.1.1, .int .i64 E.1.2.1, .int .i64 E.1.2.2, .int .i64 (E.2 : Int)] rfl rfl (cells4_new _ _ _ _ _ _) (by intro u hu; simp at hu; rcases hu with rfl | rfl | rfl | rfl <;> rfl) (by unfold maxLen; omega) (by omega) (by simp; omega) ?_; intro v' w1 hown' hgrow _; obtain ⟨g', cap', rfl⟩ := ownsRow_succ hown'; obtain ⟨hv1, hv2, hr2, hk2, hb2⟩ := hV0.out.appended (by decide) hR2.out hsz (by omega) hown' hgrow; have hc1 := hv1.cell; have hf1 := hv1.frozen; have hG := Lib.hid hgrow; have hV2 := Lib.hid hv2; have hR3 := Lib.hid hr2; have hK2 := Lib.hid hk2; have hB2 := Lib.hid hb2; clear hgrow hv1 hv2 hr2 hk2 hb2 hown')
    refine ⟨hK2.out.from _, ⟨_, hV2.out, ?_, trivial⟩, hBB.out.trans hB2.out⟩
    rw [HTk.out]
    exact hR3.out
  case done =>
    rintro D W hD ⟨⟨v, hv, hrow2, -⟩, hB⟩ hK
    have e : ∃ va n vc, v = .slice va n vc := by
      rcases hrow2.2 with ⟨rfl, _⟩ | ⟨g, cap, cur, rfl, _⟩
      · exact ⟨_, _, _, rfl⟩
      · exact ⟨_, _, _, rfl⟩
    obtain ⟨va, vn, vc, rfl⟩ := e
    have hV0 := Lib.hid hv
    have hR2 := Lib.hid hrow2
    have hBB := Lib.hid hB
    have hKK := Lib.hid hK
    have hDD := Lib.hid hD
    have c3 := hv.cell
    clear hv hrow2 hB hK hD hi hz0 hz1 hz2 b1 hB0 hV
    gi_wp2
    refine ⟨by simp, .inl ⟨_, _, rfl, run_takeDeferred hKK.out, ?_⟩⟩
    have hD0 := hDD.out
    simp only [World.size_alloc] at hD0
    refine ⟨.slice va vn vc, by simp [results, Try.f64, go_sem], .slice va vn vc, rfl, ?_, hBB.out.trans (belowK_b (w := w) (Nat.le_refl _) _ D _ _ (by omega) hKK.out rfl rfl)⟩
    have h := ownsRow_putObj hR2.out (.deferred none) hKK.out rfl
    rw [List.take_length] at h
    exact h
  case stop =>
    rintro D c k W hD hk h hK
    exact h.elim
theorem appendSeqE_calls (Bt c : Nat) (a : Option Addr) (t : List En) (w : World) (hV : Vals Bt a c t w) (ht : t.length ≤ 4096) :
    Calls Try.prog 64 #[.slice none 0 0, .func (.func 55) #[] #[.pointer (some ⟨Bt, 0, none⟩)]] w fun e W' => ∃ v', e = .returned v' ∧ W'.ownsRow w.heap.size 81 4 v' t.length (cellsE t) ∧ Below w.heap.size w W' :=
  (callsIn_wide (n := 5)).1 (appendSeqE_in 5 (by omega) Bt c a t w hV ht)
set_option maxRecDepth 100000 in
theorem collectE_calls (Bt c : Nat) (a : Option Addr) (t : List En) (w : World) (hV : Vals Bt a c t w) (ht : t.length ≤ 4096) :
    Calls Try.prog 53 #[.func (.func 55) #[] #[.pointer (some ⟨Bt, 0, none⟩)]] w fun e W' => ∃ a c, e = .returned (.slice a t.length c) ∧ W'.ownsRow w.heap.size 81 4 (.slice a t.length c) t.length (cellsE t) ∧ Below w.heap.size w W' := by
  have HA := Lib.hid (appendSeqE_calls Bt c a t w hV ht)
  clear hV
  go_enter Try.func53, Try.ntmps53
  go_wp2_with fail
  refine HA.out.mono ?_
  rintro e w1 ⟨v, rfl, ho, hb⟩
  have HO := Lib.hid ho
  have HB := Lib.hid hb
  obtain ⟨a1, c1, rfl, -, -⟩ := (TV.of_owns ho).1.shape
  clear ho hb
  go_wp2
  go_ret
  exact ⟨a1, c1, rfl, HO.out, HB.out⟩
end Go.Proofs.Ytjnocijfjkbaiaa
