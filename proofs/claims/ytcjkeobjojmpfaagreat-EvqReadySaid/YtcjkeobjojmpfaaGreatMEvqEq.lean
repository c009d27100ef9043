import Derived.Test.YtcjkeobjojmpfaaGreatMEvqK
import Derived.Test.YtcjkeobjojmpfaaGreatMEvqI
import Derived.Laws.StructEq
import Derived.BigQuiet
import Derived.Deep.QuietTactic
section
/-
  CONTRACT of evq's before.
-/
namespace Go.Proofs.YtcjkeobjojmpfaaGreat
open Go.RowKit Go.Shelf

attribute [local go_sem] Oper.semAt_some

set_option maxRecDepth 100000 in
set_option maxHeartbeats 4000000 in
theorem beforeQ_in (r : Nat) (hr : 12 ≤ r) {w : World} {q : Nat} {p : Qp} {cap U : Nat} {ev : Nat → Ev} {M : Mp} {S : Tb} {f : Int → Int → Option (Nat × Nat)} (hV : QB w q p cap U ev M S f) (t : Int) :
    CallsIn Fence.wide r Tryz.prog 50 #[.pointer (some ⟨q, 0, none⟩), .int .i64 t] w fun e W' => ∃ v n, e = .returned v ∧ n ≤ (lsQ cap ev M).length ∧ (∀ j : Nat, j < n → (vn (lsQ cap ev M) j).1.1 < t) ∧ (n < (lsQ cap ev M).length → t ≤ (vn (lsQ cap ev M) n).1.1) ∧ W'.ownsRow w.heap.size 33 5 v n (cellsV ((lsQ cap ev M).take n)) ∧ Below w.heap.size w W' := by
  obtain ⟨i0, hi, hz0, hz1, hz2⟩ := info_parts info_ev
  have hcap := hV.lim
  have hle := hV.st.le_cap
  obtain ⟨L, hL⟩ : ∃ L, lsQ cap ev M = L := ⟨_, rfl⟩
  have hseq := fun Bt => sorted1_kept (r - 1) (by omega) Bt q p cap U ev M S f hcap
  rw [hL] at hle ⊢
  simp only [hL] at hseq
  have HL256 := Lib.hid (show L.length ≤ 256 by omega)
  have HSr := Lib.hid (fun W => sorted_calls q W)
  refine callsIn_of_wp_marks Tryz.func50 rfl trivial ?_ rfl
  simp only [Tryz.ntmps50, List.size_toArray, List.length_cons, List.length_nil, Nat.reduceAdd, Nat.reduceSub, Array.replicate_succ, Array.replicate_zero, List.push_toArray, List.append_toArray, List.nil_append, List.cons_append]
  gi_wp2_with fail
  refine wpIn_wide.2 (wp_scope_straight ((wpIn_wide (n := r)).1 ?_))
  gi_wp2_with fail
  apply wpIn_label
  gi_wp2_with fail
  refine ⟨trivial, (by intro _; omega), (callsIn_wide.2 (HSr.out _)).mono ?_⟩
  rintro e w2 ⟨rfl, rfl⟩
  gi_wp2_with fail
  obtain ⟨w1, hw1⟩ : ∃ w1, w.alloc (.cells #[.int .i64 t] 3) = w1 := ⟨_, rfl⟩
  have hs1 : w1.heap.size = w.heap.size + 1 := by rw [← hw1]; simp
  have hb1 : Below w.heap.size w w1 := by rw [← hw1]; exact (Below.refl _ w).alloc (Nat.le_refl _) _
  have ht1 : w1.heap[w.heap.size]? = some (.cells #[.int .i64 t] 3 (0, 0)) := by rw [← hw1]; exact World.alloc_heap_new w _
  have hV1 := hV.below hb1
  have bL : Boxed (w1.alloc (.cells #[.slice none 0 0] 24)) (w.heap.size + 1) 24 (.slice none 0 0) := by have := Boxed.new w1 24 (.slice none 0 0); rwa [hs1] at this
  have hB2 : Below w1.heap.size w1 ((w1.alloc (.cells #[.slice none 0 0] 24)).alloc (.cells #[.pointer (some ⟨q, 0, none⟩)] 26)) := ((Below.refl _ w1).alloc (Nat.le_refl _) _).alloc (by simp) _
  have hQb : ((w1.alloc (.cells #[.slice none 0 0] 24)).alloc (.cells #[.pointer (some ⟨q, 0, none⟩)] 26)).heap[w.heap.size + 1 + 1]? = some (.cells #[.pointer (some ⟨q, 0, none⟩)] 26 (0, 0)) := by
    have := World.alloc_heap_new (w1.alloc (.cells #[.slice none 0 0] 24)) (.cells #[.pointer (some ⟨q, 0, none⟩)] 26)
    rw [World.size_alloc, hs1] at this
    exact this
  have hGI : GrI w1 (w.heap.size + 1) (w.heap.size + 1) ((w1.alloc (.cells #[.slice none 0 0] 24)).alloc (.cells #[.pointer (some ⟨q, 0, none⟩)] 26)) := ⟨bL.alloc _, by rw [← hs1]; exact hB2⟩
  have hGP : GrP w1 (w.heap.size + 1) (w.heap.size + 1) [] (w.heap.size + 1 + 1) (.cells #[.pointer (some ⟨q, 0, none⟩)] 26 (0, 0)) ((w1.alloc (.cells #[.slice none 0 0] 24)).alloc (.cells #[.pointer (some ⟨q, 0, none⟩)] 26)) := ⟨⟨_, bL.alloc _, World.ownsRow_nil _ _ _ _, by simp [Value.ownBlock]⟩, by omega, hQb, rfl, by rw [← hs1]; exact hB2⟩
  rw [hw1]
  have hbase : w.heap.size + 1 ≤ w1.heap.size := by omega
  have hSz3 : w.heap.size + 1 ≤ ((w1.alloc (.cells #[.slice none 0 0] 24)).alloc (.cells #[.pointer (some ⟨q, 0, none⟩)] 26 (0, 0))).heap.size := by simp [hs1]
  have hst : ∀ W, Below w1.heap.size w1 W → W.heap[w.heap.size + 1 + 1]? = some (.cells #[.pointer (some ⟨q, 0, none⟩)] 26 (0, 0)) → SrtSt (w.heap.size + 1 + 1) q p cap U ev M S f W := fun W h1 h2 => ⟨h2, hV1.below h1⟩
  have hb' : ∀ {W}, Below (w.heap.size + 1) w1 W → Below w1.heap.size w1 W := fun h => by rw [hs1]; exact h
  have HT1 := Lib.hid ht1
  refine wpIn_rangeKeptG (encs := fun k => #[vV (vn L k)]) (N := L.length) (St := SrtSt (w.heap.size + 1 + 1) q p cap U ev M S f) rfl (by omega) (gf := 66) (lb := #[.pointer (some ⟨w.heap.size + 1 + 1, 0, none⟩)]) rfl trivial (enters_of Tryz.func66 (by kernel_rfl) rfl)
    (hseq (w.heap.size + 1 + 1))
    (fun _ => rfl)
    (fun W => GrI w1 (w.heap.size + 1) (w.heap.size + 1) W ∧ GrP w1 (w.heap.size + 1) (w.heap.size + 1) [] (w.heap.size + 1 + 1) (.cells #[.pointer (some ⟨q, 0, none⟩)] 26 (0, 0)) W)
    (fun z o k W => (GrP w1 (w.heap.size + 1) (w.heap.size + 1) (L.take k) z o W ∧ GrP w1 (w.heap.size + 1) (w.heap.size + 1) (L.take k) (w.heap.size + 1 + 1) (.cells #[.pointer (some ⟨q, 0, none⟩)] 26 (0, 0)) W) ∧ ∀ j : Nat, j < k → (vn L j).1.1 < t)
    (fun z o c k W => (c = .exit 0 ∧ (∀ j : Nat, j < k → (vn L j).1.1 < t) ∧ t ≤ (vn L k).1.1) ∧ GrP w1 (w.heap.size + 1) (w.heap.size + 1) (L.take k) z o W)
    (fun W h => hst W (hb' h.1.bel) h.2.guest)
    (fun z o k W h => ⟨hst W (hb' h.1.1.bel) h.1.2.guest, h.1.1.guest⟩)
    (OwnFrom.and (ownFrom_mono (GrI.own hbase) hSz3) (ownFrom_mono (GrP.own (β := Unit) (l := fun _ => []) hbase) hSz3))
    (fun z o => OwnFrom.and (OwnFrom.and (ownFrom_mono (GrP.own (β := Nat) (l := fun k => L.take k) hbase) hSz3) (ownFrom_mono (GrP.own (β := Nat) (l := fun k => L.take k) hbase) hSz3)) (ownFrom_pure _ _))
    (fun z o c => OwnFrom.and (ownFrom_pure _ _) (ownFrom_mono (GrP.own (β := Nat) (l := fun k => L.take k) hbase) hSz3))
    ⟨hGI, hGP⟩
    (fun W W' z o h hb hz ho hc => by
      rw [List.take_zero]
      exact ⟨⟨h.1.guest hbase hb hz ho hc, h.2.below hb (h.2.size hbase)⟩, fun j hj => absurd hj (Nat.not_lt_zero j)⟩)
    (fun k a' W => ∃ pb, a' = { tmps := #[.pointer (some ⟨q, 0, none⟩), .int .i64 t, undef, .pointer (some ⟨w.heap.size, 0, none⟩), .slice none 0 0, .pointer (some ⟨w.heap.size + 1, 0, none⟩), .pointer (some ⟨pb, 0, none⟩), .pointer (some ⟨q, 0, none⟩), .func (.func 66) #[] #[.pointer (some ⟨w.heap.size + 1 + 1, 0, none⟩)], .agg #[.int .i64 (vn L k).1.1, .int .i64 (vn L k).1.2.1, .int .i64 (vn L k).1.2.2, .int .i64 (vn L k).2.1, .int .i64 (vn L k).2.2], undef, undef, undef, undef, undef, undef, undef, undef, undef, undef], defers := [] } ∧ VB W pb (vn L k))
    (fun k a' => fun s A B row hs hg hr => by obtain ⟨pb, e1, e2⟩ := hs; exact ⟨pb, e1, (hg.block pb e2.lt (fun e => by obtain ⟨_, o, ho, hc⟩ := hr pb e.symm; rw [show A.heap[pb]? = _ from e2] at ho; cases ho; cases hc)).trans e2⟩) ?assign ?body ?done ?stop
  case assign =>
    rintro l z o k W K hk hI hK
    generalize vn L k = E at *
    unfold vV
    gi_wp2
    refine hK _ _ ((KeepsOthers.alloc _ _).from _) ⟨⟨hI.1.1.below ((Below.refl _ _).alloc (Nat.le_refl _) _) (hI.1.1.size hbase), hI.1.2.below ((Below.refl _ _).alloc (Nat.le_refl _) _) (hI.1.1.size hbase)⟩, hI.2⟩ ⟨_, rfl, World.alloc_heap_new W _⟩
  case body =>
    rintro l z o k a' W hk ⟨⟨hI, hI2⟩, hbf⟩ ⟨pb, rfl, hpb⟩
    have hlen : (L.take k).length = k := by rw [List.length_take]; omega
    obtain ⟨v, hv, hrow2, -⟩ := hI.ex
    rw [hlen] at hrow2
    have hV0 := Lib.hid hv
    have hR2 := Lib.hid hrow2
    have HI := Lib.hid hI
    have HI2 := Lib.hid hI2
    have hsz := hI.size hbase
    have hIn := Lib.hid hi
    have hZ0 := Lib.hid hz0
    have hZ1 := Lib.hid hz1
    have hZ2 := Lib.hid hz2
    have c3 := hv.cell
    have f3 := hv.frozen
    have htb : W.cell? ⟨w.heap.size, 0, none⟩ = some (.int .i64 t) := by
      have := (hI.bel.block w.heap.size (by omega)).trans HT1.out
      simp [World.cell?, this]
    obtain ⟨p0, p1, p2, p3, p4, -⟩ := hpb.cells
    have HTk := Lib.hid (take_vn L k hk)
    have HLe := Lib.hid hlen
    have HBf := Lib.hid hbf
    have hk256 : k ≤ 256 := by have := HL256.out; omega
    have HX := Lib.hid (show ∃ E, vn L k = E from ⟨_, rfl⟩)
    by_cases hlt : (vn L k).1.1 < t
    · have hge : ¬ ((vn L k).1.1 ≥ t) := by omega
      have HLt := Lib.hid (show ∀ j : Nat, j < k + 1 → (vn L j).1.1 < t from fun j hj => by
        rcases Nat.lt_or_ge j k with c | c
        · exact hbf j c
        · obtain rfl : j = k := by omega
          exact hlt)
      generalize vn L k = E at *
      clear hv hrow2 hi hz0 hz1 hz2 hV hpb hI hI2 hseq hbf hb1 ht1 hV1 bL hB2 hQb hGI hGP hst hSz3
      gi_wp2_with (gi_at_builtin; (refine wpListIn_append_own_at _ rfl _ _ 24 rfl (w.heap.size + 1) 33 i0 (.agg #[.int .i64 0, .int .i64 0, .int .i64 0, .int .i64 0, .int .i64 0]) 5 40 Tryz.underlying24 hIn.out hZ0.out hZ1.out hZ2.out rfl (by decide) _ _ _ rfl (hR2.out.alloc _) ⟨W.heap.size, 0, none⟩ 1 1 (encV E) rfl rfl (vcells_new _ _ _ _ _ _ _) (by intro u hu; simp [encV] at hu; rcases hu with rfl | rfl | rfl | rfl | rfl <;> rfl) (by unfold maxLen; omega) (by omega) (by simp; omega) ?_; intro v' w1' hown' hgrow _ hat; obtain ⟨g', cap', rfl⟩ := ownsRow_succ hown'; obtain ⟨hv1, hv2, hk2⟩ := HI.out.appended hbase (Nat.le_refl _) hV0.out E (by rw [HLe.out]; exact hown') hgrow hat; obtain ⟨-, hv3, -⟩ := HI2.out.appended hbase (Nat.le_refl _) hV0.out E (by rw [HLe.out]; exact hown') hgrow hat; have hc1 := hv1.cell; have hf1 := hv1.frozen; have hV2 := Lib.hid hv2; have hV3 := Lib.hid hv3; have hK2 := Lib.hid hk2; clear hgrow hv1 hv2 hv3 hk2 hown' hat))
      refine ⟨hK2.out.from _, ⟨?_, ?_⟩, HLt.out⟩
      · show GrP w1 (w.heap.size + 1) (w.heap.size + 1) (L.take (k + 1)) z o _
        rw [HTk.out]
        exact hV2.out
      · show GrP w1 (w.heap.size + 1) (w.heap.size + 1) (L.take (k + 1)) _ _ _
        rw [HTk.out]
        exact hV3.out
    · have hge : (vn L k).1.1 ≥ t := by omega
      have HGe := Lib.hid (show t ≤ (vn L k).1.1 by omega)
      generalize hE : vn L k = E at *
      clear hv hrow2 hi hz0 hz1 hz2 hV hpb hI hI2 hseq hbf hb1 ht1 hV1 bL hB2 hQb hGI hGP hst hSz3 hlt
      gi_wp2_with fail
      exact ⟨KeepsFrom.refl _ _, ⟨rfl, HBf.out, by rw [hE]; exact HGe.out⟩, HI.out⟩
  case done =>
    rintro z o D W hD ⟨⟨hI, -⟩, hbf⟩ hK
    obtain ⟨v, hv, hrow2, -⟩ := hI.ex
    have HN := Lib.hid (show L.length ≤ L.length ∧ (∀ j : Nat, j < L.length → (vn L j).1.1 < t) ∧ (L.length < L.length → t ≤ (vn L L.length).1.1) from ⟨Nat.le_refl _, hbf, fun h => absurd h (Nat.lt_irrefl _)⟩)
    rw [show (L.take L.length).length = L.length by simp] at hrow2
    have e : ∃ va n vc, v = .slice va n vc := by
      rcases hrow2.2 with ⟨rfl, _⟩ | ⟨g, cap, cur, rfl, _⟩
      · exact ⟨_, _, _, rfl⟩
      · exact ⟨_, _, _, rfl⟩
    obtain ⟨va, vn', vc, rfl⟩ := e
    have hV0 := Lib.hid hv
    have hR2 := Lib.hid hrow2
    have hBB := Lib.hid (hb1.trans (hI.bel.mono (by omega)))
    have hKK := Lib.hid hK
    have hDD := Lib.hid hD
    have c3 := hv.cell
    have hSz := Lib.hid hSz3
    clear hv hrow2 hI hi hz0 hz1 hz2 hV hseq hb1 ht1 hV1 bL hB2 hQb hGI hGP hst hSz3 hbf hK hD
    gi_wp2
    refine ⟨by simp, .inl ⟨_, _, rfl, run_takeDeferred hKK.out, ?_⟩⟩
    have hD0 := hDD.out
    have hSz4 := hSz.out
    refine ⟨.slice va vn' vc, by simp [results, Tryz.f50, go_sem], .slice va vn' vc, L.length, rfl, HN.out.1, HN.out.2.1, HN.out.2.2, ?_, hBB.out.trans (belowK_b (w := w) (Nat.le_refl _) _ D _ _ (by omega) hKK.out rfl rfl)⟩
    have h := ownsRow_putObj hR2.out (.deferred none) hKK.out rfl
    obtain ⟨q1, q2 | ⟨g, cap', cur, e, hb, r⟩⟩ := h
    · exact ⟨q1, .inl q2⟩
    · exact ⟨q1, .inr ⟨g, cap', cur, e, by omega, r⟩⟩
  case stop =>
    rintro z o D c k W hD hk ⟨⟨rfl, hbf, hge⟩, hI⟩ hK
    obtain ⟨v, hv, hrow2, -⟩ := hI.ex
    have HN := Lib.hid (show k ≤ L.length ∧ (∀ j : Nat, j < k → (vn L j).1.1 < t) ∧ (k < L.length → t ≤ (vn L k).1.1) from ⟨Nat.le_of_lt hk, hbf, fun _ => hge⟩)
    rw [show (L.take k).length = k by rw [List.length_take]; omega] at hrow2
    have e : ∃ va n vc, v = .slice va n vc := by
      rcases hrow2.2 with ⟨rfl, _⟩ | ⟨g, cap, cur, rfl, _⟩
      · exact ⟨_, _, _, rfl⟩
      · exact ⟨_, _, _, rfl⟩
    obtain ⟨va, vn', vc, rfl⟩ := e
    have hV0 := Lib.hid hv
    have hR2 := Lib.hid hrow2
    have hBB := Lib.hid (hb1.trans (hI.bel.mono (by omega)))
    have hKK := Lib.hid hK
    have hDD := Lib.hid hD
    have c3 := hv.cell
    have hSz := Lib.hid hSz3
    clear hv hrow2 hI hi hz0 hz1 hz2 hV hseq hb1 ht1 hV1 bL hB2 hQb hGI hGP hst hSz3 hbf hge hK hD
    gi_wp2
    refine ⟨by simp, .inl ⟨_, _, rfl, run_takeDeferred hKK.out, ?_⟩⟩
    have hD0 := hDD.out
    have hSz4 := hSz.out
    refine ⟨.slice va vn' vc, by simp [results, Tryz.f50, go_sem], .slice va vn' vc, k, rfl, HN.out.1, HN.out.2.1, HN.out.2.2, ?_, hBB.out.trans (belowK_b (w := w) (Nat.le_refl _) _ D _ _ (by omega) hKK.out rfl rfl)⟩
    have h := ownsRow_putObj hR2.out (.deferred none) hKK.out rfl
    obtain ⟨q1, q2 | ⟨g, cap', cur, e, hb, r⟩⟩ := h
    · exact ⟨q1, .inl q2⟩
    · exact ⟨q1, .inr ⟨g, cap', cur, e, by omega, r⟩⟩
end Go.Proofs.YtcjkeobjojmpfaaGreat
end

section
/-
  CONTRACT of evq's TakeBefore.
-/
namespace Go.Proofs.YtcjkeobjojmpfaaGreat
open Go.RowKit Go.Shelf

/-- Where a list is cut at a time. -/
def CutAt (L : List Ev) (t : Int) (n : Nat) : Prop := n ≤ L.length ∧ (∀ j : Nat, j < n → (vn L j).1.1 < t) ∧ (n < L.length → t ≤ (vn L n).1.1)
theorem beforeQ_calls {w : World} {q : Nat} {G : Nat → Prop} {cap U : Nat} {L : List Ev} (h : QA w q G cap U L) (t : Int) :
    Calls Tryz.prog 50 #[.pointer (some ⟨q, 0, none⟩), .int .i64 t] w fun e W' => ∃ v n, e = .returned v ∧ CutAt L t n ∧ W'.ownsRow w.heap.size 33 5 v n (cellsV (L.take n)) ∧ Below w.heap.size w W' := by
  obtain ⟨p, ev, M, S, f, hb, rfl, -⟩ := h.ex
  refine ((callsIn_wide (n := 12)).1 (beforeQ_in 12 (by omega) hb t)).mono ?_
  rintro e w' ⟨v, n, h1, h2, h3, h4, h5, h6⟩
  exact ⟨v, n, h1, ⟨h2, h3, h4⟩, h5, h6⟩
theorem cutsV_take {L : List Ev} (ha : AscV L) (hd : DistV L) (n : Nat) : cutsV L (L.take n) = L.drop n := by
  refine ascV_unique _ _ (cutsV_asc ha _) (ha.sublist (List.drop_sublist ..)) fun y => ?_
  rw [cutsV_mem]
  have hs : L.take n ++ L.drop n = L := List.take_append_drop n L
  rw [← hs] at hd
  obtain ⟨_, _, h3⟩ := List.pairwise_append.1 hd
  constructor
  · rintro ⟨h1, h2⟩
    rw [← hs] at h1
    rcases List.mem_append.1 h1 with c | c
    · exact absurd rfl (h2 y c)
    · exact c
  · intro hy
    exact ⟨List.mem_of_mem_drop hy, fun x hx e => h3 x hx y hy e.symm⟩
/-- What a call leaves of a queue, beside a list that it returns. -/
structure QList (w w' : World) (q : Nat) (G : Nat → Prop) (cap U : Nat) (L : List Ev) (v : Value) (l : List Ev) : Prop where
  ex : ∃ G', QA w' q G' cap U L ∧ Off G w w' ∧ (∀ k, G' k → G k ∨ w.heap.size ≤ k) ∧ LV w' v l ∧ ∀ k, v.ownBlock = some k → w.heap.size ≤ k ∧ ¬ G' k
set_option maxRecDepth 100000 in
set_option maxHeartbeats 4000000 in
theorem takeBeforeQ_calls {w : World} {q : Nat} {G : Nat → Prop} {cap U : Nat} {L : List Ev} (h : QA w q G cap U L) (t : Int) :
    Calls Tryz.prog 22 #[.pointer (some ⟨q, 0, none⟩), .int .i64 t] w fun e w' => ∃ v n, e = .returned v ∧ CutAt L t n ∧ QList w w' q G cap U (L.drop n) v (L.take n) := by
  have HB := Lib.hid (beforeQ_calls h t)
  have HC := Lib.hid (show ∀ W a n c, n ≤ L.length → W.ownsRow w.heap.size 33 5 (.slice a n c) n (cellsV (L.take n)) → Below w.heap.size w W → Calls Tryz.prog 51 #[.pointer (some ⟨q, 0, none⟩), .slice a n c] W fun e w' => (∃ v, e = .returned v) ∧ QList w w' q G cap U (L.drop n) (.slice a n c) (L.take n) from fun W a n c hn ho hb => by
    have hlen : (L.take n).length = n := by rw [List.length_take]; omega
    obtain ⟨hv, hf⟩ := LV.of_owns (tv := .slice a n c) (t := L.take n) (base := w.heap.size) (w := W) (by rw [hlen]; exact ho)
    obtain ⟨h1, h2, h3, h4, h5⟩ := h.facts
    have hlt := h.lt
    have hc := cutQ_calls (h.below hb) _ _ hv (fun k hk hg => by have := hf k hk; have := hlt k hg; omega) (fun x hx => List.mem_of_mem_take hx) (h2.sublist (List.take_sublist ..)) (by omega)
    rw [cutsV_take h1 h2] at hc
    refine hc.mono ?_
    rintro e w' ⟨h6, h7⟩
    obtain ⟨G', hq, ho', hg'⟩ := h7.ex
    have hvl := hv.lt
    refine ⟨h6, ⟨G', hq, (Off.of_below hb).to ho', fun k hk => ?_, hv.keep fun k hk => ho'.block k (hvl k hk) (fun hg => by have := hf k hk; have := hlt k hg; omega), fun k hk => ⟨hf k hk, fun hg => ?_⟩⟩⟩
    · rcases hg' k hk with c | c
      · exact .inl c
      · exact .inr (Nat.le_trans hb.size c)
    · rcases hg' k hg with c | c
      · have := hf k hk; have := hlt k c; omega
      · have := hvl k hk; omega)
  clear h
  go_enter Tryz.func22, Tryz.ntmps22
  go_wp2_with fail
  refine HB.out.mono ?_
  rintro e w1 ⟨v, n, rfl, hc, ho, hb⟩
  have e1 : ∃ a c, v = .slice a n c := by
    rcases ho.2 with ⟨rfl, e⟩ | ⟨g, cap', cur, rfl, _⟩
    · exact ⟨none, 0, by rw [← e]⟩
    · exact ⟨_, _, rfl⟩
  obtain ⟨a, c, rfl⟩ := e1
  have HCut := Lib.hid hc
  have HC1 := Lib.hid (HC.out w1 a n c hc.1 ho hb)
  clear hc ho hb
  go_wp2_with (first | (go_at_call 51; refine HC1.out.mono ?_; rintro e w2 ⟨⟨v, rfl⟩, h2⟩; have H2 := Lib.hid h2; clear h2) | fail)
  go_ret
  exact ⟨_, n, rfl, HCut.out, H2.out⟩
end Go.Proofs.YtcjkeobjojmpfaaGreat
end

section
/-
  CONTRACTS of the comparison of events, and of slices.Equal at lists that are the same.
-/
namespace Go.Proofs.YtcjkeobjojmpfaaGreat
open Go.RowKit Go.Shelf

theorem evFields : Tryz.prog.underlying 33 = some (.struct (Tryz.prog.fieldsOf 33)) := by kernel_rfl
theorem evHeld : Tryz.prog.stoodInHeld 33 = false := by kernel_rfl
theorem kyFields : Tryz.prog.underlying 31 = some (.struct (Tryz.prog.fieldsOf 31)) := by kernel_rfl
theorem kyHeld : Tryz.prog.stoodInHeld 31 = false := by kernel_rfl
theorem equalKy (a b c : Int) (n : Nat) (w : World) : (Op.equalIn (n + 3) 31 (.agg #[.int .i64 a, .int .i64 b, .int .i64 c]) (.agg #[.int .i64 a, .int .i64 b, .int .i64 c])).run Tryz.prog w = .ok true w := by
  rw [run_equalIn_struct (P := Tryz.prog) w (n + 2) 31 _ _ kyFields kyHeld]
  simp [Op.eqFields, go_sem, Program.fieldsOf, Tryz.underlying31]
theorem cellsKy : Tryz.prog.cellsOf 31 = 3 := by kernel_rfl
theorem equalEv (x : Ev) (w : World) : (Op.equalIn 10000 33 (vV x) (vV x)).run Tryz.prog w = .ok true w := by
  unfold vV
  rw [run_equalIn_struct (P := Tryz.prog) w 9999 33 _ _ evFields evHeld]
  simp [Op.eqFields, go_sem, Program.fieldsOf, Tryz.underlying33]
theorem eqlV (x : Ev) (w : World) : (binOp .eql 33 (.agg #[.int .i64 x.1.1, .int .i64 x.1.2.1, .int .i64 x.1.2.2, .int .i64 x.2.1, .int .i64 x.2.2]) (.agg #[.int .i64 x.1.1, .int .i64 x.1.2.1, .int .i64 x.1.2.2, .int .i64 x.2.1, .int .i64 x.2.2])).run Tryz.prog w = .ok (.bool true) w := by
  have h := equalEv x w
  unfold vV at h
  rw [run_eql_struct, h]; rfl
theorem neqV (x : Ev) (w : World) : (binOp .neq 33 (.agg #[.int .i64 x.1.1, .int .i64 x.1.2.1, .int .i64 x.1.2.2, .int .i64 x.2.1, .int .i64 x.2.2]) (.agg #[.int .i64 x.1.1, .int .i64 x.1.2.1, .int .i64 x.1.2.2, .int .i64 x.2.1, .int .i64 x.2.2])).run Tryz.prog w = .ok (.bool false) w := by
  have h := equalEv x w
  unfold vV at h
  rw [run_neq_struct, h]; rfl
theorem below_drV {w w' : World} (h : Below w.heap.size w w') (m : Nat) : Below w.heap.size w (w'.drewN m) := ⟨h.os, h.tape, h.output, h.size, h.block⟩
set_option maxRecDepth 100000 in
set_option maxHeartbeats 2000000 in
/-- slices.Equal of lists that are the same. -/
theorem equalOs_calls (v v' : Value) (l : List Ev) (w : World) (h1 : LO w v l) (h2 : LO w v' l) (hn : l.length ≤ 100000) :
    Calls Tryz.prog 13 #[v, v'] w fun e w' => e = .returned (.bool true) ∧ Below w.heap.size w w' := by
  have mixed : Tryz.prog.follows .mixedOrders = true := by kernel_rfl
  obtain ⟨a, c, rfl, -, -⟩ := h1.shape
  obtain ⟨a', c', rfl, -, -⟩ := h2.shape
  have H1 := Lib.hid h1; have H2 := Lib.hid h2
  obtain ⟨n, hln⟩ : ∃ n, l.length = n := ⟨_, rfl⟩
  have HN := Lib.hid hln
  rw [hln] at hn ⊢
  clear h1 h2 hln
  go_enter Tryz.func13, Tryz.ntmps13
  go_wp2_with fail
  go_loopw [5, 13] (fun s5 s13 wr => ∃ k : Nat, k ≤ n ∧ s13 = .int .i64 (k : Int) ∧ ∃ q, wr = w.drewN q) (fun _ s13 _ => n - (intOf s13).toNat)
  case atStart => exact ⟨0, Nat.zero_le _, rfl, 0, rfl⟩
  case round =>
    obtain ⟨k, hk, rfl, q, rfl⟩ := hrel
    by_cases hlt : k < n
    · have hlt' : (k : Int) < (n : Int) := by omega
      obtain ⟨g1, o1, rfl, -, x0, x1, x2, x3, x4⟩ := H1.out.at (k := k) (by rw [HN.out]; exact hlt)
      obtain ⟨g2, o2, rfl, -, y0, y1, y2, y3, y4⟩ := H2.out.at (k := k) (by rw [HN.out]; exact hlt)
      have hNe := fun W => neqV (vn l k) W
      have hwk : IntKind.i64.wrap ((k : Int) + 1) = (k : Int) + 1 := by rw [IntKind.wrap_i64]; omega
      generalize vn l k = x at *
      go_wp2_with fail
      go_quiet (fail)
      go_wp2_with fail
      go_roundw
      case rel => exact ⟨k + 1, hlt, by go_num, _, rfl⟩
      case measure => simp [intOf]; omega
    · obtain rfl : k = n := by omega
      go_wp2_with fail
      go_ret
      exact ⟨rfl, below_drV (Below.refl _ w) _⟩
theorem equalVs_calls (v v' : Value) (l : List Ev) (w : World) (h1 : LV w v l) (h2 : LV w v' l) (hn : l.length ≤ 100000) :
    Calls Tryz.prog 13 #[v, v'] w fun e w' => e = .returned (.bool true) ∧ Below w.heap.size w w' := equalOs_calls v v' l w h1.lo h2.lo hn
end Go.Proofs.YtcjkeobjojmpfaaGreat
end
