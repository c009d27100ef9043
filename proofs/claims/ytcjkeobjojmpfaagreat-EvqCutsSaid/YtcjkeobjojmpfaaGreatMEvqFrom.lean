import Derived.Test.YtcjkeobjojmpfaaGreatMEvqM
import Derived.Test.YtcjkeobjojmpfaaGreatMEvqK
section
/-
  PLAIN FACTS: the events from a key on, but not more than a number.
-/
namespace Go.Proofs.YtcjkeobjojmpfaaGreat
open Go.RowKit

def fromL (k : Ky) (m : Nat) (L : List Ev) : List Ev := (L.filter fun x => decide (¬ LessK x.1 k)).take m
theorem fromL_len (k : Ky) (m : Nat) (L : List Ev) : (fromL k m L).length ≤ L.length ∧ (fromL k m L).length ≤ m := by
  unfold fromL
  rw [List.length_take]
  have := List.length_filter_le (fun x : Ev => decide (¬ LessK x.1 k)) L
  omega
/-- One event more. -/
theorem fromL_snoc (k : Ky) (m : Nat) (L : List Ev) (x : Ev) (h : (fromL k m L).length < m) : fromL k m (L ++ [x]) = if LessK x.1 k then fromL k m L else fromL k m L ++ [x] := by
  unfold fromL at *
  rw [List.filter_append]
  generalize List.filter (fun x : Ev => decide (¬ LessK x.1 k)) L = F at *
  rw [List.length_take] at h
  by_cases hx : LessK x.1 k
  · rw [if_pos hx, List.filter_cons_of_neg (by simpa using hx), List.filter_nil, List.append_nil]
  · rw [if_neg hx, List.filter_cons_of_pos (by simpa using hx), List.filter_nil, List.take_append, List.take_of_length_le (l := [x]) (by rw [List.length_singleton]; omega), List.take_of_length_le (l := F) (by omega)]
/-- Where there are as many, there come no more. -/
theorem fromL_full (k : Ky) (m : Nat) (L M : List Ev) (h : m ≤ (fromL k m L).length) : fromL k m (L ++ M) = fromL k m L := by
  unfold fromL at *
  rw [List.filter_append]
  generalize List.filter (fun x : Ev => decide (¬ LessK x.1 k)) L = F at *
  rw [List.length_take] at h
  rw [List.take_append, show m - F.length = 0 by omega, List.take_zero, List.append_nil]
theorem fromL_take (k : Ky) (m : Nat) (L : List Ev) (j : Nat) (h : m ≤ (fromL k m (L.take j)).length) : fromL k m (L.take j) = fromL k m L := by
  conv => rhs; rw [← List.take_append_drop j L]
  exact (fromL_full k m _ _ h).symm
theorem ltV_of_asc {L : List Ev} (ha : AscV L) {i j : Nat} (h : i < j) (hj : j < L.length) : LtV (vn L i) (vn L j) := by
  have hi : i < L.length := by omega
  have := List.pairwise_iff_getElem.1 ha i j hi hj h
  have e1 := vn_get hi
  have e2 := vn_get hj
  rw [List.getElem?_eq_getElem hi] at e1
  rw [List.getElem?_eq_getElem hj] at e2
  rwa [← Option.some.inj e1, ← Option.some.inj e2]
end Go.Proofs.YtcjkeobjojmpfaaGreat
end

section
/-
  CONTRACT of evq's From.
-/
namespace Go.Proofs.YtcjkeobjojmpfaaGreat
open Go.RowKit Go.Shelf

attribute [local go_sem] Oper.semAt_some

set_option maxRecDepth 100000 in
set_option maxHeartbeats 4000000 in
theorem fromQ_in (r : Nat) (hr : 12 ≤ r) {w : World} {q : Nat} {p : Qp} {cap U : Nat} {ev : Nat → Ev} {M : Mp} {S : Tb} {f : Int → Int → Option (Nat × Nat)} (hV : QB w q p cap U ev M S f) (key : Ky) (m : Nat) :
    CallsIn Fence.wide r Tryz.prog 21 #[.pointer (some ⟨q, 0, none⟩), .agg #[.int .i64 key.1, .int .i64 key.2.1, .int .i64 key.2.2], .int .i64 (m : Int)] w fun e W' => ∃ v, e = .returned v ∧ W'.ownsRow w.heap.size 33 5 v (fromL key m (lsQ cap ev M)).length (cellsV (fromL key m (lsQ cap ev M))) ∧ Below w.heap.size w W' := by
  obtain ⟨i0, hi, hz0, hz1, hz2⟩ := info_parts info_ev
  have hcap := hV.lim
  have hle := hV.st.le_cap
  obtain ⟨L, hL⟩ : ∃ L, lsQ cap ev M = L := ⟨_, rfl⟩
  have hseq := fun Bt => sorted1_kept (r - 1) (by omega) Bt q p cap U ev M S f hcap
  rw [hL] at hle ⊢
  simp only [hL] at hseq
  have HL256 := Lib.hid (show L.length ≤ 256 by omega)
  have HSr := Lib.hid (fun W => sorted_calls q W)
  refine callsIn_of_wp_marks Tryz.func21 rfl trivial ?_ rfl
  simp only [Tryz.ntmps21, List.size_toArray, List.length_cons, List.length_nil, Nat.reduceAdd, Nat.reduceSub, Array.replicate_succ, Array.replicate_zero, List.push_toArray, List.append_toArray, List.nil_append, List.cons_append]
  gi_wp2_with fail
  refine wpIn_wide.2 (wp_scope_straight ((wpIn_wide (n := r)).1 ?_))
  gi_wp2_with fail
  apply wpIn_label
  gi_wp2_with fail
  refine ⟨trivial, (by intro _; omega), (callsIn_wide.2 (HSr.out _)).mono ?_⟩
  rintro e w2 ⟨rfl, rfl⟩
  gi_wp2_with fail
  obtain ⟨w1, hw1⟩ : ∃ w1, (w.alloc (.cells #[.int .i64 key.1, .int .i64 key.2.1, .int .i64 key.2.2] 31)).alloc (.cells #[.int .i64 (m : Int)] 3) = w1 := ⟨_, rfl⟩
  have hs1 : w1.heap.size = w.heap.size + 1 + 1 := by rw [← hw1]; simp
  have hb1 : Below w.heap.size w w1 := by rw [← hw1]; exact ((Below.refl _ w).alloc (Nat.le_refl _) _).alloc (by simp) _
  have hm1 : w1.heap[w.heap.size + 1]? = some (.cells #[.int .i64 (m : Int)] 3 (0, 0)) := by
    have := World.alloc_heap_new (w.alloc (.cells #[.int .i64 key.1, .int .i64 key.2.1, .int .i64 key.2.2] 31)) (.cells #[.int .i64 (m : Int)] 3)
    rw [World.size_alloc, hw1] at this
    exact this
  have hk1 : w1.heap[w.heap.size]? = some (.cells #[.int .i64 key.1, .int .i64 key.2.1, .int .i64 key.2.2] 31 (0, 0)) := by
    rw [← hw1]
    exact (Below.heap_alloc _ _ _ (by simp)).trans (World.alloc_heap_new w _)
  have hV1 := hV.below hb1
  have bL : Boxed (w1.alloc (.cells #[.slice none 0 0] 24)) (w.heap.size + 1 + 1) 24 (.slice none 0 0) := by have := Boxed.new w1 24 (.slice none 0 0); rwa [hs1] at this
  have hB2 : Below w1.heap.size w1 ((w1.alloc (.cells #[.slice none 0 0] 24)).alloc (.cells #[.pointer (some ⟨q, 0, none⟩)] 26)) := ((Below.refl _ w1).alloc (Nat.le_refl _) _).alloc (by simp) _
  have hQb : ((w1.alloc (.cells #[.slice none 0 0] 24)).alloc (.cells #[.pointer (some ⟨q, 0, none⟩)] 26)).heap[w.heap.size + 1 + 1 + 1]? = some (.cells #[.pointer (some ⟨q, 0, none⟩)] 26 (0, 0)) := by
    have := World.alloc_heap_new (w1.alloc (.cells #[.slice none 0 0] 24)) (.cells #[.pointer (some ⟨q, 0, none⟩)] 26)
    rw [World.size_alloc, hs1] at this
    exact this
  have hGI : GrI w1 (w.heap.size + 1 + 1) (w.heap.size + 1 + 1) ((w1.alloc (.cells #[.slice none 0 0] 24)).alloc (.cells #[.pointer (some ⟨q, 0, none⟩)] 26)) := ⟨bL.alloc _, by rw [← hs1]; exact hB2⟩
  have hGP : GrP w1 (w.heap.size + 1 + 1) (w.heap.size + 1 + 1) [] (w.heap.size + 1 + 1 + 1) (.cells #[.pointer (some ⟨q, 0, none⟩)] 26 (0, 0)) ((w1.alloc (.cells #[.slice none 0 0] 24)).alloc (.cells #[.pointer (some ⟨q, 0, none⟩)] 26)) := ⟨⟨_, bL.alloc _, World.ownsRow_nil _ _ _ _, by simp [Value.ownBlock]⟩, by omega, hQb, rfl, by rw [← hs1]; exact hB2⟩
  rw [hw1]
  have hbase : w.heap.size + 1 + 1 ≤ w1.heap.size := by omega
  have hSz3 : w.heap.size + 1 + 1 ≤ ((w1.alloc (.cells #[.slice none 0 0] 24)).alloc (.cells #[.pointer (some ⟨q, 0, none⟩)] 26 (0, 0))).heap.size := by simp [hs1]
  have hst : ∀ W, Below w1.heap.size w1 W → W.heap[w.heap.size + 1 + 1 + 1]? = some (.cells #[.pointer (some ⟨q, 0, none⟩)] 26 (0, 0)) → SrtSt (w.heap.size + 1 + 1 + 1) q p cap U ev M S f W := fun W h1 h2 => ⟨h2, hV1.below h1⟩
  have hb' : ∀ {W}, Below (w.heap.size + 1 + 1) w1 W → Below w1.heap.size w1 W := fun h => by rw [hs1]; exact h
  have HT1 := Lib.hid (And.intro hk1 hm1)
  have HCm := Lib.hid (fun a W => compareK_calls a key W)
  refine wpIn_rangeKeptG (encs := fun k => #[vV (vn L k)]) (N := L.length) (St := SrtSt (w.heap.size + 1 + 1 + 1) q p cap U ev M S f) rfl (by omega) (gf := 66) (lb := #[.pointer (some ⟨w.heap.size + 1 + 1 + 1, 0, none⟩)]) rfl trivial (enters_of Tryz.func66 (by kernel_rfl) rfl)
    (hseq (w.heap.size + 1 + 1 + 1))
    (fun _ => rfl)
    (fun W => GrI w1 (w.heap.size + 1 + 1) (w.heap.size + 1 + 1) W ∧ GrP w1 (w.heap.size + 1 + 1) (w.heap.size + 1 + 1) [] (w.heap.size + 1 + 1 + 1) (.cells #[.pointer (some ⟨q, 0, none⟩)] 26 (0, 0)) W)
    (fun z o k W => (GrP w1 (w.heap.size + 1 + 1) (w.heap.size + 1 + 1) (fromL key m (L.take k)) z o W ∧ GrP w1 (w.heap.size + 1 + 1) (w.heap.size + 1 + 1) (fromL key m (L.take k)) (w.heap.size + 1 + 1 + 1) (.cells #[.pointer (some ⟨q, 0, none⟩)] 26 (0, 0)) W) ∧ True)
    (fun z o c k W => (c = .exit 0 ∧ m ≤ (fromL key m (L.take k)).length) ∧ GrP w1 (w.heap.size + 1 + 1) (w.heap.size + 1 + 1) (fromL key m (L.take k)) z o W)
    (fun W h => hst W (hb' h.1.bel) h.2.guest)
    (fun z o k W h => ⟨hst W (hb' h.1.1.bel) h.1.2.guest, h.1.1.guest⟩)
    (OwnFrom.and (ownFrom_mono (GrI.own hbase) hSz3) (ownFrom_mono (GrP.own (β := Unit) (l := fun _ => []) hbase) hSz3))
    (fun z o => OwnFrom.and (OwnFrom.and (ownFrom_mono (GrP.own (β := Nat) (l := fun k => fromL key m (L.take k)) hbase) hSz3) (ownFrom_mono (GrP.own (β := Nat) (l := fun k => fromL key m (L.take k)) hbase) hSz3)) (ownFrom_pure _ _))
    (fun z o c => OwnFrom.and (ownFrom_pure _ _) (ownFrom_mono (GrP.own (β := Nat) (l := fun k => fromL key m (L.take k)) hbase) hSz3))
    ⟨hGI, hGP⟩
    (fun W W' z o h hb hz ho hc => by
      rw [List.take_zero, show fromL key m [] = [] by simp [fromL]]
      exact ⟨⟨h.1.guest hbase hb hz ho hc, h.2.below hb (h.2.size hbase)⟩, trivial⟩)
    (fun k a' W => ∃ pb, a' = { tmps := #[.pointer (some ⟨q, 0, none⟩), .agg #[.int .i64 key.1, .int .i64 key.2.1, .int .i64 key.2.2], .int .i64 (m : Int), undef, .pointer (some ⟨w.heap.size, 0, none⟩), .pointer (some ⟨w.heap.size + 1, 0, none⟩), .slice none 0 0, .pointer (some ⟨w.heap.size + 1 + 1, 0, none⟩), .pointer (some ⟨pb, 0, none⟩), undef, undef, .pointer (some ⟨q, 0, none⟩), .func (.func 66) #[] #[.pointer (some ⟨w.heap.size + 1 + 1 + 1, 0, none⟩)], .agg #[.int .i64 (vn L k).1.1, .int .i64 (vn L k).1.2.1, .int .i64 (vn L k).1.2.2, .int .i64 (vn L k).2.1, .int .i64 (vn L k).2.2], undef, undef, undef, undef, undef, undef, undef, undef, undef, undef, undef, undef, undef, undef, undef, undef, undef, undef], defers := [] } ∧ VB W pb (vn L k))
    (fun k a' => fun s A B row hs hg hr => by obtain ⟨pb, e1, e2⟩ := hs; exact ⟨pb, e1, (hg.block pb e2.lt (fun e => by obtain ⟨_, o, ho, hc⟩ := hr pb e.symm; rw [show A.heap[pb]? = _ from e2] at ho; cases ho; cases hc)).trans e2⟩) ?assign ?body ?done ?stop
  case assign =>
    rintro l z o k W K hk hI hK
    generalize vn L k = E at *
    unfold vV
    gi_wp2
    refine hK _ _ ((KeepsOthers.alloc _ _).from _) ⟨⟨hI.1.1.below ((Below.refl _ _).alloc (Nat.le_refl _) _) (hI.1.1.size hbase), hI.1.2.below ((Below.refl _ _).alloc (Nat.le_refl _) _) (hI.1.1.size hbase)⟩, hI.2⟩ ⟨_, rfl, World.alloc_heap_new W _⟩
  case body =>
    rintro l z o k a' W hk ⟨⟨hI, hI2⟩, -⟩ ⟨pb, rfl, hpb⟩
    obtain ⟨v, hv, hrow2, -⟩ := hI.ex
    have hsz := hI.size hbase
    have hlf := fromL_len key m (L.take k)
    rw [List.length_take] at hlf
    have HI := Lib.hid hI
    have HI2 := Lib.hid hI2
    have hV0 := Lib.hid hv
    have hR2 := Lib.hid hrow2
    have e : ∃ va vc, v = .slice va (fromL key m (L.take k)).length vc := by
      rcases hrow2.2 with ⟨rfl, h0⟩ | ⟨g, cap, cur, rfl, _⟩
      · exact ⟨none, 0, by rw [h0]⟩
      · exact ⟨_, _, rfl⟩
    obtain ⟨va, vc, rfl⟩ := e
    have c3 := hv.cell
    have f3 := hv.frozen
    have hmb : W.cell? ⟨w.heap.size + 1, 0, none⟩ = some (.int .i64 (m : Int)) := by
      have := (hI.bel.block (w.heap.size + 1) (by omega)).trans HT1.out.2
      simp [World.cell?, this]
    obtain ⟨p0, p1, p2, p3, p4, -⟩ := hpb.cells
    have hIn := Lib.hid hi
    have hZ0 := Lib.hid hz0
    have hZ1 := Lib.hid hz1
    have hZ2 := Lib.hid hz2
    have HTk := Lib.hid (take_vn L k hk)
    have hkb : W.heap[w.heap.size]? = some (.cells #[.int .i64 key.1, .int .i64 key.2.1, .int .i64 key.2.2] 31 (0, 0)) := (hI.bel.block w.heap.size (by omega)).trans HT1.out.1
    have y0 : W.cell? ⟨w.heap.size, 0, none⟩ = some (.int .i64 key.1) := by simp [World.cell?, hkb]
    have y1 : W.cell? ⟨w.heap.size, 1, none⟩ = some (.int .i64 key.2.1) := by simp [World.cell?, hkb]
    have y2 : W.cell? ⟨w.heap.size, 2, none⟩ = some (.int .i64 key.2.2) := by simp [World.cell?, hkb]
    by_cases hfull : m ≤ (fromL key m (L.take k)).length
    · have hge : ((fromL key m (L.take k)).length : Int) ≥ (m : Int) := by omega
      have HFu := Lib.hid hfull
      generalize vn L k = E at *
      clear hv hrow2 hi hz0 hz1 hz2 hV hpb hI hI2 hseq hb1 hm1 hk1 hV1 bL hB2 hQb hGI hGP hst hSz3 hfull hkb
      gi_wp2_with fail
      exact ⟨KeepsFrom.refl _ _, ⟨rfl, HFu.out⟩, HI.out⟩
    · have hge : ¬ ((fromL key m (L.take k)).length : Int) ≥ (m : Int) := by omega
      have HSn := Lib.hid (fromL_snoc key m (L.take k) (vn L k) (by omega))
      generalize vn L k = E at *
      clear hv hrow2 hi hz0 hz1 hz2 hV hI hI2 hseq hb1 hm1 hk1 hV1 bL hB2 hQb hGI hGP hst hSz3 hfull hkb
      gi_wp2_with fail
      refine ⟨trivial, (by intro _; omega), (CallsIn.inRound l (callsIn_wide.2 (HCm.out E.1 W))).mono ?_⟩
      rintro e w5 ⟨rfl, b5⟩
      have hI5 := HI.out.below b5 hsz
      have HI5 := Lib.hid hI5
      have HI52 := Lib.hid (HI2.out.below b5 hsz)
      have hsz5 := hI5.size hbase
      have HKf := Lib.hid (keepsFrom_below (B := ((w1.alloc (.cells #[.slice none 0 0] 24)).alloc (.cells #[.pointer (some ⟨q, 0, none⟩)] 26)).heap.size) b5)
      have hpb5 : VB w5 pb E := (b5.block pb hpb.lt).trans hpb
      obtain ⟨p50, p51, p52, p53, p54, -⟩ := hpb5.cells
      obtain ⟨v5, hv5, hrow5, -⟩ := hI5.ex
      have hV0 := Lib.hid hv5
      have hR2 := Lib.hid hrow5
      have hn256 : (fromL key m (L.take k)).length ≤ 256 := by have := HL256.out; omega
      have c5 := hv5.cell
      have f5 := hv5.frozen
      by_cases hlt : LessK E.1 key
      · have hcf : ¬ (cfK E.1 key ≥ 0) := by have := cfK_neg.2 hlt; omega
        have HSn1 := Lib.hid (show fromL key m (L.take (k + 1)) = fromL key m (L.take k) by rw [HTk.out, HSn.out, if_pos hlt])
        generalize cfK E.1 key = cf at *
        generalize byK E.1 key = bf at *
        clear hv5 hrow5 hpb5 hpb b5 hI5 hlt
        gi_wp2_with fail
        refine ⟨HKf.out, ⟨?_, ?_⟩, trivial⟩
        · rw [HSn1.out]; exact HI5.out
        · rw [HSn1.out]; exact HI52.out
      · have hcf : cfK E.1 key ≥ 0 := by
          by_cases h : cfK E.1 key < 0
          · exact absurd (cfK_neg.1 h) hlt
          · omega
        have HSn1 := Lib.hid (show fromL key m (L.take (k + 1)) = fromL key m (L.take k) ++ [E] by rw [HTk.out, HSn.out, if_neg hlt])
        generalize cfK E.1 key = cf at *
        generalize byK E.1 key = bf at *
        clear hv5 hrow5 hpb5 hpb b5 hI5 hlt
        gi_wp2_with (gi_at_builtin; (refine wpListIn_append_own_at _ rfl _ _ 24 rfl (w.heap.size + 1 + 1) 33 i0 (.agg #[.int .i64 0, .int .i64 0, .int .i64 0, .int .i64 0, .int .i64 0]) 5 40 Tryz.underlying24 hIn.out hZ0.out hZ1.out hZ2.out rfl (by decide) _ _ _ rfl (hR2.out.alloc _) ⟨w5.heap.size, 0, none⟩ 1 1 (encV E) rfl rfl (vcells_new _ _ _ _ _ _ _) (by intro u hu; simp [encV] at hu; rcases hu with rfl | rfl | rfl | rfl | rfl <;> rfl) (by unfold maxLen; omega) (by omega) (by simp; omega) ?_; intro v' w1' hown' hgrow _ hat; obtain ⟨g', cap', rfl⟩ := ownsRow_succ hown'; obtain ⟨hv1, hv2, hk2⟩ := HI5.out.appended hbase (Nat.le_refl _) hV0.out E hown' hgrow hat; obtain ⟨-, hv3, -⟩ := HI52.out.appended hbase (Nat.le_refl _) hV0.out E hown' hgrow hat; have hc1 := hv1.cell; have hf1 := hv1.frozen; have hV2 := Lib.hid hv2; have hV3 := Lib.hid hv3; have hK2 := Lib.hid hk2; clear hgrow hv1 hv2 hv3 hk2 hown' hat))
        refine ⟨HKf.out.trans (hK2.out.from _), ⟨?_, ?_⟩, trivial⟩
        · rw [HSn1.out]; exact hV2.out
        · rw [HSn1.out]; exact hV3.out
  case done =>
    rintro z o D W hD ⟨⟨hI, -⟩, -⟩ hK
    obtain ⟨v, hv, hrow2, -⟩ := hI.ex
    rw [List.take_length] at hrow2
    have e : ∃ va n vc, v = .slice va n vc := by
      rcases hrow2.2 with ⟨rfl, _⟩ | ⟨g, cap, cur, rfl, _⟩
      · exact ⟨_, _, _, rfl⟩
      · exact ⟨_, _, _, rfl⟩
    obtain ⟨va, vn', vc, rfl⟩ := e
    have hV0 := Lib.hid hv
    have hR2 := Lib.hid hrow2
    have hBB := Lib.hid (hb1.trans (hI.bel.mono (by omega)))
    have hKK := Lib.hid hK
    have hDD := Lib.hid hD
    have c3 := hv.cell
    have hSz := Lib.hid hSz3
    clear hv hrow2 hI hi hz0 hz1 hz2 hV hseq hb1 hm1 hk1 hV1 bL hB2 hQb hGI hGP hst hSz3 hK hD
    gi_wp2
    refine ⟨by simp, .inl ⟨_, _, rfl, run_takeDeferred hKK.out, ?_⟩⟩
    have hD0 := hDD.out
    have hSz4 := hSz.out
    refine ⟨.slice va vn' vc, by simp [results, Tryz.f21, go_sem], .slice va vn' vc, rfl, ?_, hBB.out.trans (belowK_b (w := w) (Nat.le_refl _) _ D _ _ (by omega) hKK.out rfl rfl)⟩
    have h := ownsRow_putObj hR2.out (.deferred none) hKK.out rfl
    obtain ⟨q1, q2 | ⟨g, cap', cur, e, hb, r⟩⟩ := h
    · exact ⟨q1, .inl q2⟩
    · exact ⟨q1, .inr ⟨g, cap', cur, e, by omega, r⟩⟩
  case stop =>
    rintro z o D c k W hD hk ⟨⟨rfl, hfull⟩, hI⟩ hK
    obtain ⟨v, hv, hrow2, -⟩ := hI.ex
    rw [fromL_take key m L k hfull] at hrow2
    have e : ∃ va n vc, v = .slice va n vc := by
      rcases hrow2.2 with ⟨rfl, _⟩ | ⟨g, cap, cur, rfl, _⟩
      · exact ⟨_, _, _, rfl⟩
      · exact ⟨_, _, _, rfl⟩
    obtain ⟨va, vn', vc, rfl⟩ := e
    have hV0 := Lib.hid hv
    have hR2 := Lib.hid hrow2
    have hBB := Lib.hid (hb1.trans (hI.bel.mono (by omega)))
    have hKK := Lib.hid hK
    have hDD := Lib.hid hD
    have c3 := hv.cell
    have hSz := Lib.hid hSz3
    clear hv hrow2 hI hi hz0 hz1 hz2 hV hseq hb1 hm1 hk1 hV1 bL hB2 hQb hGI hGP hst hSz3 hK hD
    gi_wp2
    refine ⟨by simp, .inl ⟨_, _, rfl, run_takeDeferred hKK.out, ?_⟩⟩
    have hD0 := hDD.out
    have hSz4 := hSz.out
    refine ⟨.slice va vn' vc, by simp [results, Tryz.f21, go_sem], .slice va vn' vc, rfl, ?_, hBB.out.trans (belowK_b (w := w) (Nat.le_refl _) _ D _ _ (by omega) hKK.out rfl rfl)⟩
    have h := ownsRow_putObj hR2.out (.deferred none) hKK.out rfl
    obtain ⟨q1, q2 | ⟨g, cap', cur, e, hb, r⟩⟩ := h
    · exact ⟨q1, .inl q2⟩
    · exact ⟨q1, .inr ⟨g, cap', cur, e, by omega, r⟩⟩
theorem fromQ_calls {w : World} {q : Nat} {G : Nat → Prop} {cap U : Nat} {L : List Ev} (h : QA w q G cap U L) (key : Ky) (m : Nat) :
    Calls Tryz.prog 21 #[.pointer (some ⟨q, 0, none⟩), .agg #[.int .i64 key.1, .int .i64 key.2.1, .int .i64 key.2.2], .int .i64 (m : Int)] w fun e W' => ∃ v, e = .returned v ∧ W'.ownsRow w.heap.size 33 5 v (fromL key m L).length (cellsV (fromL key m L)) ∧ Below w.heap.size w W' := by
  obtain ⟨p, ev, M, S, f, hb, rfl, -⟩ := h.ex
  exact (callsIn_wide (n := 12)).1 (fromQ_in 12 (by omega) hb key m)
end Go.Proofs.YtcjkeobjojmpfaaGreat
end
