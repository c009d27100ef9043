import Derived.Test.YtcjkeobjojmpfaaGreatMEvqR
import Derived.WideKeyPair
import Derived.WideKeyEntry
import Derived.Lib.AppendZeros
section
/-
  CONTRACT of the law's events.
-/
namespace Go.Proofs.YtcjkeobjojmpfaaGreat
open Go.RowKit Go.Shelf

theorem rowPair : (74 : TypeId) < Tryz.prog.types.size := of_decide_eq_true (by kernel_rfl)
theorem widePair : (match Tryz.prog.underlying 74 with | some (.array _ _) | some (.struct _) => true | _ => false) = true := by rw [Tryz.underlying74]
theorem cellsPair : Tryz.prog.cellsOf 74 = 2 := by kernel_rfl
set_option maxRecDepth 1000000 in
theorem lawPair : WideMaps.KeyLaw Tryz.prog 74 := deep_law_laid laidOutP (m := 2) (by omega) rowPair (by kernel_rfl) widePair
theorem keyedPair : Maps.Keyed Tryz.prog 74 := Maps.Keyed.of_law lawPair
theorem arrPair : WideMaps.ArrKey Tryz.prog 74 3 2 := ⟨Tryz.underlying74, by kernel_rfl, by kernel_rfl, cellsPair⟩
theorem keyP {s q : Int} (hs : wfI s) (hq : wfI q) : keyOf Tryz.prog 74 (.agg #[.int .i64 s, .int .i64 q]) = some (klN s q) := WideMaps.keyOf_pair arrPair Tryz.underlying3 sizeTypes hs hq
theorem zeroInt (w : World) : (zeroValue 3).run Tryz.prog w = .ok (.int .i64 0) w := by kernel_rfl
/-- BLOCK b IS A MAP of at most n names, which counts c. -/
def MI (w : World) (b n : Nat) (c : Int → Int → Nat) : Prop :=
  ∃ D : DataW Unit, w.ownsMap Tryz.prog 74 (plainElem Tryz.prog 3) b n D ∧ ∀ s q, wfI s → wfI q → D.atKey (klN s q) (.lit (.int .i64 0)) = .lit (.int .i64 (c s q : Int))
theorem MI.lt {w : World} {b n : Nat} {c : Int → Int → Nat} (h : MI w b n c) : b < w.heap.size := by obtain ⟨D, h, _⟩ := h; exact h.lt
theorem MI.keep {w w' : World} {b n : Nat} {c : Int → Int → Nat} (h : MI w b n c) (e : w'.heap[b]? = w.heap[b]?) : MI w' b n c := by
  obtain ⟨D, ⟨es, clock, hb, r⟩, h2⟩ := h
  exact ⟨D, ⟨es, clock, e.trans hb, r⟩, h2⟩
theorem MI.below {w w' : World} {b n : Nat} {c : Int → Int → Nat} (h : MI w b n c) (hb : Below w.heap.size w w') : MI w' b n c := h.keep (hb.block b h.lt)
theorem MI.new (w : World) : MI (w.alloc (.map #[] 0)) w.heap.size 0 (fun _ _ => 0) :=
  ⟨.map [], World.ownsMap_made w _ _ _, fun _ _ _ _ => rfl⟩
theorem MI.at {w : World} {b n : Nat} {c : Int → Int → Nat} (h : MI w b n c) {s q : Int} (hs : wfI s) (hq : wfI q) :
    (Instr.lookup 70 (.map (some b)) (.agg #[.int .i64 s, .int .i64 q]) false).run Tryz.prog w = .ok (.int .i64 (c s q : Int)) w := by
  obtain ⟨D, h1, h3⟩ := h
  obtain ⟨z, hr, hz, _⟩ := h1.lookup_int keyedPair Tryz.underlying70 Tryz.underlying3 (zeroInt w) (keyP hs hq)
  rw [h3 s q hs hq] at hz
  have : (c s q : Int) = z := by simpa using hz
  rw [hr, this]
theorem MI.store {w : World} {b n : Nat} {c : Int → Int → Nat} (h : MI w b n c) {s q : Int} (hs : wfI s) (hq : wfI q) (hn : n < maxLen) (v : Nat) (hv : wfI (v : Int)) :
    ∃ w', (Instr.mapUpdate 70 (.map (some b)) (.agg #[.int .i64 s, .int .i64 q]) (.int .i64 (v : Int))).run Tryz.prog w = .ok () w' ∧ MI w' b (n + 1) (fun a d => if a = s ∧ d = q then v else c a d) ∧ w.grownBy w' (some b) := by
  obtain ⟨D, h1, h3⟩ := h
  obtain ⟨w', hr, o1, o2⟩ := h1.store keyedPair Tryz.underlying70 hn (keyP hs hq) (plainElem_int Tryz.underlying3 hv)
  refine ⟨w', hr, ⟨_, o1, fun s' q' hs' hq' => ?_⟩, o2.grown⟩
  show _ = DataW.lit (Lit.int .i64 ((if s' = s ∧ q' = q then v else c s' q' : Nat) : Int))
  by_cases e : s' = s ∧ q' = q
  · obtain ⟨rfl, rfl⟩ := e
    rw [if_pos ⟨rfl, rfl⟩]
    exact Maps.atKey_put_same h1.isMap (klN_key hs hq) _ _
  · rw [if_neg e]
    exact (Maps.atKey_put_other (klN_ne hs' hq' hs hq e) _ _).trans (h3 s' q' hs' hq')
theorem MI.entryLook {w w1 : World} {b n : Nat} {c : Int → Int → Nat} (h : MI w b n c) {s q : Int} (hs : wfI s) (hq : wfI q) (hn : n < maxLen) {v : Value} (hr : (Instr.mapEntry 70 (.map (some b)) (.agg #[.int .i64 s, .int .i64 q])).run Tryz.prog w = .ok v w1) :
    (Instr.lookup 70 (.map (some b)) (.agg #[.int .i64 s, .int .i64 q]) false).run Tryz.prog w1 = .ok (.int .i64 (c s q : Int)) w1 := by
  have hlk := h.at hs hq
  obtain ⟨w', hr2, m2, _⟩ := h.store hs hq hn 0 (by decide)
  have hM := h
  obtain ⟨D, ⟨es, clock, hb, F, hsz, hD⟩, h3⟩ := h
  have K := keyedPair
  have ht := Tryz.underlying70
  rcases K.find w (keyP hs hq) es.toList F.keys with ⟨h1, h2⟩ | ⟨j, e0, h1, h2, h4⟩
  · have e1 : (Instr.mapEntry 70 (.map (some b)) (.agg #[.int .i64 s, .int .i64 q])).run Tryz.prog w = .ok (.tuple #[.int .i64 0, goInt clock]) (ChangeMaps.setBlock w b (.map (es.push ⟨.agg #[.int .i64 s, .int .i64 q], .int .i64 0, clock⟩) (clock + 1))) := by
      simp [Instr.mapEntry, run_underlying ht, MapKept.run_getObj_map hb, K.check w false (keyP hs hq), h1, MapKept.run_setObj_map _ hb, Result.andThen, ChangeMaps.setBlock]
    have e2 : (Instr.mapUpdate 70 (.map (some b)) (.agg #[.int .i64 s, .int .i64 q]) (.int .i64 ((0 : Nat) : Int))).run Tryz.prog w = .ok () (ChangeMaps.setBlock w b (.map (es.push ⟨.agg #[.int .i64 s, .int .i64 q], .int .i64 0, clock⟩) (clock + 1))) := by
      simp [Instr.mapUpdate, run_underlying ht, MapKept.run_getObj_map hb, K.check w false (keyP hs hq), h1, MapKept.run_setObj_map _ hb, Result.andThen, ChangeMaps.setBlock]
    have hc0 : (c s q : Int) = 0 := by
      have e3 : (Instr.lookup 70 (.map (some b)) (.agg #[.int .i64 s, .int .i64 q]) false).run Tryz.prog w = .ok (.int .i64 0) w := by
        simp [Instr.lookup, run_underlying ht, MapKept.run_getObj_map hb, K.check w es.isEmpty (keyP hs hq), h1, Result.andThen]
      rw [hlk] at e3
      simpa using e3
    rw [hr] at e1
    rw [hr2] at e2
    have a1 : w1 = w' := by
      have x1 := congrArg (fun r => match r with | Result.ok _ w => w | _ => w1) e1
      have x2 := congrArg (fun r => match r with | Result.ok _ w => w | _ => w') e2
      exact (show w1 = _ from x1).trans (show w' = _ from x2).symm
    rw [a1, m2.at hs hq, hc0]
    simp
  · have hj : es[j]? = some e0 := by simpa using h2
    have hsame : es.modify j (fun e => { e with key := .agg #[.int .i64 s, .int .i64 q] }) = es := by
      apply Array.ext'
      rw [Array.toList_modify, ChangeMaps.modify_eq_set _ _ _ _ h2]
      have : ({ e0 with key := .agg #[.int .i64 s, .int .i64 q] } : MapEntry) = e0 := by rw [← h4]
      rw [this]
      exact WideElems.set_self _ _ _ h2
    have e1 : (Instr.mapEntry 70 (.map (some b)) (.agg #[.int .i64 s, .int .i64 q])).run Tryz.prog w = .ok (.tuple #[e0.val, goInt e0.born]) (ChangeMaps.setBlock w b (.map es clock)) := by
      simp [Instr.mapEntry, run_underlying ht, MapKept.run_getObj_map hb, K.check w false (keyP hs hq), h1, hj, h4, K.stays w (keyP hs hq), hsame, MapKept.run_setObj_map _ hb, Result.andThen, ChangeMaps.setBlock]
    rw [hr] at e1
    have a1 : w1 = ChangeMaps.setBlock w b (.map es clock) := by
      have x1 := congrArg (fun r => match r with | Result.ok _ w => w | _ => w1) e1
      exact x1
    rw [a1]
    exact (hM.keep ((ChangeMaps.heap_setBlock_same hb _).trans hb.symm)).at hs hq
/-- 'm[k] op= v': the entry, and then its store. -/
theorem MI.entry {w : World} {b n : Nat} {c : Int → Int → Nat} (h : MI w b n c) {s q : Int} (hs : wfI s) (hq : wfI q) (hn : n < maxLen) (v : Nat) (hv : wfI (v : Int)) :
    ∃ v0 st w1 w2, (Instr.mapEntry 70 (.map (some b)) (.agg #[.int .i64 s, .int .i64 q])).run Tryz.prog w = .ok (.tuple #[v0, .int .i64 st]) w1 ∧ (Instr.entryStore 70 (.map (some b)) (.int .i64 st) (.int .i64 (v : Int))).run Tryz.prog w1 = .ok () w2 ∧
      MI w2 b (n + 1) (fun a d => if a = s ∧ d = q then v else c a d) ∧ w.grownBy w2 (some b) := by
  obtain ⟨w', hr, m1, g1⟩ := h.store hs hq hn v hv
  obtain ⟨D, ⟨es, clock, hb, F, hsz, hD⟩, h3⟩ := h
  obtain ⟨v0, st, es1, clock1, e1, _, e3⟩ := WideElems.entry_then_store lawPair Tryz.underlying70 zeroInt hb F (keyP hs hq)
  obtain ⟨es', clock', f1, f2⟩ := e3 (ChangeMaps.setBlock w b (.map es1 clock1)) (.int .i64 (v : Int)) (ChangeMaps.heap_setBlock_same hb _)
  rw [hr] at f2
  have hw : w' = ChangeMaps.setBlock w b (.map es' clock') := by simpa using f2
  have hw2 : ChangeMaps.setBlock (ChangeMaps.setBlock w b (.map es1 clock1)) b (.map es' clock') = ChangeMaps.setBlock w b (.map es' clock') := by simp [ChangeMaps.setBlock]
  rw [hw2, ← hw] at f1
  exact ⟨v0, st, _, w', e1, f1, m1, g1⟩
theorem cntN_snoc (l : List Ev) (x : Ev) : cntN (l ++ [x]) = fun a d => if a = x.1.2.1 ∧ d = x.1.2.2 then cntN l x.1.2.1 x.1.2.2 + 1 else cntN l a d := by
  funext a d
  unfold cntN
  rw [List.filter_append, List.length_append]
  by_cases e : a = x.1.2.1 ∧ d = x.1.2.2
  · obtain ⟨rfl, rfl⟩ := e
    simp [nmV]
  · rw [if_neg e]
    have : ¬ (x.1.2 = (a, d)) := fun c2 => e ⟨(congrArg Prod.fst c2).symm, (congrArg Prod.snd c2).symm⟩
    simp [this]
theorem cntN_le (l : List Ev) (a d : Int) : cntN l a d ≤ l.length := List.length_filter_le _ _
set_option maxRecDepth 100000 in
set_option maxHeartbeats 4000000 in
theorem events_calls {w : World} (lv : Value) (l : List Sv) (hv : SvRow w lv l) (most : Nat) (hm : most ≤ 100) :
    Calls Tryz.prog 9 #[lv, .int .i64 (most : Int)] w fun e w' => ∃ v, e = .returned v ∧ w'.ownsRow w.heap.size 33 5 v (evsS ((l.take most).map madeV)).length (cellsV (evsS ((l.take most).map madeV))) ∧ Below w.heap.size w w' := by
  obtain ⟨la, lc, rfl, hlc, hle⟩ := hv.shape
  have HV := Lib.hid hv
  have hmk := run_makeMap (P := Tryz.prog) 70 w
  obtain ⟨m, hmn⟩ : ∃ m, min l.length most = m := ⟨_, rfl⟩
  have hmi : min (l.length : Int) (most : Int) = (m : Int) := by omega
  clear hv
  go_enter Tryz.func9, Tryz.ntmps9
  go_wp2_with fail
  have hb0 : Below w.heap.size w (w.alloc (.map #[] 0)) := (Below.refl _ w).alloc (Nat.le_refl _) _
  have H0 := Lib.hid (And.intro (MI.new w) hb0)
  clear hb0 hmk
  go_loopw [5, 19] (fun s5 s19 wr => ∃ k : Nat, k ≤ m ∧ s19 = .int .i64 (k : Int) ∧ MI wr w.heap.size k (cntN ((l.take k).map madeV)) ∧ wr.ownsRow (w.heap.size + 1) 33 5 s5 (evsS ((l.take k).map madeV)).length (cellsV (evsS ((l.take k).map madeV))) ∧ Below w.heap.size w wr ∧ w.heap.size + 1 ≤ wr.heap.size) (fun _ s19 _ => m - (intOf s19).toNat)
  case atStart => exact ⟨0, Nat.zero_le _, by simp, H0.out.1, World.ownsRow_nil _ _ _ _, H0.out.2, by simp⟩
  case round =>
    obtain ⟨k, hk, rfl, hmi2, ho, hbw, hsz⟩ := hrel
    by_cases hlt : k < m
    · have e1 : (k : Int) < (m : Int) := by omega
      have hkl : k < l.length := by omega
      have hrow : ∃ b o, la = some ⟨b, o, none⟩ ∧ wr.cell? ⟨b, o + k * 4, none⟩ = some (.int .u8 ((svq l k).1 : Int)) ∧ wr.cell? ⟨b, o + k * 4 + 1, none⟩ = some (.int .u8 ((svq l k).2.1 : Int)) ∧ wr.cell? ⟨b, o + k * 4 + 2, none⟩ = some (.int .u8 ((svq l k).2.2.1 : Int)) ∧ wr.cell? ⟨b, o + k * 4 + 3, none⟩ = some (.int .u8 ((svq l k).2.2.2 : Int)) := by
        obtain ⟨_, ⟨e, _⟩ | ⟨b, o, c, e, hb, _, _, h4⟩⟩ := HV.out.below hbw
        · rw [e] at hkl; cases hkl
        · simp at e
          obtain ⟨rfl, _⟩ := e
          exact ⟨b, o, rfl, h4 k hkl⟩
      obtain ⟨b, o, rfl, v0, v1, v2, v3⟩ := hrow
      have hok := svq_ok HV.out.1 k hkl
      obtain ⟨x, hx⟩ : ∃ x, madeV (svq l k) = x := ⟨_, rfl⟩
      have hsnoc : (l.take (k + 1)).map madeV = (l.take k).map madeV ++ [x] := by
        have : l.take (k + 1) = l.take k ++ [svq l k] := by
          rw [List.take_add_one]
          unfold svq
          rw [List.getD_eq_getElem?_getD, List.getElem?_eq_getElem hkl]
          rfl
        rw [this, List.map_append, ← hx]; rfl
      have HSn := Lib.hid hsnoc
      have hrt := madeV_right (svq l k)
      have HMd := Lib.hid (fun W => madeV_calls (svq l k) hok W)
      rw [hx] at hrt HMd
      unfold vV at HMd
      have hwf : wfI x.1.2.1 ∧ wfI x.1.2.2 := by
        obtain ⟨⟨h1, h2, h3⟩, _⟩ := hrt
        exact ⟨wfI_of (by omega), wfI_of (by omega)⟩
      obtain ⟨Lk, hLk⟩ : ∃ Lk, (l.take k).map madeV = Lk := ⟨_, rfl⟩
      rw [hLk] at hmi2 ho HSn
      have hlk : Lk.length = k := by rw [← hLk, List.length_map, List.length_take]; omega
      have HMI := Lib.hid hmi2
      have HO := Lib.hid ho
      have HBW := Lib.hid hbw
      have HSz := Lib.hid hsz
      have HLk := Lib.hid hlk
      generalize svq l k = y at *
      clear hmi2 ho hbw hsz hsnoc hrt hLk hx hok H0 hlk
      go_upto_region 8 with (first
        | (go_at_call 39; refine (HMd.out _).mono ?_; rintro e w5 ⟨rfl, b5⟩; have B5 := Lib.hid b5; clear b5)
        | fail)
      have hb7 : Below w5.heap.size w5 ((w5.alloc (.cells #[.int .i64 x.1.1, .int .i64 x.1.2.1, .int .i64 x.1.2.2, .int .i64 x.2.1, .int .i64 x.2.2] 33)).alloc (.cells #[.int .i64 x.1.2.1, .int .i64 x.1.2.2] 74)) := ((Below.refl _ w5).alloc (Nat.le_refl _) _).alloc (by simp) _
      have he7 : VB ((w5.alloc (.cells #[.int .i64 x.1.1, .int .i64 x.1.2.1, .int .i64 x.1.2.2, .int .i64 x.2.1, .int .i64 x.2.2] 33)).alloc (.cells #[.int .i64 x.1.2.1, .int .i64 x.1.2.2] 74)) w5.heap.size x := (Below.heap_alloc _ _ _ (by simp)).trans (VB.new w5 x)
      have hn7 : ((w5.alloc (.cells #[.int .i64 x.1.1, .int .i64 x.1.2.1, .int .i64 x.1.2.2, .int .i64 x.2.1, .int .i64 x.2.2] 33)).alloc (.cells #[.int .i64 x.1.2.1, .int .i64 x.1.2.2] 74)).heap[w5.heap.size + 1]? = some (.cells #[.int .i64 x.1.2.1, .int .i64 x.1.2.2] 74 (0, 0)) := by
        have := World.alloc_heap_new (w5.alloc (.cells #[.int .i64 x.1.1, .int .i64 x.1.2.1, .int .i64 x.1.2.2, .int .i64 x.2.1, .int .i64 x.2.2] 33)) (.cells #[.int .i64 x.1.2.1, .int .i64 x.1.2.2] 74)
        rwa [World.size_alloc] at this
      have hwb5 : Below wr.heap.size wr w5 := ((Below.refl wr.heap.size wr).alloc (Nat.le_refl _) _).trans (B5.out.mono (by simp))
      have hwb7 := hwb5.trans (hb7.mono hwb5.size)
      obtain ⟨W7, hW7⟩ : ∃ W7, (w5.alloc (.cells #[.int .i64 x.1.1, .int .i64 x.1.2.1, .int .i64 x.1.2.2, .int .i64 x.2.1, .int .i64 x.2.2] 33)).alloc (.cells #[.int .i64 x.1.2.1, .int .i64 x.1.2.2] 74) = W7 := ⟨_, rfl⟩
      rw [hW7] at he7 hn7 hwb7 ⊢
      have hs5 := hwb5.size
      obtain ⟨eb, heb⟩ : ∃ eb, w5.heap.size = eb := ⟨_, rfl⟩
      rw [heb] at he7 hn7 hs5 ⊢
      have HE7 := Lib.hid he7
      have HN7 := Lib.hid hn7
      have HM7 := HMI.out.below hwb7
      have HB7 := Lib.hid hwb7
      have HS5 := Lib.hid hs5
      have hcle := cntN_le Lk x.1.2.1 x.1.2.2
      rw [HLk.out] at hcle
      have hlk1 := (show MI W7.drew w.heap.size k (cntN Lk) from HM7.keep rfl).at hwf.1 hwf.2
      obtain ⟨q0, st, W8, W9, hme, hes, m9, g9⟩ := (show MI W7.drew w.heap.size k (cntN Lk) from HM7.keep rfl).entry hwf.1 hwf.2 (show k < maxLen by unfold maxLen; omega) (cntN Lk x.1.2.1 x.1.2.2 + 1) (wfI_of (by omega))
      have hlk2 := (show MI W7.drew w.heap.size k (cntN Lk) from HM7.keep rfl).entryLook hwf.1 hwf.2 (show k < maxLen by unfold maxLen; omega) hme
      rw [← cntN_snoc] at m9
      have hcast : ((cntN Lk x.1.2.1 x.1.2.2 + 1 : Nat) : Int) = (cntN Lk x.1.2.1 x.1.2.2 : Int) + 1 := by omega
      rw [hcast] at hes
      have hwc : IntKind.i64.wrap ((cntN Lk x.1.2.1 x.1.2.2 : Int) + 1) = (cntN Lk x.1.2.1 x.1.2.2 : Int) + 1 := by rw [IntKind.wrap_i64]; omega
      have H9 := Lib.hid (show MI W9 w.heap.size (k + 1) (cntN (Lk ++ [x])) ∧ W7.grownBy W9 (some w.heap.size) from ⟨m9, g9.os, g9.tape, g9.output, g9.size, g9.block⟩)
      obtain ⟨c, hc⟩ : ∃ c, cntN Lk x.1.2.1 x.1.2.2 = c := ⟨_, rfl⟩
      have HC := Lib.hid hc
      rw [hc] at hlk1 hlk2 hes hcle hwc
      have n0 : W7.drew.cell? ⟨eb + 1, 0, none⟩ = some (.int .i64 x.1.2.1) := by
        have : W7.drew.heap[eb + 1]? = _ := hn7
        simp [World.cell?, this]
      have n1 : W7.drew.cell? ⟨eb + 1, 1, none⟩ = some (.int .i64 x.1.2.2) := by
        have : W7.drew.heap[eb + 1]? = _ := hn7
        simp [World.cell?, this]
      clear hb7 he7 hn7 hwb5 hwb7 hW7 hs5 heb HM7 m9 g9 hc hcast v0 v1 v2 v3 B5
      go_cut [] from 32 to 37 (fun wx => MI wx w.heap.size (k + 1) (cntN (Lk ++ [x])) ∧ W7.grownBy wx (some w.heap.size))
      case first =>
        go_region_law (fail)
        all_goals
          go_wp2_with fail
          go_meet
          exact H9.out
      case rest =>
        obtain ⟨m9, g9⟩ := hcut
        have hs9 := g9.size
        have hne : w.heap.size ≠ eb := by have := HS5.out; have := HSz.out; omega
        have he9 : VB wc eb x := (g9.block _ HE7.out.lt (fun e => hne (Option.some.inj e).symm)).trans HE7.out
        have hn9 : wc.heap[eb + 1]? = some (.cells #[.int .i64 x.1.2.1, .int .i64 x.1.2.2] 74 (0, 0)) := (g9.block _ (Array.getElem?_eq_some_iff.1 HN7.out).1 (fun e => by have := Option.some.inj e; have := HS5.out; have := HSz.out; omega)).trans HN7.out
        have hbw9 : Below w.heap.size w wc := HBW.out.trans ((HB7.out.mono HBW.out.size).trans ⟨g9.os, g9.tape, g9.output, g9.size, fun j hj => g9.block j (by have := HB7.out.size; have := HBW.out.size; omega) (fun e => by have := Option.some.inj e; omega)⟩)
        have hrow9 : wc.ownsRow (w.heap.size + 1) 33 5 u5 (evsS Lk).length (cellsV (evsS Lk)) := ownsRow_keep HO.out (fun j hj => (g9.block j (Nat.lt_of_lt_of_le (HO.out.lt j hj).2 HB7.out.size) (fun e => by have := Option.some.inj e; have := (HO.out.lt j hj).1; omega)).trans (HB7.out.block j (HO.out.lt j hj).2))
        have hlk9 := m9.at hwf.1 hwf.2
        simp only [cntN_snoc, and_self, if_true, HC.out] at hlk9
        have hcast : ((c + 1 : Nat) : Int) = (c : Int) + 1 := by omega
        rw [hcast] at hlk9
        obtain ⟨x0, x1, x2, x3, x4, -⟩ := he9.cells
        have n0 : wc.cell? ⟨eb + 1, 0, none⟩ = some (.int .i64 x.1.2.1) := by simp [World.cell?, hn9]
        have n1 : wc.cell? ⟨eb + 1, 1, none⟩ = some (.int .i64 x.1.2.2) := by simp [World.cell?, hn9]
        have hsz9 : w.heap.size + 1 ≤ wc.heap.size := Nat.le_trans HSz.out (Nat.le_trans HB7.out.size hs9)
        have hany := evsS_any Lk x.1.2.1 x.1.2.2
        rw [HC.out] at hany
        have HAny := Lib.hid hany
        have HR9 := Lib.hid hrow9
        have HM9 := Lib.hid m9
        have HW9 := Lib.hid hbw9
        have hel : (evsS Lk).length ≤ 100 := by have := evsS_len Lk; have := HLk.out; omega
        clear m9 g9 hs9 he9 hn9 hbw9 hrow9 hany hlk1 hlk2 hme hes
        by_cases hc0 : c = 0
        · subst hc0
          have hev : evsS (Lk ++ [x]) = evsS Lk ++ [x] := by rw [evsS_snoc, if_neg]; rw [HAny.out]; simp
          have HEv := Lib.hid hev
          clear hev
          go_wp2_with (at_builtin; go_must (refine wpList_appV rfl (.tmp 42) (.tmp 44) (by rfl) (w.heap.size + 1) u5 (evsS Lk).length _ (by first | rfl | simp [Act.eval]) (HR9.out.alloc _) wc.heap.size 1 1 (encV x) (by first | rfl | simp [Act.eval]) rfl (vcells_new _ _ _ _ _ _ _) (by intro u hu; simp [encV] at hu; rcases hu with rfl | rfl | rfl | rfl | rfl <;> rfl) (by omega) (by simp; omega) ?_; intro v5 w5' hr5 hg5 hat5; have HR5 := Lib.hid hr5; have HG5 := Lib.hid hg5; clear hr5 hg5 hat5))
          have hlt9 := HM9.out.lt
          have hA9 := HW9.out.alloc HW9.out.size (.cells #[.int .i64 x.1.1, .int .i64 x.1.2.1, .int .i64 x.1.2.2, .int .i64 x.2.1, .int .i64 x.2.2] 33)
          have hgs := HG5.out.size
          simp only [World.size_alloc] at hgs
          refine ⟨⟨k + 1, hlt, by go_num, ?_, ?_, hA9.grown HG5.out hA9.size (fun j hj => by have := (HR9.out.lt j hj).1; omega), by omega⟩, by simp [intOf]; omega⟩
          · rw [HSn.out]
            exact HM9.out.keep ((HG5.out.block _ (by simp; omega) (fun e => by have := (HR9.out.lt _ e.symm).1; omega)).trans (Below.heap_alloc _ _ _ hlt9))
          · rw [HSn.out, HEv.out, List.length_append, cellsV_append]
            exact HR5.out
        · have hev : evsS (Lk ++ [x]) = evsS Lk := by rw [evsS_snoc, if_pos]; rw [HAny.out]; simpa using hc0
          have HEv := Lib.hid hev
          have hne1 : (((c : Int) + 1) == 1) = false := by rw [beq_eq_false_iff_ne]; omega
          clear hev
          go_wp2_with fail
          refine ⟨⟨k + 1, hlt, by go_num, ?_, ?_, HW9.out, hsz9⟩, by simp [intOf]; omega⟩
          · rw [HSn.out]; exact HM9.out
          · rw [HSn.out, HEv.out]; exact HR9.out
    · obtain rfl : k = m := by omega
      have e3 : l.take k = l.take most := by
        rcases Nat.le_total l.length most with c | c
        · rw [List.take_of_length_le (by omega), List.take_of_length_le c]
        · rw [show k = most by omega]
      rw [e3] at ho
      have e : ∃ a c, u5 = .slice a (evsS ((l.take most).map madeV)).length c := by
        rcases ho.2 with ⟨rfl, e⟩ | ⟨g, cap', cur, rfl, _⟩
        · exact ⟨none, 0, by rw [← e]⟩
        · exact ⟨_, _, rfl⟩
      obtain ⟨a, c, rfl⟩ := e
      have HO := Lib.hid ho
      have HBW := Lib.hid hbw
      clear hmi2 ho hbw
      go_wp2_with fail
      go_ret
      obtain ⟨q1, q2 | ⟨g, cap', cur, e, hb, r⟩⟩ := HO.out
      · exact ⟨_, rfl, ⟨q1, .inl q2⟩, HBW.out⟩
      · exact ⟨_, rfl, ⟨q1, .inr ⟨g, cap', cur, e, by omega, r⟩⟩, HBW.out⟩
end Go.Proofs.YtcjkeobjojmpfaaGreat
end

section
/-
  CONTRACT of the law's filled.
-/
namespace Go.Proofs.YtcjkeobjojmpfaaGreat
open Go.RowKit Go.Shelf

/-- A new queue and a list beside it. -/
structure Fild (w w' : World) (q : Nat) (cap U : Nat) (L : List Ev) (v : Value) (l : List Ev) : Prop where
  ex : ∃ G, QA w' q G cap U L ∧ (∀ k, G k → w.heap.size ≤ k) ∧ w'.ownsRow w.heap.size 33 5 v l.length (cellsV l) ∧ (∀ k, v.ownBlock = some k → ¬ G k) ∧ Below w.heap.size w w'
theorem put1_ok {cap : Nat} {L : List Ev} {x : Ev} {c : Int} {L' : List Ev} (h : Put1 cap L x c L') (hr : RightV x) (hn : ∀ y ∈ L, nmV y ≠ nmV x) (hl : L.length < cap) : c = 0 ∧ L' = insV x L := by
  rcases h with ⟨_, _, h⟩ | ⟨_, _, _, y, hy, e⟩ | ⟨_, _, _, _, h⟩ | ⟨h1, h2, _⟩
  · exact absurd hr h
  · exact absurd e (hn y hy)
  · omega
  · exact ⟨h1, h2⟩
set_option maxRecDepth 100000 in
set_option maxHeartbeats 4000000 in
theorem filled_calls {w : World} (lv : Value) (l : List Ev) (hv : LV w lv l) (cap : Nat) (hc : cap ≤ 256) (hl : l.length ≤ cap) (hl2 : l.length ≤ 200) (hd : DistV l) (hr : ∀ x ∈ l, RightV x) :
    Calls Tryz.prog 10 #[.int .i64 (cap : Int), lv] w fun e w' => ∃ q v, e = .returned (.tuple #[.pointer (some ⟨q, 0, none⟩), v]) ∧ Fild w w' q cap l.length (inOrd l) v (inOrd l) := by
  obtain ⟨la, lc, rfl, hlc, hle⟩ := hv.shape
  have HV := Lib.hid hv
  have HD := Lib.hid hd
  have HR := Lib.hid hr
  have HNw := Lib.hid (newQ_ok cap hc w)
  clear hv hd hr
  go_enter Tryz.func10, Tryz.ntmps10
  go_wp2_with (first
    | (go_at_call 34; refine HNw.out.mono ?_; rintro e w2 ⟨q, rfl, hq⟩; have HQ0 := Lib.hid hq; clear hq)
    | fail)
  have H00 := Lib.hid (show ∃ G, QA w2 q G cap (0 + 0) (inOrd (l.take 0)) ∧ (∀ k, G k → w.heap.size ≤ k) ∧ Below w.heap.size w w2 from by
    obtain ⟨G, h1, h2, h3⟩ := HQ0.out.ex
    exact ⟨G, h1, h3, h2⟩)
  clear HQ0
  go_loopw [23] (fun s23 wr => ∃ k : Nat, k ≤ l.length ∧ s23 = .int .i64 (k : Int) ∧ ∃ G, QA wr q G cap (0 + k) (inOrd (l.take k)) ∧ (∀ k, G k → w.heap.size ≤ k) ∧ Below w.heap.size w wr) (fun s23 _ => l.length - (intOf s23).toNat)
  case atStart => exact ⟨0, Nat.zero_le _, by simp, H00.out⟩
  case round =>
    obtain ⟨k, hk, rfl, G, hq, hG, hbw⟩ := hrel
    by_cases hlt : k < l.length
    · have e1 : (k : Int) < (l.length : Int) := by omega
      have hrow : ∃ g, la = some ⟨g, 0, none⟩ ∧ VAt wr g (k * 5) (vn l k) := by
        rcases HV.out with ⟨_, e⟩ | ⟨g, c, e, hr, _⟩
        · rw [e] at hlt; cases hlt
        · simp at e
          exact ⟨g, e.1, (hr.cell k hlt).keep (hbw.block g hr.lt)⟩
      obtain ⟨g, rfl, v0, v1, v2, v3, v4⟩ := hrow
      obtain ⟨x, hxe⟩ : ∃ x, vn l k = x := ⟨_, rfl⟩
      have hsn : inOrd (l.take (k + 1)) = insV x (inOrd (l.take k)) := by rw [take_vn _ _ hlt, inOrd_snoc, hxe]
      have hxr : RightV x := by rw [← hxe]; exact HR.out _ (vn_mem hlt)
      have hxn : ∀ y ∈ inOrd (l.take k), nmV y ≠ nmV x := fun y hy e => by
        rw [inOrd_mem] at hy
        obtain ⟨j, hj, rfl⟩ := List.mem_take_iff_getElem.1 hy
        have hd := List.pairwise_iff_getElem.1 HD.out j k (by omega) hlt (by omega)
        have e2 := vn_get hlt
        rw [List.getElem?_eq_getElem hlt] at e2
        rw [← hxe, ← Option.some.inj e2] at e
        exact hd e
      have hlk : (inOrd (l.take k)).length < cap := by rw [inOrd_len, List.length_take]; omega
      rw [hxe] at v0 v1 v2 v3 v4
      have hbox : Below wr.heap.size wr (wr.alloc (.cells #[.int .i64 x.1.1, .int .i64 x.1.2.1, .int .i64 x.1.2.2, .int .i64 x.2.1, .int .i64 x.2.2] 33)) := (Below.refl _ wr).alloc (Nat.le_refl _) _
      have hput := putQ_calls (hq.below hbox) (by omega) x
      have HP := Lib.hid (hput.mono (R' := fun e w' => e = .returned (.int .i64 0) ∧ ∃ G, QA w' q G cap (0 + (k + 1)) (inOrd (l.take (k + 1))) ∧ (∀ k, G k → w.heap.size ≤ k) ∧ Below w.heap.size w w') (by
        rintro e w' ⟨c, L', rfl, h1, h2⟩
        obtain ⟨rfl, rfl⟩ := put1_ok h1 hxr hxn hlk
        obtain ⟨G', g1, g2, g3⟩ := h2.ex
        have hs := hbox.size
        have hbs := hbw.size
        refine ⟨rfl, G', by rw [hsn]; exact g1, fun j hj => ?_, ?_⟩
        · rcases g3 j hj with c | c
          · exact hG j c
          · omega
        · exact (hbw.trans (hbox.mono hbs)).trans (g2.below (fun j hj => hG j hj) (by omega))))
      unfold vV at HP
      clear hq hG hbw hxe hsn hxr hxn hlk hput hbox H00
      go_wp2_with (first | (go_at_call 27; refine HP.out.mono ?_; rintro e w5 ⟨rfl, h5⟩; have H5 := Lib.hid h5; clear h5) | fail)
      go_roundw
      case rel => exact ⟨k + 1, hlt, by go_num, H5.out⟩
      case measure => simp [intOf]; omega
    · obtain rfl : k = l.length := by omega
      rw [List.take_length] at hq
      have HI := Lib.hid (inOrder_calls _ l (HV.out.below hbw) hl2)
      have HQ := Lib.hid hq
      have HG := Lib.hid (And.intro hG hbw)
      clear hq hG hbw H00
      go_wp2_with (first | (go_at_call 40; refine HI.out.mono ?_; rintro e w5 ⟨v, rfl, h5, b5⟩; have H5 := Lib.hid h5; have B5 := Lib.hid b5; clear h5 b5) | fail)
      go_ret2
      have h5 := H5.out
      rw [← inOrd_len l] at h5
      obtain ⟨hG, hbw⟩ := HG.out
      have hqlt := HQ.out.lt
      refine ⟨q, v, rfl, G, (by have := HQ.out.below B5.out; rwa [Nat.zero_add] at this), hG, ?_, fun j hj hg => ?_, hbw.trans (B5.out.mono hbw.size)⟩
      · obtain ⟨q1, q2 | ⟨g, cap', cur, e, hb, r⟩⟩ := h5
        · exact ⟨q1, .inl q2⟩
        · exact ⟨q1, .inr ⟨g, cap', cur, e, Nat.le_trans hbw.size hb, r⟩⟩
      · have := (h5.lt j hj).1
        have := hqlt j hg
        omega
end Go.Proofs.YtcjkeobjojmpfaaGreat
end

section
/-
  CONTRACTS of slices.Grow (of nil) and slices.Concat at events.
-/
namespace Go.Proofs.YtcjkeobjojmpfaaGreat
open Go.RowKit Go.Shelf

theorem wpList_appW {ops : Array Oper} {rest : List Oper} {o : Oper} {a : Act} {w : World} {Q : Exit → Act → World → Prop} (hgd : o.guard = none) (s x : Operand)
    (ho : o.op = .call { callee := .builtin .append, args := #[s, x], argTypes := #[24, 24] })
    (base : Nat) (v : Value) (k : Nat) (xs : List Value) (hs : a.eval s = v) (hown : w.ownsRow base 33 5 v k xs) (ad : Addr) (m c : Nat) (V : List Value) (hx : a.eval x = .slice (some ad) m c) (hl : V.length = m * 5) (hV : ∀ j u, V[j]? = some u → w.cell? (ad.add j) = some u) (h1 : ∀ u ∈ V, u.oneCell' = true)
    (hb : k + m ≤ 2000) (hbase : base ≤ w.heap.size)
    (h : ∀ v' w', w'.ownsRow base 33 5 v' (k + m) (xs ++ V) → w.grownBy w' v.ownBlock → wpList Tryz.prog ops Q rest (a.put o.dst v') w') : wpList Tryz.prog ops Q (o :: rest) a w :=
  wpList_plain hgd fun K hK => by
    obtain ⟨i0, hi, hz0, hz1, hz2⟩ := info_parts info_ev
    obtain ⟨v', w', hr, h2, h3, h4, h5⟩ := run_append_own_at (P := Tryz.prog) w base 24 o.type 33 i0 _ 5 40 Tryz.underlying24 hi hz0 hz1 hz2 rfl (by decide) v k xs hown ad m c V hl hV h1 (by unfold maxLen; omega) (by omega) hbase
    unfold Oper.wp execOp
    simp only [ho, resolve, invoke, builtin, Sem.run_bind, Sem.run_pure, Result.andThen_ok, List.map_toArray, List.map_cons, List.map_nil, hs, hx, hr]
    exact hK _ _ (h v' w' h2 h3)
set_option maxRecDepth 100000 in
theorem growV_calls (n : Nat) (hn : n ≤ 100000) (w : World) :
    Calls Tryz.prog 41 #[.slice none 0 0, .int .i64 (n : Int)] w fun e w' => ∃ v, e = .returned v ∧ w'.ownsRow w.heap.size 33 5 v 0 [] ∧ Below w.heap.size w w' := by
  by_cases h0 : 0 < n
  · obtain ⟨i0, hi, hz0, hz1, hz2⟩ := info_parts info_ev
    obtain ⟨G, hG⟩ : ∃ G, G = grownCap w n 0 33 := ⟨_, rfl⟩
    have hGn : n ≤ G := by rw [hG]; exact grownCap_ge w _ _ _
    have hGm : G ≤ maxLen := by rw [hG]; exact grownCap_le_maxLen w _ _ _ (by unfold maxLen; omega)
    obtain ⟨ROW, hROW⟩ : ∃ ROW : Array Value, ROW = Builtin.zeroCells (Value.agg #[.int .i64 0, .int .i64 0, .int .i64 0, .int .i64 0, .int .i64 0]).cells n ++ Builtin.zeroCells (Value.agg #[.int .i64 0, .int .i64 0, .int .i64 0, .int .i64 0, .int .i64 0]).cells (G - n) := ⟨_, rfl⟩
    have hrz : ∀ ty, (Builtin.append_ #[24, 3] ty #[.slice none 0 0, .int .i64 (n : Int)]).run Tryz.prog w = .ok (.slice (some ⟨w.heap.size, 0, none⟩) n G) (w.drew.alloc (.cells ROW 33)) := fun ty => by
      have h := Lib.run_append_nil_zeros (P := Tryz.prog) w 24 3 ty 33 i0 (.agg #[.int .i64 0, .int .i64 0, .int .i64 0, .int .i64 0, .int .i64 0]) .i64 .i64 Tryz.underlying24 Tryz.underlying3 hi hz0 n h0 (by omega) (by omega) (by rw [hz2]; omega)
      rw [← hG, ← hROW] at h
      exact h
    have hROWs : ROW.size = G * 5 := by
      rw [hROW]
      simp only [Array.size_append, size_zeroCells, show (Value.agg #[.int .i64 0, .int .i64 0, .int .i64 0, .int .i64 0, .int .i64 0]).cells.size = 5 from rfl]
      omega
    have hown : (w.drew.alloc (.cells ROW 33)).ownsRow w.heap.size 33 5 (.slice (some ⟨w.heap.size, 0, none⟩) 0 G) 0 [] := by
      refine ⟨rfl, .inr ⟨w.heap.size, G, ROW, rfl, Nat.le_refl _, World.alloc_heap_new w.drew _, Nat.zero_le _, hGm, hROWs, by simp⟩⟩
    have hbel : Below w.heap.size w (w.drew.alloc (.cells ROW 33)) := (Below.refl _ _).drew.alloc (Nat.le_refl _) _
    have HO := Lib.hid hown
    have HB := Lib.hid hbel
    have HR := Lib.hid hrz
    have hn0 : ¬ (n : Int) < 0 := by omega
    have hn1 : (0 : Int) < (n : Int) := by omega
    have hG1 : (n : Int) ≤ (G : Int) := by omega
    clear hown hbel hrz hROW hROWs hz0 hz1 hz2 hi hG hGn
    go_enter Tryz.func41, Tryz.ntmps41
    go_wp2_with (at_builtin; refine Lib.wpList_append_run _ rfl _ _ _ _ rfl _ _ rfl rfl _ _ (HR.out _) ?_)
    go_ret
    exact ⟨_, rfl, HO.out, HB.out⟩
  · obtain rfl : n = 0 := by omega
    go_enter Tryz.func41, Tryz.ntmps41
    go_wp2
    go_ret
    exact ⟨_, rfl, World.ownsRow_nil _ _ _ _, Below.refl _ _⟩

/-- The first k of some lists, one behind the other. -/
def catV (L : Nat → List Ev) : Nat → List Ev
  | 0 => []
  | k + 1 => catV L k ++ L k
theorem catV_le (L : Nat → List Ev) {k m : Nat} (h : k ≤ m) : (catV L k).length ≤ (catV L m).length := by
  induction m with
  | zero => cases Nat.le_zero.1 h; exact Nat.le_refl _
  | succ m ih =>
    by_cases hk : k = m + 1
    · subst hk; exact Nat.le_refl _
    · have := ih (by omega)
      rw [show catV L (m + 1) = catV L m ++ L m from rfl, List.length_append]
      omega

set_option maxRecDepth 100000 in
set_option maxHeartbeats 2000000 in
theorem concatV_calls (b m c : Nat) (V : Nat → Nat × Nat × Nat) (L : Nat → List Ev) (w : World) (hmc : m ≤ c) (hm3 : m ≤ 100) (hbw : b < w.heap.size) (hcell : ∀ i, i < m → w.cell? ⟨b, i, none⟩ = some (.slice (some ⟨(V i).1, (V i).2.1, none⟩) (L i).length (V i).2.2)) (hrow : ∀ i, i < m → ((V i).1 < w.heap.size ∧ ∀ j u, (cellsV (L i))[j]? = some u → w.cell? ⟨(V i).1, (V i).2.1 + j, none⟩ = some u)) (hlen : (catV L m).length ≤ 1000) :
    Calls Tryz.prog 11 #[.slice (some ⟨b, 0, none⟩) m c] w fun e w' => ∃ v, e = .returned v ∧ w'.ownsRow w.heap.size 33 5 v (catV L m).length (cellsV (catV L m)) ∧ Below w.heap.size w w' := by
  have HC := Lib.hid hcell
  have HR := Lib.hid hrow
  have HB := Lib.hid hbw
  have HL := Lib.hid (fun k (h : k ≤ m) => Nat.le_trans (catV_le L h) hlen)
  have hGr := Lib.hid (fun n hn W => growV_calls n hn W)
  have hmc2 : (m : Int) ≤ (c : Int) := by omega
  clear hcell hrow hbw hlen
  go_enter Tryz.func11, Tryz.ntmps11
  go_wp2_with fail
  go_loopw [3, 11] (fun s i wr => ∃ k : Nat, k ≤ m ∧ i = .int .i64 (k : Int) ∧ s = .int .i64 ((catV L k).length : Int) ∧ wr = w) (fun _ i _ => m - (intOf i).toNat)
  case atStart => exact ⟨0, by omega, rfl, rfl, rfl⟩
  case round =>
    obtain ⟨k, hk, rfl, rfl, hw⟩ := hrel
    have hw := hw.symm
    subst hw
    have hlk := HL.out k hk
    by_cases hlt : k < m
    · have hc := HC.out k hlt
      have hls := HL.out (k + 1) hlt
      have hadd : (catV L (k + 1)).length = (catV L k).length + (L k).length := by rw [show catV L (k + 1) = catV L k ++ L k from rfl, List.length_append]
      obtain ⟨s2, hs2⟩ : ∃ s2, (catV L (k + 1)).length = s2 := ⟨_, rfl⟩
      have HS2 := Lib.hid hs2
      rw [hs2] at hls hadd
      generalize (catV L k).length = s at *
      generalize (L k).length = n at *
      have hsn : (s : Int) + (n : Int) = (s2 : Int) := by omega
      clear hadd hs2
      go_wp2_with fail
      go_roundw
      case rel => exact ⟨k + 1, by omega, by go_num, by rw [HS2.out], trivial⟩
      case measure => simp [intOf]; omega
    · obtain rfl : k = m := by omega
      go_wp2_with fail
      refine (hGr.out _ (by omega) _).mono ?_
      rintro e w1 ⟨v1, rfl, ho, hb⟩
      have HO1 := Lib.hid ho
      have HB1 := Lib.hid hb
      clear ho hb
      go_wp2_with fail
      go_loopw [6, 27] (fun v i wr => ∃ j : Nat, j ≤ k ∧ i = .int .i64 (j : Int) ∧ wr.ownsRow w.heap.size 33 5 v (catV L j).length (cellsV (catV L j)) ∧ Below w.heap.size w wr) (fun _ i _ => k - (intOf i).toNat)
      case atStart => exact ⟨0, by omega, rfl, HO1.out, HB1.out⟩
      case round =>
        obtain ⟨j, hj, rfl, ho, hb⟩ := hrel
        have HO := Lib.hid ho
        have HBj := Lib.hid hb
        clear ho hb
        by_cases hlt2 : j < k
        · have hc := (HBj.out.cell (p := ⟨b, j, none⟩) HB.out).trans (HC.out j hlt2)
          have HRj := Lib.hid (show ∀ i u, (cellsV (L j))[i]? = some u → wr.cell? ((⟨(V j).1, (V j).2.1, none⟩ : Addr).add i) = some u from fun i u hu => by
            obtain ⟨h1, h2⟩ := HR.out j hlt2
            rw [Addr.add_lit]
            exact (HBj.out.cell (p := ⟨(V j).1, (V j).2.1 + i, none⟩) h1).trans (h2 i u hu))
          have hls := HL.out (j + 1) hlt2
          have hadd : (catV L (j + 1)).length = (catV L j).length + (L j).length := by rw [show catV L (j + 1) = catV L j ++ L j from rfl, List.length_append]
          have HCat := Lib.hid (show cellsV (catV L (j + 1)) = cellsV (catV L j) ++ cellsV (L j) from cellsV_append _ _)
          have HAdd := Lib.hid hadd
          have hsum : (catV L j).length + (L j).length ≤ 2000 := by omega
          have HSum := Lib.hid hsum
          clear hadd hls hsum hlk
          go_wp2_with (at_builtin; refine wpList_appW rfl _ _ rfl w.heap.size _ _ _ rfl HO.out _ _ _ _ rfl (cellsV_len _) HRj.out (cellsV_one _) HSum.out HBj.out.size ?_; intro v2 w2 ho2 hg2; have HO2 := Lib.hid ho2; have HB2 := Lib.hid (HBj.out.grown hg2 HBj.out.size (fun q hq => (HO.out.lt q hq).1)); clear ho2 hg2)
          go_roundw
          case rel => exact ⟨j + 1, by omega, by go_num, by rw [HAdd.out, HCat.out]; exact HO2.out, HB2.out⟩
          case measure => simp [intOf]; omega
        · obtain rfl : j = k := by omega
          go_wp2
          go_ret
          exact ⟨_, rfl, HO.out, HBj.out⟩
set_option maxRecDepth 100000 in
set_option maxHeartbeats 2000000 in
theorem concatV_none (b m c : Nat) (w : World) (hmc : m ≤ c) (hm3 : m ≤ 100) (hcell : ∀ i, i < m → w.cell? ⟨b, i, none⟩ = some (.slice none 0 0)) :
    Calls Tryz.prog 11 #[.slice (some ⟨b, 0, none⟩) m c] w fun e w' => e = .returned (.slice none 0 0) ∧ Below w.heap.size w w' := by
  have HC := Lib.hid hcell
  have hGr : Calls Tryz.prog 41 #[.slice none 0 0, .int .i64 0] w fun e w' => e = .returned (.slice none 0 0) ∧ w = w' := by
    go_enter Tryz.func41, Tryz.ntmps41
    go_wp2
    go_ret
    exact ⟨rfl, rfl⟩
  have HG := Lib.hid hGr
  have hmc2 : (m : Int) ≤ (c : Int) := by omega
  clear hcell hGr
  go_enter Tryz.func11, Tryz.ntmps11
  go_wp2_with fail
  go_loopw [3, 11] (fun s i wr => ∃ k : Nat, k ≤ m ∧ i = .int .i64 (k : Int) ∧ s = .int .i64 0 ∧ wr = w) (fun _ i _ => m - (intOf i).toNat)
  case atStart => exact ⟨0, by omega, rfl, rfl, rfl⟩
  case round =>
    obtain ⟨k, hk, rfl, rfl, hw⟩ := hrel
    have hw := hw.symm
    subst hw
    by_cases hlt : k < m
    · have hc := HC.out k hlt
      go_wp2_with fail
      go_roundw
      case rel => exact ⟨k + 1, by omega, by go_num, rfl, trivial⟩
      case measure => simp [intOf]; omega
    · obtain rfl : k = m := by omega
      go_wp2_with fail
      refine HG.out.mono ?_
      rintro e w1 ⟨rfl, rfl⟩
      go_wp2_with fail
      go_loopw [6, 27] (fun v i wr => ∃ j : Nat, j ≤ k ∧ i = .int .i64 (j : Int) ∧ v = .slice none 0 0 ∧ wr = w) (fun _ i _ => k - (intOf i).toNat)
      case atStart => exact ⟨0, by omega, rfl, rfl, rfl⟩
      case round =>
        obtain ⟨j, hj, rfl, rfl, hw⟩ := hrel
        have hw := hw.symm
        subst hw
        by_cases hlt2 : j < k
        · have hc := HC.out j hlt2
          go_wp2_with fail
          go_roundw
          case rel => exact ⟨j + 1, by omega, by go_num, rfl, trivial⟩
          case measure => simp [intOf]; omega
        · obtain rfl : j = k := by omega
          go_wp2
          go_ret
          exact ⟨rfl, Below.refl _ _⟩
end Go.Proofs.YtcjkeobjojmpfaaGreat
end
