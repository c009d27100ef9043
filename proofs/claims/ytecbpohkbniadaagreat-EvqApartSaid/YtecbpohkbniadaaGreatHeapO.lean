/-
  CONTRACTS of slices.SortFunc and SortedFunc at entries, and of heap's Order.
-/
import Derived.Test.YtecbpohkbniadaaGreatHeapN
import Derived.Test.YtecbpohkbniadaaGreatDrawn3
import Derived.Sort.OwnSorted
import Derived.Shelf.SlSortCmp.WholeK
import Derived.Shelf.SlSortCmp.NoneTotal
namespace Go.Proofs.YtecbpohkbniadaaGreat
open Go.RowKit Go.Shelf Go.Sort

theorem en_arr (l : List En) (j : Nat) : l.toArray[j]! = en l j := by
  unfold en
  rw [List.getD_eq_getElem?_getD]
  by_cases h : j < l.length
  · rw [getElem!_pos _ _ (by simpa using h), List.getElem?_eq_getElem h]; rfl
  · rw [getElem!_neg _ _ (by simpa using h), List.getElem?_eq_none (by omega)]; rfl
theorem flatE_cells (l : List En) : flatK encE 4 l.toArray = (cellsE l).toArray := by
  refine ext_get! (by simp [cellsE_len]) fun t ht => ?_
  have ht' : t < l.length * 4 := by simpa using ht
  rw [get_flatK _ _ _ t (by simpa using ht')]
  have hj : t / 4 < l.length := by omega
  obtain ⟨h0, h1, h2, h3⟩ := cellsE_get l (t / 4) hj
  rw [en_arr l (t / 4)]
  have e : (cellsE l).toArray[t]! = ((cellsE l)[t]?).getD default := by simp [getElem!_def]; rfl
  rw [e]
  have h4 : t % 4 = 0 ∨ t % 4 = 1 ∨ t % 4 = 2 ∨ t % 4 = 3 := by omega
  rcases h4 with h | h | h | h
  · rw [h, show t = t / 4 * 4 by omega, show (t / 4 * 4) / 4 = t / 4 by omega, h0]; rfl
  · rw [h, show t = t / 4 * 4 + 1 by omega, show (t / 4 * 4 + 1) / 4 = t / 4 by omega, h1]; rfl
  · rw [h, show t = t / 4 * 4 + 2 by omega, show (t / 4 * 4 + 2) / 4 = t / 4 by omega, h2]; rfl
  · rw [h, show t = t / 4 * 4 + 3 by omega, show (t / 4 * 4 + 3) / 4 = t / 4 by omega, h3]; rfl
theorem ownsE_holds {w : World} {base : Nat} {v : Value} {l : List En} (h : w.ownsRow base 144 4 v l.length (cellsE l)) (hv : v ≠ .slice none 0 0) :
    ∃ g cap cur, v = .slice (some ⟨g, 0, none⟩) l.length cap ∧ base ≤ g ∧ g < w.heap.size ∧ w.heap[g]? = some (.cells cur 144 (0, 0)) ∧ l.length ≤ cap ∧ cap ≤ maxLen ∧ cur.size = cap * 4 ∧ HoldsK encE 4 w g 0 l.toArray := by
  have hT := (TV.of_owns h).1
  obtain ⟨hl, ⟨rfl, h0⟩ | ⟨g, cap, cur, rfl, hb, hg, hn, hm, hs, ht⟩⟩ := h
  · exact absurd rfl hv
  · refine ⟨g, cap, cur, rfl, hb, (Array.getElem?_eq_some_iff.1 hg).1, hg, hn, hm, hs, ?_⟩
    unfold HoldsK
    rw [flatE_cells]
    intro j hj
    refine ⟨?_, by simp [World.frozen?, hg]⟩
    have hj' : j < (cellsE l).length := by simpa using hj
    have e : (cellsE l)[j]? = some ((cellsE l).toArray[j]!) := by simp [hj']
    rw [Nat.zero_add, cell_of_row _ _ j _ _ (0, 0) hg, ← Array.getElem?_toList]
    show cur.toList[j]? = some ((cellsE l).toArray[j]!)
    rw [← e, ← ht, List.getElem?_take_of_lt (by rw [cellsE_len] at hj'; exact hj')]
theorem ownE_sorted {w : World} {base g cap : Nat} {cur : Array Value} {n : Nat} {os : Array Obj} (l ts : List En) (hl : ts.length = l.length) (hb : base ≤ g) (hg : w.heap[g]? = some (.cells cur 144 (0, 0))) (hn : l.length ≤ cap) (hm : cap ≤ maxLen) (hs : cur.size = cap * 4) :
    (sortWorldK encE 4 w g 0 n ts.toArray os).ownsRow base 144 4 (.slice (some ⟨g, 0, none⟩) l.length cap) ts.length (cellsE ts) ∧ w.grownBy (sortWorldK encE 4 w g 0 n ts.toArray os) (some g) := by
  have hlt : g < w.heap.size := (Array.getElem?_eq_some_iff.1 hg).1
  unfold sortWorldK putRowK
  rw [flatE_cells]
  constructor
  · rw [← hl]
    refine ⟨cellsE_len ts, .inr ⟨g, cap, putCells id 0 (cellsE ts).toArray cur, rfl, hb, ?_, by omega, hm, by simp [putCells, hs], ?_⟩⟩
    · rw [heap_grow_old _ _ (by simpa using hlt)]
      simp [putRow, mapBlock, Sort.ahead, Array.getElem?_modify, hg, onCells]
    · rw [← cellsE_len ts]
      have hc : (cellsE ts).length ≤ cur.size := by rw [cellsE_len, hs, hl]; omega
      apply List.ext_getElem?
      intro j
      by_cases hj : j < (cellsE ts).length
      · rw [List.getElem?_take_of_lt hj, Array.getElem?_toList]
        simp [putCells, hj, show j < cur.size by omega]
      · rw [List.getElem?_take_eq_none (by omega), List.getElem?_eq_none (by omega)]
  · refine ⟨rfl, rfl, rfl, by simp, fun k hk hne => ?_⟩
    rw [heap_grow_old _ _ (by simpa using hk)]
    have : g ≠ k := fun e => hne (by rw [e])
    simp [putRow, mapBlock, Sort.ahead, Array.getElem?_modify, this]
theorem cfE_swo : SWO (ltOf cfE) where
  irrefl x := by unfold ltOf; exact decide_eq_false (fun h => ltE_irrefl x (cfE_neg.1 h))
  trans x y z h1 h2 := by
    unfold ltOf at h1 h2 ⊢
    exact decide_eq_true (cfE_neg.2 (ltE_trans (cfE_neg.1 (of_decide_eq_true h1)) (cfE_neg.1 (of_decide_eq_true h2))))
  ntrans x y z h1 h2 := by
    unfold ltOf at h1 h2 ⊢
    have a1 : LeE y x := fun h => (of_decide_eq_false h1) (cfE_neg.2 h)
    have a2 : LeE z y := fun h => (of_decide_eq_false h2) (cfE_neg.2 h)
    exact decide_eq_false fun h => leE_trans a2 a1 (cfE_neg.1 h)
theorem orderE_lays (blk off size : Nat) (w : World) : CmpLays Tryz.prog 111 #[] encE 4 cfE blk off size w := fun _ _ _ _ x y =>
  Drawn.calls_grow (order_calls x y _)
/-- slices.SortFunc, with heap's order. -/
theorem sortE_calls (v : Value) (l : List En) (w : World) (base : Nat) (hown : w.ownsRow base 144 4 v l.length (cellsE l)) (hlen : l.length ≤ 1000000) :
    Calls Tryz.prog 133 #[v, .func (.func 111) #[] #[]] w fun e w' => e = .returned (.tuple #[]) ∧ ∃ ts : List En, ts.Perm l ∧ (∀ i j, i < j → j < ts.length → LeE (en ts i) (en ts j)) ∧ w'.ownsRow base 144 4 v ts.length (cellsE ts) ∧ w.grownBy w' v.ownBlock := by
  by_cases hv : v = .slice none 0 0
  · subst hv
    have hl : l = [] := by
      rcases hown.2 with ⟨_, h⟩ | ⟨_, _, _, e, _⟩
      · exact List.eq_nil_of_length_eq_zero h
      · cases e
    subst hl
    refine (AnyF.slices_SortFunc_none Tryz.laysSortK none 0 _ w).mono ?_
    rintro e w' ⟨he, rfl⟩
    exact ⟨he, [], List.Perm.refl _, fun i j _ h => absurd h (by simp), hown, ⟨rfl, rfl, rfl, Nat.le_refl _, fun _ _ _ => rfl⟩⟩
  · obtain ⟨g, cap, cur, rfl, hb, hlt, hg, hn, hm, hs, hH⟩ := ownsE_holds hown hv
    have h := AnyQ.slices_SortFunc Tryz.laysSortK 4 Tryz.isAgg144 Tryz.sizeOf144 encE (fun _ => rfl) (fun x u hu => by simp only [encE, List.mem_cons, List.not_mem_nil, or_false] at hu; rcases hu with rfl | rfl | rfl | rfl <;> rfl) cfE cfE_swo 111 #[] g 0 cap l.toArray w (enters_of Tryz.func111 (by kernel_rfl) rfl) (orderE_lays g 0 _ w) hH hlt (by simp; omega)
    refine h.mono ?_
    rintro e w' ⟨he, d', n, os, hp, hso, hw⟩
    obtain ⟨p1, _, p3⟩ := hp
    simp only [List.size_toArray] at p1 p3 hso
    have e1 : d'.extract 0 l.length = d' := by rw [← p1]; simp
    have e2 : l.toArray.extract 0 l.length = l.toArray := by simp
    rw [e1, e2] at p3
    obtain ⟨ts⟩ := d'
    have hl2 : ts.length = l.length := by simpa using p1
    obtain ⟨q1, q2⟩ := ownE_sorted (n := n) (os := os) l ts hl2 hb hg hn hm hs
    refine ⟨he, ts, by simpa using p3, fun i j hij hj => ?_, by rw [hw]; exact q1, by rw [hw]; exact q2⟩
    have := of_decide_eq_false (show decide _ = false from hso i j (Nat.zero_le _) hij (by omega))
    have k1 : (⟨ts⟩ : Array En)[j]! = en ts j := en_arr ts _
    have k2 : (⟨ts⟩ : Array En)[i]! = en ts i := en_arr ts _
    rw [k1, k2] at this
    exact fun h => this (cfE_neg.2 h)
set_option maxRecDepth 100000 in
theorem sortedE_calls (Bt c : Nat) (a : Option Addr) (t : List En) (w : World) (hV : Vals Bt a c t w) (ht : t.length ≤ 4096) :
    Calls Tryz.prog 109 #[.func (.func 134) #[] #[.pointer (some ⟨Bt, 0, none⟩)], .func (.func 111) #[] #[]] w fun e W' => ∃ v ts, e = .returned v ∧ ts.Perm t ∧ (∀ i j, i < j → j < ts.length → LeE (en ts i) (en ts j)) ∧ TV W' v ts ∧ Below w.heap.size w W' := by
  have HA := Lib.hid (collectE_calls Bt c a t w hV ht)
  clear hV
  go_enter Tryz.func109, Tryz.ntmps109
  go_wp2_with fail
  refine HA.out.mono ?_
  rintro e w1 ⟨a1, c1, rfl, ho, hb⟩
  have HS := Lib.hid (sortE_calls _ t w1 w.heap.size ho (by omega))
  have HB := Lib.hid hb
  have HO := Lib.hid ho
  clear ho hb
  go_wp2_with fail
  refine HS.out.mono ?_
  rintro e w2 ⟨rfl, ts, h1, h2, h3, h4⟩
  have H1 := Lib.hid h1; have H2 := Lib.hid h2; have H3 := Lib.hid h3; have H4 := Lib.hid h4
  clear h1 h2 h3 h4
  go_wp2
  go_ret
  exact ⟨_, ts, rfl, H1.out, H2.out, (TV.of_owns H3.out).1, HB.out.grown H4.out HB.out.size fun k hk => (World.ownsRow.lt HO.out k hk).1⟩
theorem asc_of_sorted {n : Nat} {t ts : List En} {ix : Nat → Int} (ha : Agr n t ix) (hp : ts.Perm t) (h : ∀ i j, i < j → j < ts.length → LeE (en ts i) (en ts j)) : AscE ts := by
  have nd : ts.Nodup := by
    refine hp.nodup_iff.2 ?_
    unfold List.Nodup
    rw [List.pairwise_iff_getElem]
    intro i j hi hj hij e
    have : i = j := ha.inj hi hj (by unfold en; rw [List.getD_eq_getElem?_getD, List.getD_eq_getElem?_getD, List.getElem?_eq_getElem hi, List.getElem?_eq_getElem hj, e])
    omega
  intro i j hij hj
  rcases ltE_tri (en ts i) (en ts j) with c | c | c
  · exact c
  · exfalso
    unfold List.Nodup at nd
    rw [List.pairwise_iff_getElem] at nd
    refine nd i j (by omega) hj hij ?_
    have e1 := en_get (show i < ts.length by omega)
    have e2 := en_get hj
    rw [List.getElem?_eq_getElem (show i < ts.length by omega)] at e1
    rw [List.getElem?_eq_getElem hj, ← c] at e2
    simpa using e1.trans e2.symm
  · exact absurd c (h i j hij hj)
set_option maxHeartbeats 2000000 in
/-- heap's Order. -/
theorem heapOrder_calls {w : World} {q : Nat} {F : Nat → Prop} {n : Nat} {M : Mp} (h : HA w q F n M) :
    Calls Tryz.prog 87 #[.pointer (some ⟨q, 0, none⟩)] w fun e w' => ∃ g c, e = .returned (.slice (some ⟨g, 0, none⟩) (ordM n M).length c) ∧ IR w' g c (plc (ordM n M)) ∧ w.heap.size ≤ g ∧ Below w.heap.size w w' := by
  obtain ⟨tv, x, xc, t, ix, hd, ho, hm, hF⟩ := h.ex
  have hlen : t.length ≤ 4096 := by have := hd.agr.len; have := hd.caps.2.2; omega
  obtain ⟨c0, -, -, -⟩ := hd.cells
  obtain ⟨ta, tc, rfl, -, -⟩ := hd.tree.shape
  have HI := Lib.hid (is_calls hd.own)
  have HV := Lib.hid (values_calls ta t.length tc w)
  have HB0 := Lib.hid ((Below.refl w.heap.size w).alloc (Nat.le_refl _) (.cells #[.slice ta t.length tc] 145))
  have HS := Lib.hid (sortedE_calls w.heap.size tc ta t (w.alloc (.cells #[.slice ta t.length tc] 145)) ⟨Boxed.new w _ _, hd.tree.below HB0.out⟩ hlen)
  have HO := Lib.hid (show ∀ ts : List En, ts.Perm t → (∀ i j, i < j → j < ts.length → LeE (en ts i) (en ts j)) → ts = ordM n M from fun ts hp hs => ordM_is hm hd.agr (asc_of_sorted hd.agr hp hs) fun e => hp.mem_iff)
  have HL := Lib.hid hlen
  clear h hd ho hm hF hlen
  go_enter Tryz.func87, Tryz.ntmps87
  go_wp2_with (first
    | (go_at_call 107; refine HI.out.mono ?_; rintro e w2 ⟨rfl, rfl⟩)
    | (go_at_call 110; refine HV.out.mono ?_; rintro e w2 ⟨rfl, rfl⟩)
    | (go_at_call 109; refine HS.out.mono ?_; rintro e w3 ⟨v, ts, rfl, h1, h2, h3, h4⟩; have e1 := HO.out ts h1 h2; subst e1; have HP := Lib.hid (places_calls v _ w3 h3 (by rw [h1.length_eq]; exact HL.out)); have H4 := Lib.hid (HB0.out.trans (h4.mono HB0.out.size)); clear h1 h2 h3 h4)
    | (go_at_call 108; refine HP.out.mono ?_; rintro e w4 ⟨g, c, rfl, h5, h6, h7⟩; have H5 := Lib.hid h5; have H6 := Lib.hid h6; have H7 := Lib.hid h7; clear h5 h6 h7)
    | fail)
  go_ret
  exact ⟨g, c, rfl, H5.out, Nat.le_trans H4.out.size H6.out, H4.out.trans (H7.out.mono H4.out.size)⟩
end Go.Proofs.YtecbpohkbniadaaGreat
