/-
  CONTRACT of slices.SortFunc with key.order, at a slice of keys of the call's own.
-/
import Derived.Test.YtapaccbffhcjdaaDoorKeyOwn
import Derived.Test.YtapaccbffhcjdaaDoorKeyA
import Derived.Test.YtapaccbffhcjdaaDoorDrawn3
import Derived.Test.YtapaccbffhcjdaaDoorShelf
import Derived.Sort.OwnSorted
import Derived.Shelf.SlSortCmp.WholeK
import Derived.Shelf.SlSortCmp.NoneTotal
namespace Go.Proofs.YtapaccbffhcjdaaDoor
open Go.RowKit Go.Shelf Go.Sort

theorem kq_arr (l : List Ky) (j : Nat) : l.toArray[j]! = kq l j := by
  unfold kq
  rw [List.getD_eq_getElem?_getD]
  by_cases h : j < l.length
  · rw [getElem!_pos _ _ (by simpa using h), List.getElem?_eq_getElem h]; rfl
  · rw [getElem!_neg _ _ (by simpa using h), List.getElem?_eq_none (by omega)]; rfl
theorem flatK_cells (l : List Ky) : flatK encK 3 l.toArray = (cellsL l).toArray := by
  refine ext_get! (by simp [cellsL_len]) fun t ht => ?_
  have ht' : t < l.length * 3 := by simpa using ht
  rw [get_flatK _ _ _ t (by simpa using ht')]
  have hj : t / 3 < l.length := by omega
  obtain ⟨h0, h1, h2⟩ := cellsL_get l (t / 3) hj
  have hk : l.toArray[t / 3]! = kq l (t / 3) := kq_arr l _
  rw [hk]
  have e : (cellsL l).toArray[t]! = ((cellsL l)[t]?).getD default := by simp [getElem!_def]; rfl
  rw [e]
  have h3 : t % 3 = 0 ∨ t % 3 = 1 ∨ t % 3 = 2 := by omega
  rcases h3 with h | h | h
  · rw [h, show t = t / 3 * 3 + 0 by omega, show (t / 3 * 3 + 0) / 3 = t / 3 by omega, h0]; rfl
  · rw [h, show t = t / 3 * 3 + 1 by omega, show (t / 3 * 3 + 1) / 3 = t / 3 by omega, h1]; rfl
  · rw [h, show t = t / 3 * 3 + 2 by omega, show (t / 3 * 3 + 2) / 3 = t / 3 by omega, h2]; rfl
theorem OwnK.holds {w : World} {base : Nat} {v : Value} {l : List Ky} (h : OwnK w base v l) (hv : v ≠ .slice none 0 0) :
    ∃ g cap cur, v = .slice (some ⟨g, 0, none⟩) l.length cap ∧ base ≤ g ∧ g < w.heap.size ∧ w.heap[g]? = some (.cells cur 23 (0, 0)) ∧ l.length ≤ cap ∧ cap ≤ maxLen ∧ cur.size = cap * 3 ∧ HoldsK encK 3 w g 0 l.toArray := by
  have hr := h.row
  obtain ⟨hl, ⟨rfl, h0⟩ | ⟨g, cap, cur, rfl, hb, hg, hn, hm, hs, ht⟩⟩ := h
  · exact absurd rfl hv
  · refine ⟨g, cap, cur, rfl, hb, (Array.getElem?_eq_some_iff.1 hg).1, hg, hn, hm, hs, ?_⟩
    unfold HoldsK
    rw [flatK_cells]
    intro j hj
    refine ⟨?_, by simp [World.frozen?, hg]⟩
    have hj' : j < (cellsL l).length := by simpa using hj
    have e : (cellsL l)[j]? = some ((cellsL l).toArray[j]!) := by simp [hj']
    rcases hr with ⟨rfl, _⟩ | ⟨b, o, c, e2, _, _, _, h4⟩
    · simp [cellsL] at hj'
    · cases e2
      exact h4 j _ e
/-- Behind a sort. -/
theorem own_sorted {w : World} {base g cap : Nat} {cur : Array Value} {n : Nat} {os : Array Obj} (l ts : List Ky) (hl : ts.length = l.length) (hb : base ≤ g) (hg : w.heap[g]? = some (.cells cur 23 (0, 0))) (hn : l.length ≤ cap) (hm : cap ≤ maxLen) (hs : cur.size = cap * 3) :
    OwnK (sortWorldK encK 3 w g 0 n ts.toArray os) base (.slice (some ⟨g, 0, none⟩) l.length cap) ts ∧ w.grownBy (sortWorldK encK 3 w g 0 n ts.toArray os) (some g) := by
  have hlt : g < w.heap.size := (Array.getElem?_eq_some_iff.1 hg).1
  unfold sortWorldK putRowK
  rw [flatK_cells]
  constructor
  · unfold OwnK
    rw [← hl]
    refine ⟨cellsL_len ts, .inr ⟨g, cap, putCells id 0 (cellsL ts).toArray cur, rfl, hb, ?_, by omega, hm, by simp [putCells, hs], ?_⟩⟩
    · rw [heap_grow_old _ _ (by simpa using hlt)]
      simp [putRow, mapBlock, Sort.ahead, Array.getElem?_modify, hg, onCells]
    · rw [← cellsL_len ts]
      have hc : (cellsL ts).length ≤ cur.size := by rw [cellsL_len, hs, hl]; omega
      apply List.ext_getElem?
      intro j
      by_cases hj : j < (cellsL ts).length
      · rw [List.getElem?_take_of_lt hj, Array.getElem?_toList]
        simp [putCells, hj, show j < cur.size by omega]
      · rw [List.getElem?_take_eq_none (by omega), List.getElem?_eq_none (by omega)]
  · refine ⟨rfl, rfl, rfl, by simp, fun k hk hne => ?_⟩
    rw [heap_grow_old _ _ (by simpa using hk)]
    have : g ≠ k := fun e => hne (by rw [e])
    simp [putRow, mapBlock, Sort.ahead, Array.getElem?_modify, this]

theorem cfK_swo : SWO (ltOf cfK) where
  irrefl x := by unfold ltOf; rw [cfK_good.refl]; rfl
  trans x y z h1 h2 := by
    unfold ltOf at h1 h2 ⊢
    have h1 := of_decide_eq_true h1
    have h2 := of_decide_eq_true h2
    exact decide_eq_true (cfK_good.lt_le h1 (by omega))
  ntrans x y z h1 h2 := by
    unfold ltOf at h1 h2 ⊢
    have h1 := of_decide_eq_false h1
    have h2 := of_decide_eq_false h2
    refine decide_eq_false ?_
    have a1 := cfK_good.anti x y
    have a2 := cfK_good.anti y z
    have a3 := cfK_good.anti x z
    have := cfK_good.tr z y x (by omega) (by omega)
    omega
theorem orderK_lays (blk off size : Nat) (w : World) : CmpLays Tryd.prog 62 #[] encK 3 cfK blk off size w := fun _ _ _ _ x y =>
  Drawn.calls_grow (orderK_calls x y _)
/-- slices.SortFunc, with key.order. -/
theorem sortK_calls (v : Value) (l : List Ky) (w : World) (base : Nat) (hown : OwnK w base v l) (hlen : l.length ≤ 1000000) :
    Calls Tryd.prog 63 #[v, .func (.func 62) #[] #[]] w fun e w' => e = .returned (.tuple #[]) ∧ ∃ ts : List Ky, ts.Perm l ∧ (∀ i j, i < j → j < ts.length → cfK (kq ts i) (kq ts j) ≤ 0) ∧ OwnK w' base v ts ∧ w.grownBy w' v.ownBlock := by
  by_cases hv : v = .slice none 0 0
  · subst hv
    have hl : l = [] := by
      rcases hown.row with ⟨h, _⟩ | ⟨_, _, _, e, _⟩
      · exact h
      · cases e
    subst hl
    refine (AnyF.slices_SortFunc_none Tryd.laysSortK none 0 _ w).mono ?_
    rintro e w' ⟨he, rfl⟩
    exact ⟨he, [], List.Perm.refl _, fun i j _ h => absurd h (by simp), hown, ⟨rfl, rfl, rfl, Nat.le_refl _, fun _ _ _ => rfl⟩⟩
  · obtain ⟨g, cap, cur, rfl, hb, hlt, hg, hn, hm, hs, hH⟩ := hown.holds hv
    have h := AnyQ.slices_SortFunc Tryd.laysSortK 3 Tryd.isAgg23 Tryd.sizeOf23 encK (fun _ => rfl) (fun x u hu => by simp only [encK, List.mem_cons, List.not_mem_nil, or_false] at hu; rcases hu with rfl | rfl | rfl <;> rfl) cfK cfK_swo 62 #[] g 0 cap l.toArray w (enters_of Tryd.func62 (by kernel_rfl) rfl) (orderK_lays g 0 _ w) hH hlt (by simp; omega)
    refine h.mono ?_
    rintro e w' ⟨he, d', n, os, hp, hso, hw⟩
    obtain ⟨p1, _, p3⟩ := hp
    simp only [List.size_toArray] at p1 p3 hso
    have e1 : d'.extract 0 l.length = d' := by rw [← p1]; simp
    have e2 : l.toArray.extract 0 l.length = l.toArray := by simp
    rw [e1, e2] at p3
    obtain ⟨ts⟩ := d'
    have hl2 : ts.length = l.length := by simpa using p1
    obtain ⟨q1, q2⟩ := own_sorted (n := n) (os := os) l ts hl2 hb hg hn hm hs
    refine ⟨he, ts, by simpa using p3, fun i j hij hj => ?_, by rw [hw]; exact q1, by rw [hw]; exact q2⟩
    have := of_decide_eq_false (show decide _ = false from hso i j (Nat.zero_le _) hij (by omega))
    have k1 : (⟨ts⟩ : Array Ky)[j]! = kq ts j := kq_arr ts _
    have k2 : (⟨ts⟩ : Array Ky)[i]! = kq ts i := kq_arr ts _
    rw [k1, k2] at this
    have := cfK_good.anti (kq ts i) (kq ts j)
    omega
end Go.Proofs.YtapaccbffhcjdaaDoor
