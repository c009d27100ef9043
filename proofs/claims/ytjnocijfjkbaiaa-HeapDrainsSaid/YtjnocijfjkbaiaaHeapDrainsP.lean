/-
  WHAT HeapDrains ASKS: how many places there are, and what is left when some are taken.
-/
import Derived.Test.YtjnocijfjkbaiaaHeapAwC
namespace Go.Proofs.Ytjnocijfjkbaiaa
open Go.RowKit Go.Shelf

def cntT (r : Nat) (T : Nat → Bool) : Nat := ((List.range r).filter T).length
theorem cntT_succ (r : Nat) (T : Nat → Bool) : cntT (r + 1) T = cntT r T + if T r = true then 1 else 0 := by
  unfold cntT
  rw [List.range_succ, List.filter_append]
  by_cases h : T r = true <;> simp [h]
theorem cntT_le (r : Nat) (T : Nat → Bool) : cntT r T ≤ r := by
  unfold cntT
  exact Nat.le_trans (List.length_filter_le _ _) (by simp)
theorem ents_len (K : Nat → Ky) (T : Nat → Bool) : ∀ n, ((List.range n).filterMap fun p => (mKT K T p).map fun k => (k, p)).length = cntT n T
  | 0 => rfl
  | n + 1 => by
    rw [cntT_succ, List.range_succ, List.filterMap_append, List.length_append, ents_len K T n]
    congr 1
    unfold mKT
    by_cases h : T n = true <;> simp [h]
theorem ordM_cnt (n : Nat) (K : Nat → Ky) (T : Nat → Bool) : (ordM n (mKT K T)).length = cntT n T := by
  rw [← ents_len K T n]
  refine nodup_len _ _ (fun i j h1 h2 e => ?_) (fun i j h1 h2 e => ?_) (fun x => ?_)
  · have := ordM_asc n (mKT K T) i j h1 h2
    rw [e] at this
    exact ltE_irrefl _ this
  · have hp : List.Pairwise (fun a b : En => a.2 < b.2) ((List.range n).filterMap fun p => (mKT K T p).map fun k => (k, p)) := by
      refine List.Pairwise.filterMap (R := fun a b => a < b) _ (fun a a' hlt b hb b' hb' => ?_) List.pairwise_lt_range
      simp only [Option.map_eq_some_iff] at hb hb'
      obtain ⟨_, _, rfl⟩ := hb
      obtain ⟨_, _, rfl⟩ := hb'
      exact hlt
    have h3 := (List.pairwise_iff_getElem.1 hp) i j (by omega) h2 h1
    have e1 : ∀ (l : List En) (i : Nat) (h : i < l.length), en l i = l[i] := fun l i h => by
      unfold en; rw [List.getD_eq_getElem?_getD, List.getElem?_eq_getElem h]; rfl
    rw [e1 _ i (by omega), e1 _ j h2] at e
    rw [e] at h3
    exact Nat.lt_irrefl _ h3
  · obtain ⟨k, p⟩ := x
    rw [ordM_mem]
    simp only [List.mem_filterMap, List.mem_range, Option.map_eq_some_iff]
    constructor
    · rintro ⟨h1, h2⟩
      exact ⟨p, h1, k, h2, rfl⟩
    · rintro ⟨p', h1, k', h2, e⟩
      cases e
      exact ⟨h1, h2⟩
section
variable {K : Nat → Ky} {T : Nat → Bool}
theorem mKT_some {p : Nat} {k : Ky} (h : mKT K T p = some k) : T p = true ∧ K p = k := by
  unfold mKT at h
  split at h
  · rename_i c; exact ⟨c, by simpa using h⟩
  · cases h
/-- The i-th of the order: its place is there, with its key. -/
theorem ord_at (i : Nat) (hi : i < (ordM 24 (mKT K T)).length) : (en (ordM 24 (mKT K T)) i).2 < 24 ∧ T (en (ordM 24 (mKT K T)) i).2 = true ∧ K (en (ordM 24 (mKT K T)) i).2 = (en (ordM 24 (mKT K T)) i).1 := by
  have h := en_mem hi
  have h2 := (ordM_mem 24 (mKT K T) (en (ordM 24 (mKT K T)) i).1 (en (ordM 24 (mKT K T)) i).2).1 h
  exact ⟨h2.1, mKT_some h2.2⟩
theorem ord_inj {i j : Nat} (hi : i < (ordM 24 (mKT K T)).length) (hj : j < (ordM 24 (mKT K T)).length) (e : (en (ordM 24 (mKT K T)) i).2 = (en (ordM 24 (mKT K T)) j).2) : i = j := by
  have a := ord_at i hi
  have b := ord_at j hj
  have e2 : en (ordM 24 (mKT K T)) i = en (ordM 24 (mKT K T)) j := Prod.ext (by rw [← a.2.2, ← b.2.2, e]) e
  rcases Nat.lt_trichotomy i j with c | c | c
  · have := ordM_asc 24 (mKT K T) i j c hj
    rw [e2] at this
    exact absurd this (ltE_irrefl _)
  · exact c
  · have := ordM_asc 24 (mKT K T) j i c hi
    rw [e2] at this
    exact absurd this (ltE_irrefl _)
theorem less_here (i : Nat) (hi : i < (ordM 24 (mKT K T)).length) : lessT T (ordM 24 (mKT K T)) i (en (ordM 24 (mKT K T)) i).2 = true := by
  unfold lessT
  rw [(ord_at i hi).2.1, Bool.true_and]
  have : (((ordM 24 (mKT K T)).take i).any fun e => e.2 == (en (ordM 24 (mKT K T)) i).2) = false := by
    rw [List.any_eq_false]
    intro e he c
    obtain ⟨j, hj, rfl⟩ := mem_en he
    rw [List.length_take] at hj
    rw [en_take _ _ _ (by omega)] at c
    have := ord_inj (show j < (ordM 24 (mKT K T)).length by omega) hi (by simpa using c)
    omega
  rw [this]; rfl
theorem en_drop (l : List En) (i j : Nat) : en (l.drop i) j = en l (i + j) := by
  unfold en
  rw [List.getD_eq_getElem?_getD, List.getElem?_drop, List.getD_eq_getElem?_getD]
theorem less_ord : ∀ i, i ≤ (ordM 24 (mKT K T)).length → ordM 24 (mKT K (lessT T (ordM 24 (mKT K T)) i)) = (ordM 24 (mKT K T)).drop i
  | 0, _ => by rw [lessT_zero]; rfl
  | i + 1, hi => by
    have ih := less_ord i (by omega)
    have hd : (ordM 24 (mKT K T)).drop i = ((en (ordM 24 (mKT K T)) i).1, (en (ordM 24 (mKT K T)) i).2) :: (ordM 24 (mKT K T)).drop (i + 1) := by
      rw [List.drop_eq_getElem_cons (by omega)]
      congr 1
      show _ = en (ordM 24 (mKT K T)) i
      unfold en
      rw [List.getD_eq_getElem?_getD, List.getElem?_eq_getElem (by omega)]; rfl
    rw [hd] at ih
    have ht := ordM_tail ih
    rw [mKT_drop, lessT_succ T _ i (by omega)] at ht
    exact ht
theorem ord_step (i : Nat) (hi : i + 1 < (ordM 24 (mKT K T)).length) : cfK (K (en (ordM 24 (mKT K T)) i).2) (en (ordM 24 (mKT K T)) (i + 1)).1 < 0 ∨ (cfK (K (en (ordM 24 (mKT K T)) i).2) (en (ordM 24 (mKT K T)) (i + 1)).1 = 0 ∧ (en (ordM 24 (mKT K T)) i).2 < (en (ordM 24 (mKT K T)) (i + 1)).2) := by
  rw [(ord_at (K := K) (T := T) i (by omega)).2.2]
  rcases ordM_asc 24 (mKT K T) i (i + 1) (by omega) hi with c | ⟨c, d⟩
  · exact .inl (by unfold cfK; rw [if_pos c]; omega)
  · exact .inr ⟨by rw [c]; unfold cfK; rw [if_neg (less_irrefl _), if_neg (less_irrefl _)], d⟩
end
theorem belowN (W : World) (m : Nat) : Below W.heap.size W (W.drewN m) := (Below.refl _ W).trans ⟨rfl, rfl, rfl, Nat.le_refl _, fun _ _ => rfl⟩
/-- What the last place is: none, or that of the one before. -/
structure LastIs (O : List En) (i : Nat) (la : Int) : Prop where
  is : (i = 0 ∧ la = -1) ∨ ∃ j, i = j + 1 ∧ la = ((en O j).2 : Int)
/-- WHERE HeapDrains STANDS: the heap, the arrays. -/
structure DrAt (w wr : World) (q b : Nat) (K : Nat → Ky) (T : Nat → Bool) (F : Nat → Prop) : Prop where
  heap : HA wr q F 24 (mKT K T)
  keys : KArr wr b K
  there : TArr wr (b + 1) T
  below : Below w.heap.size w wr
  ne : w.heap.size ≤ b ∧ ∀ j, F j → j ≠ b ∧ j ≠ b + 1 ∧ w.heap.size ≤ j
theorem DrAt.to {w wr w' : World} {q b : Nat} {K : Nat → Ky} {T : Nat → Bool} {F : Nat → Prop} (h : DrAt w wr q b K T F) (hb : Below wr.heap.size wr w') : DrAt w w' q b K T F :=
  ⟨h.heap.below hb, (hb.block _ (Array.getElem?_eq_some_iff.1 h.keys).1).trans h.keys, (hb.block _ (Array.getElem?_eq_some_iff.1 h.there).1).trans h.there, h.below.trans (hb.mono h.below.size), h.ne⟩
theorem DrAt.al {w wr : World} {q b : Nat} {K : Nat → Ky} {T : Nat → Bool} {F : Nat → Prop} (h : DrAt w wr q b K T F) (o : Obj) : DrAt w (wr.alloc o) q b K T F := h.to ((Below.refl _ wr).alloc (Nat.le_refl _) o)
/-- One place taken: the heap is a step on, the arrays are as they were. -/
structure DrMid (w wr : World) (q b g c : Nat) (K : Nat → Ky) (T T' : Nat → Bool) (l : List Int) (F : Nat → Prop) : Prop where
  heap : HA wr q F 24 (mKT K T')
  keys : KArr wr b K
  there : TArr wr (b + 1) T
  row : IR wr g c l
  below : Below w.heap.size w wr
  ne : w.heap.size ≤ b ∧ g ≠ b + 1 ∧ ∀ j, F j → j ≠ b ∧ j ≠ b + 1 ∧ w.heap.size ≤ j ∧ j ≠ g
theorem DrMid.to {w wr w' : World} {q b g c : Nat} {K : Nat → Ky} {T T' : Nat → Bool} {l : List Int} {F : Nat → Prop} (h : DrMid w wr q b g c K T T' l F) (hb : Below wr.heap.size wr w') : DrMid w w' q b g c K T T' l F :=
  ⟨h.heap.below hb, (hb.block _ (Array.getElem?_eq_some_iff.1 h.keys).1).trans h.keys, (hb.block _ (Array.getElem?_eq_some_iff.1 h.there).1).trans h.there, h.row.below hb, h.below.trans (hb.mono h.below.size), h.ne⟩
theorem DrMid.al {w wr : World} {q b g c : Nat} {K : Nat → Ky} {T T' : Nat → Bool} {l : List Int} {F : Nat → Prop} (h : DrMid w wr q b g c K T T' l F) (o : Obj) : DrMid w (wr.alloc o) q b g c K T T' l F := h.to ((Below.refl _ wr).alloc (Nat.le_refl _) o)
theorem DrMid.step {w wr w' : World} {q b g c : Nat} {K : Nat → Ky} {T T' T'' : Nat → Bool} {l : List Int} {F : Nat → Prop} (h : DrMid w wr q b g c K T T' l F) (hs : HStep wr w' q F 24 (mKT K T'')) : ∃ F', DrMid w w' q b g c K T T'' l F' := by
  obtain ⟨F', h1, h2, h3⟩ := hs.ex
  have hk := (Array.getElem?_eq_some_iff.1 h.keys).1
  have ht := (Array.getElem?_eq_some_iff.1 h.there).1
  have hr := h.row.lt
  refine ⟨F', h1, (h2.block _ hk (fun e => (h.ne.2.2 _ e).1 rfl)).trans h.keys, (h2.block _ ht (fun e => (h.ne.2.2 _ e).2.1 rfl)).trans h.there, h.row.off h2 (fun e => (h.ne.2.2 _ e).2.2.2 rfl), h.below.trans (h2.below (fun j hj => (h.ne.2.2 j hj).2.2.1) h.below.size), h.ne.1, h.ne.2.1, fun j hj => ?_⟩
  rcases h3 j hj with e | e
  · exact h.ne.2.2 j e
  · have := h.below.size
    exact ⟨by omega, by omega, by omega, by omega⟩
theorem DrMid.put {w wr : World} {q b g c : Nat} {K : Nat → Ky} {T T' : Nat → Bool} {l : List Int} {F : Nat → Prop} (h : DrMid w wr q b g c K T T' l F) (p : Nat) (hp : p < 24) : DrMid w (wr.setCell ⟨b + 1, p, none⟩ (.bool false)) q b g c K (setF T p false) T' l F := by
  have o := (Off.refl (fun j => j = b + 1) wr).set (b := b + 1) (.inl rfl) p (.bool false)
  exact ⟨h.heap.off o (fun j hj e => (h.ne.2.2 j hj).2.1 e), (heap_setO _ _ _ (by omega)).trans h.keys, h.there.set p hp false, h.row.off o h.ne.2.1, h.below.trans (o.below (fun j hj => by have := h.ne.1; omega) h.below.size), h.ne⟩
end Go.Proofs.Ytjnocijfjkbaiaa
