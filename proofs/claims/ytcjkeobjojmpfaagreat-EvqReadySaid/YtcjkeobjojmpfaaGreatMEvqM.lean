import Derived.Test.YtcjkeobjojmpfaaGreatMEvqP
import Derived.Test.YtcjkeobjojmpfaaGreatMHeapMem
import Derived.Deep.DeepMust
/-
  ROWS OF EVENTS: how they lie in memory; what is appended to them.
-/
namespace Go.Proofs.YtcjkeobjojmpfaaGreat
open Go.RowKit

/-- The event at an index. -/
def vn (l : List Ev) (i : Nat) : Ev := l.getD i ((0, 0, 0), 0, 0)
theorem vn_get {l : List Ev} {i : Nat} (h : i < l.length) : l[i]? = some (vn l i) := by
  unfold vn; rw [List.getD_eq_getElem?_getD, List.getElem?_eq_getElem h]; rfl
theorem vn_mem {l : List Ev} {i : Nat} (h : i < l.length) : vn l i ∈ l := List.mem_of_getElem? (vn_get h)
theorem vn_cons (x : Ev) (l : List Ev) (i : Nat) : vn (x :: l) (i + 1) = vn l i := rfl
theorem vn_zero (x : Ev) (l : List Ev) : vn (x :: l) 0 = x := rfl
def cellsV (l : List Ev) : List Value := l.flatMap encV
theorem cellsV_cons (k : Ev) (l : List Ev) : cellsV (k :: l) = encV k ++ cellsV l := rfl
theorem cellsV_append (l m : List Ev) : cellsV (l ++ m) = cellsV l ++ cellsV m := List.flatMap_append
theorem cellsV_len : ∀ l : List Ev, (cellsV l).length = l.length * 5
  | [] => rfl
  | k :: l => by rw [cellsV_cons, List.length_append, cellsV_len l, List.length_cons]; show 5 + _ = _; omega
theorem cellsV_one (l : List Ev) : ∀ u ∈ cellsV l, u.oneCell' = true := by
  intro u hu
  obtain ⟨k, _, hk⟩ := List.mem_flatMap.1 hu
  simp only [encV, List.mem_cons, List.not_mem_nil, or_false] at hk
  rcases hk with rfl | rfl | rfl | rfl | rfl <;> rfl
/-- THE FIVE CELLS OF AN EVENT. -/
def VAt (w : World) (g i : Nat) (x : Ev) : Prop := w.cell? ⟨g, i, none⟩ = some (.int .i64 x.1.1) ∧ w.cell? ⟨g, i + 1, none⟩ = some (.int .i64 x.1.2.1) ∧ w.cell? ⟨g, i + 2, none⟩ = some (.int .i64 x.1.2.2) ∧ w.cell? ⟨g, i + 3, none⟩ = some (.int .i64 x.2.1) ∧ w.cell? ⟨g, i + 4, none⟩ = some (.int .i64 x.2.2)
theorem VAt.keep {w w' : World} {g i : Nat} {x : Ev} (h : VAt w g i x) (e : w'.heap[g]? = w.heap[g]?) : VAt w' g i x := by
  unfold VAt
  rw [cell_blk e, cell_blk e, cell_blk e, cell_blk e, cell_blk e]
  exact h
theorem cellsV_get : ∀ (l : List Ev) (j : Nat), j < l.length → (cellsV l)[j * 5]? = some (.int .i64 (vn l j).1.1) ∧ (cellsV l)[j * 5 + 1]? = some (.int .i64 (vn l j).1.2.1) ∧ (cellsV l)[j * 5 + 2]? = some (.int .i64 (vn l j).1.2.2) ∧ (cellsV l)[j * 5 + 3]? = some (.int .i64 (vn l j).2.1) ∧ (cellsV l)[j * 5 + 4]? = some (.int .i64 (vn l j).2.2)
  | [], j, h => by cases h
  | k :: l, 0, _ => ⟨rfl, rfl, rfl, rfl, rfl⟩
  | k :: l, j + 1, h => by
    have ih := cellsV_get l j (by simpa using h)
    have e : ∀ r, (cellsV (k :: l))[(j + 1) * 5 + r]? = (cellsV l)[j * 5 + r]? := fun r => by
      rw [cellsV_cons, List.getElem?_append_right (by show 5 ≤ _; omega)]
      congr 1
      show (j + 1) * 5 + r - 5 = _
      omega
    have e0 := e 0
    rw [Nat.add_zero, Nat.add_zero] at e0
    rw [e0, e, e, e, e]
    exact ih
/-- THE BLOCK g, with room for cap events, HOLDS THE EVENTS l at its beginning. -/
structure VR (w : World) (g cap : Nat) (l : List Ev) : Prop where
  blk : ∃ cur, w.heap[g]? = some (.cells cur 33 (0, 0)) ∧ cur.size = cap * 5
  le : l.length ≤ cap
  cell : ∀ i, i < l.length → VAt w g (i * 5) (vn l i)
theorem VR.lt {w : World} {g cap : Nat} {t : List Ev} (h : VR w g cap t) : g < w.heap.size := by
  obtain ⟨cur, hc, _⟩ := h.blk
  exact (Array.getElem?_eq_some_iff.1 hc).1
theorem VR.frozen {w : World} {g cap : Nat} {t : List Ev} (h : VR w g cap t) (i : Nat) : w.frozen? ⟨g, i, none⟩ = false := by
  obtain ⟨cur, hc, _⟩ := h.blk
  simp [World.frozen?, hc]
theorem VR.keep {w w' : World} {g cap : Nat} {t : List Ev} (h : VR w g cap t) (e : w'.heap[g]? = w.heap[g]?) : VR w' g cap t :=
  ⟨by rw [e]; exact h.blk, h.le, fun i hi => (h.cell i hi).keep e⟩
theorem VR.below {w w' : World} {g c : Nat} {l : List Ev} (h : VR w g c l) (hb : Below w.heap.size w w') : VR w' g c l := h.keep (hb.block g h.lt)
theorem VR.off {F : Nat → Prop} {w w' : World} {g c : Nat} {l : List Ev} (h : VR w g c l) (hb : Off F w w') (hF : ¬ F g) : VR w' g c l := h.keep (hb.block g h.lt hF)
/-- THE BLOCK g HOLDS, IN ITS n PLACES, THE EVENTS ev. -/
structure VP (w : World) (g n : Nat) (ev : Nat → Ev) : Prop where
  blk : ∃ cur, w.heap[g]? = some (.cells cur 33 (0, 0)) ∧ cur.size = n * 5
  cell : ∀ p, p < n → VAt w g (p * 5) (ev p)
theorem VP.lt {w : World} {g n : Nat} {ev : Nat → Ev} (h : VP w g n ev) : g < w.heap.size := by
  obtain ⟨cur, hc, _⟩ := h.blk
  exact (Array.getElem?_eq_some_iff.1 hc).1
theorem VP.frozen {w : World} {g n : Nat} {ev : Nat → Ev} (h : VP w g n ev) (i : Nat) : w.frozen? ⟨g, i, none⟩ = false := by
  obtain ⟨cur, hc, _⟩ := h.blk
  simp [World.frozen?, hc]
theorem VP.keep {w w' : World} {g n : Nat} {ev : Nat → Ev} (h : VP w g n ev) (e : w'.heap[g]? = w.heap[g]?) : VP w' g n ev :=
  ⟨by rw [e]; exact h.blk, fun i hi => (h.cell i hi).keep e⟩
theorem blkV_set {w : World} {g n : Nat} (h : ∃ cur, w.heap[g]? = some (.cells cur 33 (0, 0)) ∧ cur.size = n * 5) (i : Nat) (v : Value) : ∃ cur, (w.setCell ⟨g, i, none⟩ v).heap[g]? = some (.cells cur 33 (0, 0)) ∧ cur.size = n * 5 := by
  obtain ⟨cur, hc, hs⟩ := h
  exact ⟨_, heap_setC hc i v, by simpa using hs⟩
/-- A world with an event stored. -/
def World.setV (w : World) (g i : Nat) (x : Ev) : World := ((((w.setCell ⟨g, i, none⟩ (.int .i64 x.1.1)).setCell ⟨g, i + 1, none⟩ (.int .i64 x.1.2.1)).setCell ⟨g, i + 2, none⟩ (.int .i64 x.1.2.2)).setCell ⟨g, i + 3, none⟩ (.int .i64 x.2.1)).setCell ⟨g, i + 4, none⟩ (.int .i64 x.2.2)
theorem VAt.set {w : World} {g i : Nat} {y : Ev} (h : VAt w g i y) (x : Ev) : VAt (World.setV w g i x) g i x := by
  obtain ⟨a0, a1, a2, a3, a4⟩ := h
  unfold VAt World.setV
  refine ⟨?_, ?_, ?_, ?_, ?_⟩
  · rw [cell_other _ _ _ _ _ (by omega), cell_other _ _ _ _ _ (by omega), cell_other _ _ _ _ _ (by omega), cell_other _ _ _ _ _ (by omega)]; exact cell_same a0
  · rw [cell_other _ _ _ _ _ (by omega), cell_other _ _ _ _ _ (by omega), cell_other _ _ _ _ _ (by omega)]; exact cell_same (by rw [cell_other _ _ _ _ _ (by omega)]; exact a1)
  · rw [cell_other _ _ _ _ _ (by omega), cell_other _ _ _ _ _ (by omega)]; exact cell_same (by rw [cell_other _ _ _ _ _ (by omega), cell_other _ _ _ _ _ (by omega)]; exact a2)
  · rw [cell_other _ _ _ _ _ (by omega)]; exact cell_same (by rw [cell_other _ _ _ _ _ (by omega), cell_other _ _ _ _ _ (by omega), cell_other _ _ _ _ _ (by omega)]; exact a3)
  · exact cell_same (by rw [cell_other _ _ _ _ _ (by omega), cell_other _ _ _ _ _ (by omega), cell_other _ _ _ _ _ (by omega), cell_other _ _ _ _ _ (by omega)]; exact a4)
theorem VAt.other {w : World} {g i j : Nat} {y : Ev} (h : VAt w g j y) (x : Ev) (hd : j + 5 ≤ i ∨ i + 5 ≤ j) : VAt (World.setV w g i x) g j y := by
  unfold VAt World.setV at *
  have e : ∀ r, r < 5 → (((((w.setCell ⟨g, i, none⟩ (.int .i64 x.1.1)).setCell ⟨g, i + 1, none⟩ (.int .i64 x.1.2.1)).setCell ⟨g, i + 2, none⟩ (.int .i64 x.1.2.2)).setCell ⟨g, i + 3, none⟩ (.int .i64 x.2.1)).setCell ⟨g, i + 4, none⟩ (.int .i64 x.2.2)).cell? ⟨g, j + r, none⟩ = w.cell? ⟨g, j + r, none⟩ := fun r hr => by
    rw [cell_other _ _ _ _ _ (by omega), cell_other _ _ _ _ _ (by omega), cell_other _ _ _ _ _ (by omega), cell_other _ _ _ _ _ (by omega), cell_other _ _ _ _ _ (by omega)]
  exact ⟨(e 0 (by omega)).trans h.1, (e 1 (by omega)).trans h.2.1, (e 2 (by omega)).trans h.2.2.1, (e 3 (by omega)).trans h.2.2.2.1, (e 4 (by omega)).trans h.2.2.2.2⟩
theorem VP.set {w : World} {g n : Nat} {ev : Nat → Ev} (h : VP w g n ev) {p : Nat} (hp : p < n) (x : Ev) : VP (World.setV w g (p * 5) x) g n (setV ev p x) := by
  refine ⟨blkV_set (blkV_set (blkV_set (blkV_set (blkV_set h.blk _ _) _ _) _ _) _ _) _ _, fun q hq => ?_⟩
  unfold setV
  by_cases e : q = p
  · subst e; rw [if_pos rfl]; exact (h.cell q hq).set x
  · rw [if_neg e]; exact (h.cell q hq).other x (by omega)
theorem Off.setV {F : Nat → Prop} {a w : World} (h : Off F a w) {b : Nat} (hb : F b ∨ a.heap.size ≤ b) (i : Nat) (x : Ev) : Off F a (World.setV w b i x) :=
  ((((h.set hb _ _).set hb _ _).set hb _ _).set hb _ _).set hb _ _
theorem info_ev : (Tryz.prog.info? 33).map (fun i => (i.zero, i.size, i.bytes)) = some (some (.agg #[.int .i64 0, .int .i64 0, .int .i64 0, .int .i64 0, .int .i64 0]), 5, 40) := by kernel_rfl
/-- WHAT A LIST's VALUE IS. -/
def LV (w : World) (tv : Value) (t : List Ev) : Prop := (tv = .slice none 0 0 ∧ t = []) ∨ ∃ g cap, tv = .slice (some ⟨g, 0, none⟩) t.length cap ∧ VR w g cap t ∧ cap ≤ maxLen
theorem LV.owns {w : World} {tv : Value} {t : List Ev} (h : LV w tv t) : w.ownsRow 0 33 5 tv t.length (cellsV t) := by
  rcases h with ⟨rfl, rfl⟩ | ⟨g, cap, rfl, hr, hm⟩
  · exact World.ownsRow_nil _ _ _ _
  · obtain ⟨cur, hc, hs⟩ := hr.blk
    refine ⟨cellsV_len t, .inr ⟨g, cap, cur, rfl, Nat.zero_le _, hc, hr.le, hm, hs, ?_⟩⟩
    apply List.ext_getElem?
    intro j
    by_cases hj : j < t.length * 5
    · have hi : j / 5 < t.length := by omega
      have hle := hr.le
      rw [List.getElem?_take_of_lt hj, Array.getElem?_toList]
      obtain ⟨c0, c1, c2, c3, c4⟩ := hr.cell (j / 5) hi
      obtain ⟨d0, d1, d2, d3, d4⟩ := cellsV_get t (j / 5) hi
      have cc : ∀ i, w.cell? ⟨g, i, none⟩ = cur[i]? := fun i => by simp [World.cell?, hc]
      rw [cc] at c0 c1 c2 c3 c4
      have h4 : j = j / 5 * 5 ∨ j = j / 5 * 5 + 1 ∨ j = j / 5 * 5 + 2 ∨ j = j / 5 * 5 + 3 ∨ j = j / 5 * 5 + 4 := by omega
      generalize j / 5 = k at *
      rcases h4 with e | e | e | e | e
      · rw [e, c0, d0]
      · rw [e, c1, d1]
      · rw [e, c2, d2]
      · rw [e, c3, d3]
      · rw [e, c4, d4]
    · rw [List.getElem?_eq_none (by rw [List.length_take]; omega), List.getElem?_eq_none (by rw [cellsV_len]; omega)]
theorem LV.of_owns {w : World} {base : Nat} {tv : Value} {t : List Ev} (h : w.ownsRow base 33 5 tv t.length (cellsV t)) : LV w tv t ∧ ∀ k, tv.ownBlock = some k → base ≤ k := by
  obtain ⟨_, ⟨rfl, h0⟩ | ⟨g, cap, cur, rfl, hb, hc, hn, hm, hs, ht⟩⟩ := h
  · exact ⟨.inl ⟨rfl, List.eq_nil_of_length_eq_zero h0⟩, fun k hk => by cases hk⟩
  · refine ⟨.inr ⟨g, cap, rfl, ⟨⟨cur, hc, hs⟩, hn, fun i hi => ?_⟩, hm⟩, fun k hk => by cases hk; exact hb⟩
    have cc : ∀ i, w.cell? ⟨g, i, none⟩ = cur[i]? := fun i => by simp [World.cell?, hc]
    unfold VAt
    rw [cc, cc, cc, cc, cc]
    obtain ⟨d0, d1, d2, d3, d4⟩ := cellsV_get t i hi
    have gg : ∀ j, j < t.length * 5 → cur[j]? = (cellsV t)[j]? := fun j hj => by rw [← ht, List.getElem?_take_of_lt hj, Array.getElem?_toList]
    rw [gg _ (by omega), gg _ (by omega), gg _ (by omega), gg _ (by omega), gg _ (by omega)]
    exact ⟨d0, d1, d2, d3, d4⟩
theorem LV.keep {w w' : World} {tv : Value} {t : List Ev} (h : LV w tv t) (e : ∀ k, tv.ownBlock = some k → w'.heap[k]? = w.heap[k]?) : LV w' tv t := by
  rcases h with h | ⟨g, cap, rfl, hr, hm⟩
  · exact .inl h
  · exact .inr ⟨g, cap, rfl, hr.keep (e g rfl), hm⟩
theorem LV.lt {w : World} {tv : Value} {t : List Ev} (h : LV w tv t) : ∀ k, tv.ownBlock = some k → k < w.heap.size := by
  rcases h with ⟨rfl, _⟩ | ⟨g, cap, rfl, hr, hm⟩
  · intro k hk; cases hk
  · intro k hk; cases hk; exact hr.lt
theorem LV.below {w w' : World} {tv : Value} {t : List Ev} (h : LV w tv t) (hb : Below w.heap.size w w') : LV w' tv t := h.keep fun k hk => hb.block k (h.lt k hk)
theorem LV.shape {w : World} {tv : Value} {t : List Ev} (h : LV w tv t) : ∃ a c, tv = .slice a t.length c ∧ c ≤ maxLen ∧ t.length ≤ c := by
  rcases h with ⟨rfl, rfl⟩ | ⟨g, cap, rfl, hr, hm⟩
  · exact ⟨none, 0, rfl, Nat.zero_le _, Nat.zero_le _⟩
  · exact ⟨_, _, rfl, hm, hr.le⟩
/-- append of some events that lie in another block. -/
theorem run_appendV (w : World) (ty : TypeId) (base : Nat) (hbase : base ≤ w.heap.size) (v : Value) (t : List Ev) (hown : w.ownsRow base 33 5 v t.length (cellsV t)) (b n c : Nat) (m : List Ev) (hn : m.length = n) (hx : ∀ j u, (cellsV m)[j]? = some u → w.cell? ⟨b, j, none⟩ = some u) (hl : t.length + n ≤ 2000000) :
    ∃ v' w', (Builtin.append_ #[24, 24] ty #[v, .slice (some ⟨b, 0, none⟩) n c]).run Tryz.prog w = .ok v' w' ∧ w'.ownsRow base 33 5 v' (t ++ m).length (cellsV (t ++ m)) ∧ w.grownBy w' v.ownBlock ∧ (v' = .slice none 0 0 → v = .slice none 0 0 ∧ m = []) ∧ (v'.ownBlock = v.ownBlock ∨ v'.ownBlock = some w.heap.size) := by
  obtain ⟨i0, hi, hz0, hz1, hz2⟩ := info_parts info_ev
  subst hn
  obtain ⟨v', w', hr, h2, h3, h4, h5⟩ := run_append_own_at (P := Tryz.prog) w base 24 ty 33 i0 _ 5 40 Tryz.underlying24 hi hz0 hz1 hz2 rfl (by decide) v t.length (cellsV t) hown ⟨b, 0, none⟩ m.length c (cellsV m) (cellsV_len m) (fun j u hu => by rw [Addr.add_lit, Nat.zero_add]; exact hx j u hu) (cellsV_one m) (by unfold maxLen; omega) (by omega) hbase
  refine ⟨v', w', hr, ?_, h3, fun h => ?_, h5⟩
  · rw [List.length_append, cellsV_append]; exact h2
  · have := h4.1 h; exact ⟨this.1, List.eq_nil_of_length_eq_zero this.2⟩
end Go.Proofs.YtcjkeobjojmpfaaGreat
