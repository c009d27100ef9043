/-
  ROWS OF ENTRIES that are appended to and cloned; rows of ints cloned.
-/
import Derived.Test.YtecbpohkbniadaaGreatHeapF
import Derived.Deep.DeepMust
import Derived.Test.YtecbpohkbniadaaGreatShelf
namespace Go.Proofs.YtecbpohkbniadaaGreat
open Go.RowKit Go.Shelf

def cellsE (l : List En) : List Value := l.flatMap encE
theorem cellsE_cons (k : En) (l : List En) : cellsE (k :: l) = encE k ++ cellsE l := rfl
theorem cellsE_append (l m : List En) : cellsE (l ++ m) = cellsE l ++ cellsE m := List.flatMap_append
theorem cellsE_len : ∀ l : List En, (cellsE l).length = l.length * 4
  | [] => rfl
  | k :: l => by rw [cellsE_cons, List.length_append, cellsE_len l, List.length_cons]; show 4 + _ = _; omega
theorem cellsE_one (l : List En) : ∀ u ∈ cellsE l, u.oneCell' = true := by
  intro u hu
  obtain ⟨k, _, hk⟩ := List.mem_flatMap.1 hu
  simp only [encE, List.mem_cons, List.not_mem_nil, or_false] at hk
  rcases hk with rfl | rfl | rfl | rfl <;> rfl
theorem cellsE_get : ∀ (l : List En) (j : Nat), j < l.length → (cellsE l)[j * 4]? = some (.int .i64 (en l j).1.1) ∧ (cellsE l)[j * 4 + 1]? = some (.int .i64 (en l j).1.2.1) ∧ (cellsE l)[j * 4 + 2]? = some (.int .i64 (en l j).1.2.2) ∧ (cellsE l)[j * 4 + 3]? = some (.int .i64 ((en l j).2 : Int))
  | [], j, h => by cases h
  | k :: l, 0, _ => ⟨rfl, rfl, rfl, rfl⟩
  | k :: l, j + 1, h => by
    have ih := cellsE_get l j (by simpa using h)
    have e : ∀ r, (cellsE (k :: l))[(j + 1) * 4 + r]? = (cellsE l)[j * 4 + r]? := fun r => by
      rw [cellsE_cons, List.getElem?_append_right (by show 4 ≤ _; omega)]
      congr 1
      show (j + 1) * 4 + r - 4 = _
      omega
    have e0 := e 0
    rw [Nat.add_zero, Nat.add_zero] at e0
    rw [e0, e, e, e]
    exact ih
/-- WHAT A TREE's VALUE IS. -/
def TV (w : World) (tv : Value) (t : List En) : Prop := (tv = .slice none 0 0 ∧ t = []) ∨ ∃ g cap, tv = .slice (some ⟨g, 0, none⟩) t.length cap ∧ ERow w g cap t ∧ cap ≤ maxLen
theorem TV.owns {w : World} {tv : Value} {t : List En} (h : TV w tv t) : w.ownsRow 0 144 4 tv t.length (cellsE t) := by
  rcases h with ⟨rfl, rfl⟩ | ⟨g, cap, rfl, hr, hm⟩
  · exact World.ownsRow_nil _ _ _ _
  · obtain ⟨cur, hc, hs⟩ := hr.blk
    refine ⟨cellsE_len t, .inr ⟨g, cap, cur, rfl, Nat.zero_le _, hc, hr.le, hm, hs, ?_⟩⟩
    apply List.ext_getElem?
    intro j
    by_cases hj : j < t.length * 4
    · have hi : j / 4 < t.length := by omega
      have hle := hr.le
      rw [List.getElem?_take_of_lt hj, Array.getElem?_toList]
      obtain ⟨c0, c1, c2, c3⟩ := hr.cell (j / 4) hi
      obtain ⟨d0, d1, d2, d3⟩ := cellsE_get t (j / 4) hi
      have cc : ∀ i, w.cell? ⟨g, i, none⟩ = cur[i]? := fun i => by simp [World.cell?, hc]
      rw [cc] at c0 c1 c2 c3
      have h4 : j = j / 4 * 4 ∨ j = j / 4 * 4 + 1 ∨ j = j / 4 * 4 + 2 ∨ j = j / 4 * 4 + 3 := by omega
      generalize j / 4 = k at *
      rcases h4 with e | e | e | e
      · rw [e, c0, d0]
      · rw [e, c1, d1]
      · rw [e, c2, d2]
      · rw [e, c3, d3]
    · rw [List.getElem?_eq_none (by rw [List.length_take]; omega), List.getElem?_eq_none (by rw [cellsE_len]; omega)]
theorem TV.of_owns {w : World} {base : Nat} {tv : Value} {t : List En} (h : w.ownsRow base 144 4 tv t.length (cellsE t)) : TV w tv t ∧ ∀ k, tv.ownBlock = some k → base ≤ k := by
  obtain ⟨_, ⟨rfl, h0⟩ | ⟨g, cap, cur, rfl, hb, hc, hn, hm, hs, ht⟩⟩ := h
  · exact ⟨.inl ⟨rfl, List.eq_nil_of_length_eq_zero h0⟩, fun k hk => by cases hk⟩
  · refine ⟨.inr ⟨g, cap, rfl, ⟨⟨cur, hc, hs⟩, hn, fun i hi => ?_⟩, hm⟩, fun k hk => by cases hk; exact hb⟩
    have cc : ∀ i, w.cell? ⟨g, i, none⟩ = cur[i]? := fun i => by simp [World.cell?, hc]
    rw [cc, cc, cc, cc]
    obtain ⟨d0, d1, d2, d3⟩ := cellsE_get t i hi
    have gg : ∀ j, j < t.length * 4 → cur[j]? = (cellsE t)[j]? := fun j hj => by rw [← ht, List.getElem?_take_of_lt hj, Array.getElem?_toList]
    rw [gg _ (by omega), gg _ (by omega), gg _ (by omega), gg _ (by omega)]
    exact ⟨d0, d1, d2, d3⟩
theorem TV.keep {w w' : World} {tv : Value} {t : List En} (h : TV w tv t) (e : ∀ k, tv.ownBlock = some k → w'.heap[k]? = w.heap[k]?) : TV w' tv t := by
  rcases h with h | ⟨g, cap, rfl, hr, hm⟩
  · exact .inl h
  · exact .inr ⟨g, cap, rfl, hr.keep (e g rfl), hm⟩
theorem TV.lt {w : World} {tv : Value} {t : List En} (h : TV w tv t) : ∀ k, tv.ownBlock = some k → k < w.heap.size := by
  rcases h with ⟨rfl, _⟩ | ⟨g, cap, rfl, hr, hm⟩
  · intro k hk; cases hk
  · intro k hk; cases hk; exact hr.lt
theorem TV.below {w w' : World} {tv : Value} {t : List En} (h : TV w tv t) (hb : Below w.heap.size w w') : TV w' tv t := h.keep fun k hk => hb.block k (h.lt k hk)
theorem TV.shape {w : World} {tv : Value} {t : List En} (h : TV w tv t) : ∃ a c, tv = .slice a t.length c ∧ c ≤ maxLen ∧ t.length ≤ c := by
  rcases h with ⟨rfl, rfl⟩ | ⟨g, cap, rfl, hr, hm⟩
  · exact ⟨none, 0, rfl, Nat.zero_le _, Nat.zero_le _⟩
  · exact ⟨_, _, rfl, hm, hr.le⟩
/-- append of some entries that lie in another block. -/
theorem run_appendE (w : World) (ty : TypeId) (base : Nat) (hbase : base ≤ w.heap.size) (v : Value) (t : List En) (hown : w.ownsRow base 144 4 v t.length (cellsE t)) (b n c : Nat) (m : List En) (hn : m.length = n) (hx : ∀ j u, (cellsE m)[j]? = some u → w.cell? ⟨b, j, none⟩ = some u) (hl : t.length + n ≤ 2000000) :
    ∃ v' w', (Builtin.append_ #[145, 145] ty #[v, .slice (some ⟨b, 0, none⟩) n c]).run Tryz.prog w = .ok v' w' ∧ w'.ownsRow base 144 4 v' (t ++ m).length (cellsE (t ++ m)) ∧ w.grownBy w' v.ownBlock ∧ (v' = .slice none 0 0 → v = .slice none 0 0 ∧ m = []) ∧ (v'.ownBlock = v.ownBlock ∨ v'.ownBlock = some w.heap.size) := by
  obtain ⟨i0, hi, hz0, hz1, hz2⟩ := info_parts info_entry
  subst hn
  obtain ⟨v', w', hr, h2, h3, h4, h5⟩ := run_append_own_at (P := Tryz.prog) w base 145 ty 144 i0 _ 4 32 Tryz.underlying145 hi hz0 hz1 hz2 rfl (by decide) v t.length (cellsE t) hown ⟨b, 0, none⟩ m.length c (cellsE m) (cellsE_len m) (fun j u hu => by rw [Addr.add_lit, Nat.zero_add]; exact hx j u hu) (cellsE_one m) (by unfold maxLen; omega) (by omega) hbase
  refine ⟨v', w', hr, ?_, h3, fun h => ?_, h5⟩
  · rw [List.length_append, cellsE_append]; exact h2
  · have := h4.1 h; exact ⟨this.1, List.eq_nil_of_length_eq_zero this.2⟩
end Go.Proofs.YtecbpohkbniadaaGreat
