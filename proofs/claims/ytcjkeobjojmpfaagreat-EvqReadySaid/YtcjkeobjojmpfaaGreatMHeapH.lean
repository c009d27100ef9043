import Derived.Test.YtcjkeobjojmpfaaGreatMHeapF
import Derived.Deep.DeepMust
import Derived.Test.YtcjkeobjojmpfaaGreatMShelf
section
/-
  ROWS OF ENTRIES that are appended to and cloned; rows of ints cloned.
-/
namespace Go.Proofs.YtcjkeobjojmpfaaGreat
open Go.RowKit Go.Shelf

def cellsE (l : List En) : List Value := l.flatMap encE
theorem cellsE_cons (k : En) (l : List En) : cellsE (k :: l) = encE k ++ cellsE l := rfl
theorem cellsE_append (l m : List En) : cellsE (l ++ m) = cellsE l ++ cellsE m := List.flatMap_append
theorem cellsE_len : ∀ l : List En, (cellsE l).length = l.length * 4
  | [] => rfl
  | k :: l => by rw [cellsE_cons, List.length_append, cellsE_len l, List.length_cons]; show 4 + _ = _; omega
theorem cellsE_one (l : List En) : ∀ u ∈ cellsE l, u.oneCell' = true := by
  intro u hu
  obtain ⟨k, _, hk⟩ := List.mem_flatMap.1 hu
  simp only [encE, List.mem_cons, List.not_mem_nil, or_false] at hk
  rcases hk with rfl | rfl | rfl | rfl <;> rfl
theorem cellsE_get : ∀ (l : List En) (j : Nat), j < l.length → (cellsE l)[j * 4]? = some (.int .i64 (en l j).1.1) ∧ (cellsE l)[j * 4 + 1]? = some (.int .i64 (en l j).1.2.1) ∧ (cellsE l)[j * 4 + 2]? = some (.int .i64 (en l j).1.2.2) ∧ (cellsE l)[j * 4 + 3]? = some (.int .i64 ((en l j).2 : Int))
  | [], j, h => by cases h
  | k :: l, 0, _ => ⟨rfl, rfl, rfl, rfl⟩
  | k :: l, j + 1, h => by
    have ih := cellsE_get l j (by simpa using h)
    have e : ∀ r, (cellsE (k :: l))[(j + 1) * 4 + r]? = (cellsE l)[j * 4 + r]? := fun r => by
      rw [cellsE_cons, List.getElem?_append_right (by show 4 ≤ _; omega)]
      congr 1
      show (j + 1) * 4 + r - 4 = _
      omega
    have e0 := e 0
    rw [Nat.add_zero, Nat.add_zero] at e0
    rw [e0, e, e, e]
    exact ih
/-- WHAT A TREE's VALUE IS. -/
def TV (w : World) (tv : Value) (t : List En) : Prop := (tv = .slice none 0 0 ∧ t = []) ∨ ∃ g cap, tv = .slice (some ⟨g, 0, none⟩) t.length cap ∧ ERow w g cap t ∧ cap ≤ maxLen
theorem TV.owns {w : World} {tv : Value} {t : List En} (h : TV w tv t) : w.ownsRow 0 117 4 tv t.length (cellsE t) := by
  rcases h with ⟨rfl, rfl⟩ | ⟨g, cap, rfl, hr, hm⟩
  · exact World.ownsRow_nil _ _ _ _
  · obtain ⟨cur, hc, hs⟩ := hr.blk
    refine ⟨cellsE_len t, .inr ⟨g, cap, cur, rfl, Nat.zero_le _, hc, hr.le, hm, hs, ?_⟩⟩
    apply List.ext_getElem?
    intro j
    by_cases hj : j < t.length * 4
    · have hi : j / 4 < t.length := by omega
      have hle := hr.le
      rw [List.getElem?_take_of_lt hj, Array.getElem?_toList]
      obtain ⟨c0, c1, c2, c3⟩ := hr.cell (j / 4) hi
      obtain ⟨d0, d1, d2, d3⟩ := cellsE_get t (j / 4) hi
      have cc : ∀ i, w.cell? ⟨g, i, none⟩ = cur[i]? := fun i => by simp [World.cell?, hc]
      rw [cc] at c0 c1 c2 c3
      have h4 : j = j / 4 * 4 ∨ j = j / 4 * 4 + 1 ∨ j = j / 4 * 4 + 2 ∨ j = j / 4 * 4 + 3 := by omega
      generalize j / 4 = k at *
      rcases h4 with e | e | e | e
      · rw [e, c0, d0]
      · rw [e, c1, d1]
      · rw [e, c2, d2]
      · rw [e, c3, d3]
    · rw [List.getElem?_eq_none (by rw [List.length_take]; omega), List.getElem?_eq_none (by rw [cellsE_len]; omega)]
theorem TV.of_owns {w : World} {base : Nat} {tv : Value} {t : List En} (h : w.ownsRow base 117 4 tv t.length (cellsE t)) : TV w tv t ∧ ∀ k, tv.ownBlock = some k → base ≤ k := by
  obtain ⟨_, ⟨rfl, h0⟩ | ⟨g, cap, cur, rfl, hb, hc, hn, hm, hs, ht⟩⟩ := h
  · exact ⟨.inl ⟨rfl, List.eq_nil_of_length_eq_zero h0⟩, fun k hk => by cases hk⟩
  · refine ⟨.inr ⟨g, cap, rfl, ⟨⟨cur, hc, hs⟩, hn, fun i hi => ?_⟩, hm⟩, fun k hk => by cases hk; exact hb⟩
    have cc : ∀ i, w.cell? ⟨g, i, none⟩ = cur[i]? := fun i => by simp [World.cell?, hc]
    rw [cc, cc, cc, cc]
    obtain ⟨d0, d1, d2, d3⟩ := cellsE_get t i hi
    have gg : ∀ j, j < t.length * 4 → cur[j]? = (cellsE t)[j]? := fun j hj => by rw [← ht, List.getElem?_take_of_lt hj, Array.getElem?_toList]
    rw [gg _ (by omega), gg _ (by omega), gg _ (by omega), gg _ (by omega)]
    exact ⟨d0, d1, d2, d3⟩
theorem TV.keep {w w' : World} {tv : Value} {t : List En} (h : TV w tv t) (e : ∀ k, tv.ownBlock = some k → w'.heap[k]? = w.heap[k]?) : TV w' tv t := by
  rcases h with h | ⟨g, cap, rfl, hr, hm⟩
  · exact .inl h
  · exact .inr ⟨g, cap, rfl, hr.keep (e g rfl), hm⟩
theorem TV.lt {w : World} {tv : Value} {t : List En} (h : TV w tv t) : ∀ k, tv.ownBlock = some k → k < w.heap.size := by
  rcases h with ⟨rfl, _⟩ | ⟨g, cap, rfl, hr, hm⟩
  · intro k hk; cases hk
  · intro k hk; cases hk; exact hr.lt
theorem TV.below {w w' : World} {tv : Value} {t : List En} (h : TV w tv t) (hb : Below w.heap.size w w') : TV w' tv t := h.keep fun k hk => hb.block k (h.lt k hk)
theorem TV.shape {w : World} {tv : Value} {t : List En} (h : TV w tv t) : ∃ a c, tv = .slice a t.length c ∧ c ≤ maxLen ∧ t.length ≤ c := by
  rcases h with ⟨rfl, rfl⟩ | ⟨g, cap, rfl, hr, hm⟩
  · exact ⟨none, 0, rfl, Nat.zero_le _, Nat.zero_le _⟩
  · exact ⟨_, _, rfl, hm, hr.le⟩
/-- append of some entries that lie in another block. -/
theorem run_appendE (w : World) (ty : TypeId) (base : Nat) (hbase : base ≤ w.heap.size) (v : Value) (t : List En) (hown : w.ownsRow base 117 4 v t.length (cellsE t)) (b n c : Nat) (m : List En) (hn : m.length = n) (hx : ∀ j u, (cellsE m)[j]? = some u → w.cell? ⟨b, j, none⟩ = some u) (hl : t.length + n ≤ 2000000) :
    ∃ v' w', (Builtin.append_ #[118, 118] ty #[v, .slice (some ⟨b, 0, none⟩) n c]).run Tryz.prog w = .ok v' w' ∧ w'.ownsRow base 117 4 v' (t ++ m).length (cellsE (t ++ m)) ∧ w.grownBy w' v.ownBlock ∧ (v' = .slice none 0 0 → v = .slice none 0 0 ∧ m = []) ∧ (v'.ownBlock = v.ownBlock ∨ v'.ownBlock = some w.heap.size) := by
  obtain ⟨i0, hi, hz0, hz1, hz2⟩ := info_parts info_entry
  subst hn
  obtain ⟨v', w', hr, h2, h3, h4, h5⟩ := run_append_own_at (P := Tryz.prog) w base 118 ty 117 i0 _ 4 32 Tryz.underlying118 hi hz0 hz1 hz2 rfl (by decide) v t.length (cellsE t) hown ⟨b, 0, none⟩ m.length c (cellsE m) (cellsE_len m) (fun j u hu => by rw [Addr.add_lit, Nat.zero_add]; exact hx j u hu) (cellsE_one m) (by unfold maxLen; omega) (by omega) hbase
  refine ⟨v', w', hr, ?_, h3, fun h => ?_, h5⟩
  · rw [List.length_append, cellsE_append]; exact h2
  · have := h4.1 h; exact ⟨this.1, List.eq_nil_of_length_eq_zero this.2⟩
end Go.Proofs.YtcjkeobjojmpfaaGreat
end

section
/-
  A HEAP, whether its tree has a block or none; what a call leaves of it.
-/
namespace Go.Proofs.YtcjkeobjojmpfaaGreat
open Go.RowKit Go.Shelf

/-- A HEAP: its own block, its tree, its indexes. -/
structure HD (w : World) (q : Nat) (tv : Value) (x xc n : Nat) (t : List En) (ix : Nat → Int) : Prop where
  own : Own w q tv (.slice (some ⟨x, 0, none⟩) n xc)
  tree : TV w tv t
  index : XRow w x n ix
  ne : q ≠ x ∧ tv.ownBlock ≠ some q ∧ tv.ownBlock ≠ some x
  caps : n ≤ xc ∧ xc ≤ maxLen ∧ n ≤ 4096
  agr : Agr n t ix
/-- Its blocks. -/
def Foot (q : Nat) (tv : Value) (x : Nat) (k : Nat) : Prop := k = q ∨ tv.ownBlock = some k ∨ k = x
theorem HD.lt {w : World} {q : Nat} {tv : Value} {x xc n : Nat} {t : List En} {ix : Nat → Int} (h : HD w q tv x xc n t ix) : ∀ k, Foot q tv x k → k < w.heap.size := by
  rintro k (rfl | e | rfl)
  · exact (Array.getElem?_eq_some_iff.1 h.own).1
  · exact h.tree.lt k e
  · exact h.index.lt
theorem HD.keep {w w' : World} {q : Nat} {tv : Value} {x xc n : Nat} {t : List En} {ix : Nat → Int} (h : HD w q tv x xc n t ix) (e : ∀ k, Foot q tv x k → w'.heap[k]? = w.heap[k]?) : HD w' q tv x xc n t ix :=
  ⟨(e q (.inl rfl)).trans h.own, h.tree.keep fun k hk => e k (.inr (.inl hk)), h.index.keep (e x (.inr (.inr rfl))), h.ne, h.caps, h.agr⟩
theorem HD.below {w w' : World} {q : Nat} {tv : Value} {x xc n : Nat} {t : List En} {ix : Nat → Int} (h : HD w q tv x xc n t ix) (hb : Below w.heap.size w w') : HD w' q tv x xc n t ix :=
  h.keep fun k hk => hb.block k (h.lt k hk)
theorem HB.hd {w : World} {q g x cap xc n : Nat} {t : List En} {ix : Nat → Int} (h : HB w q g x cap xc n t ix) : HD w q (.slice (some ⟨g, 0, none⟩) t.length cap) x xc n t ix :=
  ⟨h.own, .inr ⟨g, cap, rfl, h.tree, h.caps.1⟩, h.index, ⟨h.ne.2.1, fun e => h.ne.1 (by simp [Value.ownBlock] at e; exact e.symm), fun e => h.ne.2.2 (by simp [Value.ownBlock] at e; exact e)⟩, h.caps.2, h.agr⟩
theorem HD.hb {w : World} {q : Nat} {tv : Value} {x xc n : Nat} {t : List En} {ix : Nat → Int} (h : HD w q tv x xc n t ix) (ht : 0 < t.length) : ∃ g cap, tv = .slice (some ⟨g, 0, none⟩) t.length cap ∧ HB w q g x cap xc n t ix := by
  obtain ⟨h1, h2, h3, ⟨n1, n2, n3⟩, h5, h6⟩ := h
  rcases h2 with ⟨_, rfl⟩ | ⟨g, cap, rfl, hr, hm⟩
  · cases ht
  · exact ⟨g, cap, rfl, h1, hr, h3, ⟨fun e => n2 (by rw [e]; rfl), n1, fun e => n3 (by rw [e]; rfl)⟩, ⟨hm, h5⟩, h6⟩
/-- THE POINTER q IS A HEAP with the capacity n, with what M says, in the blocks F. -/
structure HA (w : World) (q : Nat) (F : Nat → Prop) (n : Nat) (M : Mp) : Prop where
  ex : ∃ tv x xc t ix, HD w q tv x xc n t ix ∧ HOrd t ∧ Has t M ∧ ∀ k, F k ↔ Foot q tv x k
theorem HA.lt {w : World} {q : Nat} {F : Nat → Prop} {n : Nat} {M : Mp} (h : HA w q F n M) : ∀ k, F k → k < w.heap.size := by
  obtain ⟨tv, x, xc, t, ix, hd, _, _, hF⟩ := h.ex
  exact fun k hk => hd.lt k ((hF k).1 hk)
theorem HA.keep {w w' : World} {q : Nat} {F : Nat → Prop} {n : Nat} {M : Mp} (h : HA w q F n M) (e : ∀ k, F k → w'.heap[k]? = w.heap[k]?) : HA w' q F n M := by
  obtain ⟨tv, x, xc, t, ix, hd, h1, h2, hF⟩ := h.ex
  exact ⟨tv, x, xc, t, ix, hd.keep fun k hk => e k ((hF k).2 hk), h1, h2, hF⟩
theorem HA.below {w w' : World} {q : Nat} {F : Nat → Prop} {n : Nat} {M : Mp} (h : HA w q F n M) (hb : Below w.heap.size w w') : HA w' q F n M := h.keep fun k hk => hb.block k (h.lt k hk)
theorem HA.off {w w' : World} {q : Nat} {F G : Nat → Prop} {n : Nat} {M : Mp} (h : HA w q F n M) (hb : Off G w w') (hd : ∀ k, F k → ¬ G k) : HA w' q F n M := h.keep fun k hk => hb.block k (h.lt k hk) (hd k hk)
theorem HA.self {w : World} {q : Nat} {F : Nat → Prop} {n : Nat} {M : Mp} (h : HA w q F n M) : F q := by
  obtain ⟨tv, x, xc, t, ix, hd, h1, h2, hF⟩ := h.ex
  exact (hF q).2 (.inl rfl)
theorem HA.congr {w : World} {q : Nat} {F : Nat → Prop} {n : Nat} {M N : Mp} (h : HA w q F n M) (e : ∀ p, M p = N p) : HA w q F n N := by
  have : M = N := funext e
  rw [← this]; exact h
/-- WHAT A CALL LEAVES OF A HEAP. -/
structure HStep (w w' : World) (q : Nat) (F : Nat → Prop) (n : Nat) (M' : Mp) : Prop where
  ex : ∃ F', HA w' q F' n M' ∧ Off F w w' ∧ ∀ k, F' k → F k ∨ w.heap.size ≤ k
theorem HStep.same {w w' : World} {q : Nat} {F : Nat → Prop} {n : Nat} {M : Mp} (h : HA w q F n M) (hb : Below w.heap.size w w') : HStep w w' q F n M :=
  ⟨F, h.below hb, Off.of_below hb, fun _ hk => .inl hk⟩
/-- Out of what is done with a heap whose tree has a block. -/
theorem HStep.of_hb {w w' : World} {q g x cap xc n : Nat} {F : Nat → Prop} {m0 : Nat} {t' : List En} {ix' : Nat → Int} {M' : Mp} (hF : ∀ k, F k ↔ Foot q (.slice (some ⟨g, 0, none⟩) m0 cap) x k) (h : HB w' q g x cap xc n t' ix') (ho : HOrd t') (hm : Has t' M') (hO : Off (Q3 q g x) w w') : HStep w w' q F n M' := by
  have e : ∀ k, Q3 q g x k ↔ F k := fun k => by
    rw [hF]
    constructor
    · rintro (rfl | rfl | rfl)
      · exact .inl rfl
      · exact .inr (.inl rfl)
      · exact .inr (.inr rfl)
    · rintro (rfl | e | rfl)
      · exact .inl rfl
      · exact .inr (.inl (by simp [Value.ownBlock] at e; exact e.symm))
      · exact .inr (.inr rfl)
  refine ⟨F, ⟨_, x, xc, t', ix', h.hd, ho, hm, fun k => (hF k).trans ?_⟩, hO.weaken fun k _ hk => (e k).1 hk, fun k hk => .inl hk⟩
  exact Iff.rfl
theorem HD.cells {w : World} {q : Nat} {tv : Value} {x xc n : Nat} {t : List En} {ix : Nat → Int} (h : HD w q tv x xc n t ix) : w.cell? ⟨q, 0, none⟩ = some tv ∧ w.cell? ⟨q, 1, none⟩ = some (.slice (some ⟨x, 0, none⟩) n xc) ∧ w.cell? ⟨q, 2, none⟩ = some (.bool true) ∧ ∀ i, w.frozen? ⟨q, i, none⟩ = false := own_cells h.own

/-- WHAT AN APPEND TO A TREE LEAVES. -/
structure AppE (w w' : World) (q : Nat) (tv v' : Value) (x n : Nat) (t : List En) (ix : Nat → Int) : Prop where
  tree : TV w' v' t
  nn : v' ≠ .slice none 0 0
  index : XRow w' x n ix
  blk : v'.ownBlock = tv.ownBlock ∨ ∃ g, v'.ownBlock = some g ∧ w.heap.size ≤ g
  off : Off (Foot q tv x) w w'
theorem AppE.stored {w w' : World} {q : Nat} {tv v' : Value} {x n : Nat} {t : List En} {ix : Nat → Int} (h : AppE w w' q tv v' x n t ix) (u : Value) (hne : q ≠ x ∧ tv.ownBlock ≠ some q ∧ tv.ownBlock ≠ some x) (hq : q < w.heap.size) : AppE w (w'.setCell ⟨q, 0, none⟩ u) q tv v' x n t ix :=
  ⟨h.tree.keep fun k hk => heap_setO _ _ _ (fun e => by
      subst e
      rcases h.blk with e | ⟨g, e, hg⟩
      · exact hne.2.1 (e.symm.trans hk)
      · rw [hk] at e; cases e; omega), h.nn, h.index.away (Ne.symm hne.1) _ _, h.blk, h.off.set (.inl (.inl rfl)) _ _⟩
theorem own_set {w : World} {q : Nat} {tv iv : Value} (h : Own w q tv iv) (u : Value) : Own (w.setCell ⟨q, 0, none⟩ u) q u iv := by
  have := heap_setC h 0 u
  simpa using this
theorem wpOpIn_appendE {F : Fence} {n : Nat} {ops : Array Oper} {Q : Exit → Act → World → Prop} {i : Nat} {o : Oper} {K : Act → World → Prop} {a : Act} {w w' : World} {v xv v' : Value} (ho : ops[i]? = some o) (hgd : o.guard = none) (s x : Operand)
    (hop : o.op = .call { callee := .builtin .append, args := #[s, x], argTypes := #[118, 118] })
    (hs : a.eval s = v) (hx : a.eval x = xv) (hr : (Builtin.append_ #[118, 118] o.type #[v, xv]).run Tryz.prog w = .ok v' w') (h : K (a.put o.dst v') w') : wpOpIn F n Tryz.prog ops Q i K a w := by
  refine wpOpIn_step ho ?_
  intro K' hK'
  rw [if_pos (by simp [Region.wanted, hgd])]
  refine ⟨fun f hf => ?_, ?_⟩
  · simp [Oper.about, hop, resolve, Target.leads] at hf
  · rw [Oper.semAt_eq _ _ _ (by rw [hop]; intro c h; cases h)]
    unfold execOp
    simp only [hop, resolve, invoke, builtin, Sem.run_bind, Sem.run_pure, Result.andThen_ok, List.map_toArray, List.map_cons, List.map_nil, hs, hx, hr]
    exact hK' _ _ h

set_option maxRecDepth 100000 in
set_option maxHeartbeats 4000000 in
/-- Put, of a place that is not there. -/
theorem put_ok {w : World} {q : Nat} {F : Nat → Prop} {n : Nat} {M : Mp} (h : HA w q F n M) (p : Nat) (hp : p < n) (hM : M p = none) (k : Ky) :
    Calls Tryz.prog 64 #[.pointer (some ⟨q, 0, none⟩), .int .i64 (p : Int), .agg #[.int .i64 k.1, .int .i64 k.2.1, .int .i64 k.2.2]] w fun e w' => e = .returned (.int .i64 0) ∧ HStep w w' q F n (updM M p (some k)) := by
  obtain ⟨tv, x, xc, t, ix, hd, ho, hm, hF⟩ := h.ex
  have hix : ix p = -1 := by
    rcases hm.at hd.agr hp with e | ⟨i, _, _, _, e⟩
    · exact e.1
    · rw [hM] at e; cases e
  have HD0 := Lib.hid hd
  have hb1 : Below w.heap.size w (w.alloc (.cells #[.int .i64 k.1, .int .i64 k.2.1, .int .i64 k.2.2] 31)) := (Below.refl _ w).alloc (Nat.le_refl _) _
  have hd1 := hd.below hb1
  have HFn := Lib.hid (find_none hd1.own hd1.index p hp hix)
  obtain ⟨c0, c1, -, -⟩ := hd1.cells
  obtain ⟨ta, tc, rfl, htc, htl⟩ := hd.tree.shape
  have HD1 := Lib.hid hd1
  have HB1 := Lib.hid hb1
  have HO := Lib.hid ho; have HM := Lib.hid hm; have HF := Lib.hid hF
  have HX := Lib.hid hix
  have HMp := Lib.hid hM
  have hkb : (w.alloc (.cells #[.int .i64 k.1, .int .i64 k.2.1, .int .i64 k.2.2] 31)).heap[w.heap.size]? = some (.cells #[.int .i64 k.1, .int .i64 k.2.1, .int .i64 k.2.2] 31 (0, 0)) := World.alloc_heap_new w _
  obtain ⟨W1, hW1⟩ : ∃ W1, W1 = w.alloc (.cells #[.int .i64 k.1, .int .i64 k.2.1, .int .i64 k.2.2] 31) := ⟨_, rfl⟩
  rw [← hW1] at HFn c0 c1 HD1 HB1 hkb
  have HKb := Lib.hid hkb
  have HW1 := Lib.hid hW1
  clear h hd ho hm hF hb1 hd1 hix hM hkb hW1
  go_enter Tryz.func64, Tryz.ntmps64
  go_upto_region 8 with (go_at_call 81; rw [← HW1.out]; refine HFn.out.mono ?_; rintro e w2 ⟨rfl, rfl⟩)
  go_cut [] from 27 to 38 (fun wx => ∃ va vc, AppE W1 wx q (.slice ta t.length tc) (.slice va (t.length + 1) vc) x n (t ++ [(k, p)]) ix ∧ Own wx q (.slice va (t.length + 1) vc) (.slice (some ⟨x, 0, none⟩) n xc))
  case first =>
    have HLen := Lib.hid (show t.length + 1 ≤ 2000000 by have := HD1.out.agr.len; have := HD1.out.caps.2.2; omega)
    refine (wpIn_wide (n := 5)).1 ?_
    refine wpIn_region_inv (by kernel_rfl) (by kernel_rfl) (fun B a wc => ∃ (pe : Nat) (va : Option Addr) (vc : Nat), a = { tmps := #[.pointer (some ⟨q, 0, none⟩), .int .i64 (p : Int), .agg #[.int .i64 k.1, .int .i64 k.2.1, .int .i64 k.2.2], undef, undef, .pointer (some ⟨w.heap.size, 0, none⟩), .int .i64 0, .int .i64 0, .int .i64 6, .int .i64 (t.length : Int), .tuple #[.int .i64 0, .int .i64 6], .pointer (some ⟨q, 0, none⟩), .int .i64 (p : Int), .tuple #[.int .i64 0, .int .i64 6], .int .i64 0, .int .i64 6, .int .i64 6, undef, .bool false, .bool false, .bool true, .bool true, .pointer (some ⟨q, 0, none⟩), .pointer (some ⟨q, 0, none⟩), .pointer (some ⟨q, 0, none⟩), .slice ta t.length tc, .int .i64 (t.length : Int), bif B 0 then .pointer (some ⟨q, 0, none⟩) else undef, bif B 1 then .pointer (some ⟨q, 0, none⟩) else undef, bif B 2 then .pointer (some ⟨q, 0, none⟩) else undef, bif B 3 then .pointer (some ⟨q, 0, none⟩) else undef, bif B 4 then .slice ta t.length tc else undef, bif B 5 then .agg #[.int .i64 k.1, .int .i64 k.2.1, .int .i64 k.2.2] else undef, bif B 6 then .int .i64 (p : Int) else undef, bif B 7 then .agg #[.int .i64 k.1, .int .i64 k.2.1, .int .i64 k.2.2, .int .i64 (p : Int)] else undef, bif B 8 then .slice (some ⟨pe, 0, none⟩) 1 1 else undef, bif B 9 then .slice va (t.length + 1) vc else undef, bif B 10 then .pointer (some ⟨q, 0, none⟩) else undef, bif B 11 then .pointer (some ⟨q, 0, none⟩) else undef, undef, undef, undef, undef, undef, undef, undef, undef, undef, undef], defers := [] } ∧ (B 9 = false → Below W1.heap.size W1 wc) ∧ (B 8 = true → B 9 = false → wc.heap[pe]? = some (.cells #[.int .i64 k.1, .int .i64 k.2.1, .int .i64 k.2.2, .int .i64 (p : Int)] 117 (0, 0))) ∧ (B 9 = true → AppE W1 wc q (.slice ta t.length tc) (.slice va (t.length + 1) vc) x n (t ++ [(k, p)]) ix) ∧ (B 12 = false → Own wc q (.slice ta t.length tc) (.slice (some ⟨x, 0, none⟩) n xc)) ∧ (B 12 = true → Own wc q (.slice va (t.length + 1) vc) (.slice (some ⟨x, 0, none⟩) n xc))) ?init ?step ?fin
    case init => exact ⟨0, none, 0, rfl, fun _ => (Below.refl _ _).drew, fun h => by simp at h, fun h => by simp at h, fun _ => HD1.out.own, fun h => by simp at h⟩
    case step =>
      intro B j a wc hj hbj hcl hw hI K hK
      obtain ⟨pe, va, vc, rfl, h1, h2, h3, h4, h5⟩ := hI
      have hj : j < 13 := hj
      have q9 : B 9 = true → B 4 = true ∧ B 8 = true := fun h => by have := hcl 9 (by decide) h; simpa [waits, Region.binds] using this
      have q8 : B 8 = true → B 7 = true := fun h => by have := hcl 8 (by decide) h; simpa [waits, Region.binds] using this
      have q7 : B 7 = true → B 5 = true := fun h => by have := hcl 7 (by decide) h; simp [waits, Region.binds] at this; exact this.1
      have q12 : B 12 = true → B 9 = true := fun h => by have := hcl 12 (by decide) h; simp [waits, Region.binds] at this; exact this.2.1
      clear hcl
      obtain rfl | rfl | rfl | rfl | rfl | rfl | rfl | rfl | rfl | rfl | rfl | rfl | rfl : j = 0 ∨ j = 1 ∨ j = 2 ∨ j = 3 ∨ j = 4 ∨ j = 5 ∨ j = 6 ∨ j = 7 ∨ j = 8 ∨ j = 9 ∨ j = 10 ∨ j = 11 ∨ j = 12 := by omega
      all_goals (simp [waits, Region.binds] at hw)
      · skip
        simp only [hbj, cond_false]
        refine wpOpIn_step rfl ?_
        intro K' hK'
        go_simp
        exact hK' _ _ (hK _ _ ⟨pe, va, vc, by simp [upd], by simpa [upd] using h1, by simpa [upd] using h2, by simpa [upd] using h3, by simpa [upd] using h4, by simpa [upd] using h5⟩)
      · skip
        simp only [hbj, cond_false]
        refine wpOpIn_step rfl ?_
        intro K' hK'
        go_simp
        exact hK' _ _ (hK _ _ ⟨pe, va, vc, by simp [upd], by simpa [upd] using h1, by simpa [upd] using h2, by simpa [upd] using h3, by simpa [upd] using h4, by simpa [upd] using h5⟩)
      · skip
        simp only [hbj, hw, cond_true, cond_false]
        refine wpOpIn_step rfl ?_
        intro K' hK'
        go_simp
        exact hK' _ _ (hK _ _ ⟨pe, va, vc, by simp [upd, hw], by simpa [upd] using h1, by simpa [upd] using h2, by simpa [upd] using h3, by simpa [upd] using h4, by simpa [upd] using h5⟩)
      · skip
        simp only [hbj, hw, cond_true, cond_false]
        refine wpOpIn_step rfl ?_
        intro K' hK'
        go_simp
        exact hK' _ _ (hK _ _ ⟨pe, va, vc, by simp [upd, hw], by simpa [upd] using h1, by simpa [upd] using h2, by simpa [upd] using h3, by simpa [upd] using h4, by simpa [upd] using h5⟩)
      · have h9 : B 9 = false := by
          cases c : B 9 with
          | false => rfl
          | true => exact absurd hbj (by rw [(q9 c).1]; decide)
        have hB := h1 h9
        have c0 := (HD1.out.below hB).cells.1
        have cK : ∀ i, wc.cell? ⟨w.heap.size, i, none⟩ = W1.cell? ⟨w.heap.size, i, none⟩ := fun i => cell_blk (hB.block _ (Array.getElem?_eq_some_iff.1 HKb.out).1) i
        have k0 : wc.cell? ⟨w.heap.size, 0, none⟩ = some (.int .i64 k.1) := by rw [cK]; simp [World.cell?, HKb.out]
        have k1 : wc.cell? ⟨w.heap.size, 1, none⟩ = some (.int .i64 k.2.1) := by rw [cK]; simp [World.cell?, HKb.out]
        have k2 : wc.cell? ⟨w.heap.size, 2, none⟩ = some (.int .i64 k.2.2) := by rw [cK]; simp [World.cell?, HKb.out]
        clear cK
        simp only [hbj, hw, cond_true, cond_false]
        refine wpOpIn_step rfl ?_
        intro K' hK'
        go_simp
        exact hK' _ _ (hK _ _ ⟨pe, va, vc, by simp [upd, hw, h9], by simpa [upd] using h1, by simpa [upd] using h2, by simpa [upd] using h3, by simpa [upd] using h4, by simpa [upd] using h5⟩)
      · have h9 : B 9 = false := by
          cases c : B 9 with
          | false => rfl
          | true => exact absurd hbj (by rw [q7 (q8 (q9 c).2)]; decide)
        have hB := h1 h9
        have c0 := (HD1.out.below hB).cells.1
        have cK : ∀ i, wc.cell? ⟨w.heap.size, i, none⟩ = W1.cell? ⟨w.heap.size, i, none⟩ := fun i => cell_blk (hB.block _ (Array.getElem?_eq_some_iff.1 HKb.out).1) i
        have k0 : wc.cell? ⟨w.heap.size, 0, none⟩ = some (.int .i64 k.1) := by rw [cK]; simp [World.cell?, HKb.out]
        have k1 : wc.cell? ⟨w.heap.size, 1, none⟩ = some (.int .i64 k.2.1) := by rw [cK]; simp [World.cell?, HKb.out]
        have k2 : wc.cell? ⟨w.heap.size, 2, none⟩ = some (.int .i64 k.2.2) := by rw [cK]; simp [World.cell?, HKb.out]
        clear cK
        simp only [hbj, cond_false]
        refine wpOpIn_step rfl ?_
        intro K' hK'
        go_simp
        exact hK' _ _ (hK _ _ ⟨pe, va, vc, by simp [upd, h9], by simpa [upd] using h1, by simpa [upd] using h2, by simpa [upd] using h3, by simpa [upd] using h4, by simpa [upd] using h5⟩)
      · skip
        simp only [hbj, cond_false]
        refine wpOpIn_step rfl ?_
        intro K' hK'
        go_simp
        exact hK' _ _ (hK _ _ ⟨pe, va, vc, by simp [upd], by simpa [upd] using h1, by simpa [upd] using h2, by simpa [upd] using h3, by simpa [upd] using h4, by simpa [upd] using h5⟩)
      · skip
        simp only [hbj, hw, cond_true, cond_false]
        refine wpOpIn_step rfl ?_
        intro K' hK'
        go_simp
        exact hK' _ _ (hK _ _ ⟨pe, va, vc, by simp [upd, hw], by simpa [upd] using h1, by simpa [upd] using h2, by simpa [upd] using h3, by simpa [upd] using h4, by simpa [upd] using h5⟩)
      · have h9 : B 9 = false := by
          cases c : B 9 with
          | false => rfl
          | true => exact absurd hbj (by rw [(q9 c).2]; decide)
        have hB := h1 h9
        have hba := (Below.refl wc.heap.size wc).alloc (Nat.le_refl _) (.cells #[.int .i64 k.1, .int .i64 k.2.1, .int .i64 k.2.2, .int .i64 (p : Int)] 117 (0, 0))
        simp only [hbj, hw, cond_true, cond_false]
        refine wpOpIn_step rfl ?_
        intro K' hK'
        go_simp
        exact hK' _ _ (hK _ _ ⟨wc.heap.size, va, vc, by simp [upd, h9, q7 hw, hw], fun _ => hB.trans (hba.mono hB.size), fun _ _ => World.alloc_heap_new wc _, fun h => by simp [upd, h9] at h, fun h => (hba.block q ((HD1.out.below hB).lt q (.inl rfl))).trans (h4 (by simpa [upd] using h)), fun h => (hba.block q ((HD1.out.below hB).lt q (.inl rfl))).trans (h5 (by simpa [upd] using h))⟩)
      · have hB := h1 hbj
        have hbx := h2 hw.2 hbj
        have hown := (HD1.out.below hB).tree.owns
        obtain ⟨v2, w2, hr, g1, g2, g3, g4⟩ := run_appendE wc 118 0 (Nat.zero_le _) _ t hown pe 1 1 [(k, p)] rfl (fun j u hu => by
          have e : wc.cell? ⟨pe, j, none⟩ = #[Value.int .i64 k.1, .int .i64 k.2.1, .int .i64 k.2.2, .int .i64 (p : Int)][j]? := by simp [World.cell?, hbx]
          rw [e]
          have e2 : cellsE [(k, p)] = [Value.int .i64 k.1, .int .i64 k.2.1, .int .i64 k.2.2, .int .i64 (p : Int)] := rfl
          rw [e2] at hu
          rw [← hu, ← Array.getElem?_toList]) HLen.out
        obtain ⟨va2, vc2, rfl, -, -⟩ := (TV.of_owns g1).1.shape
        have hlen : (t ++ [(k, p)]).length = t.length + 1 := by simp
        rw [hlen] at hr g3 g4
        have hap : AppE W1 w2 q (.slice ta t.length tc) (.slice va2 (t.length + 1) vc2) x n (t ++ [(k, p)]) ix := by
          refine ⟨by have := (TV.of_owns g1).1; rwa [hlen] at this, fun e => (by have := (g3 e).2; cases this), (HD1.out.below hB).index.keep (g2.block x ((HD1.out.below hB).index.lt) (fun e => HD1.out.ne.2.2 e.symm)), ?_, (Off.of_below hB).to (Off.of_grown g2 fun k hk => .inr (.inl hk))⟩
          rcases g4 with e | e
          · exact .inl e
          · exact .inr ⟨_, e, hB.size⟩
        have hq : w2.heap[q]? = wc.heap[q]? := g2.block q ((HD1.out.below hB).lt q (.inl rfl)) (fun e => HD1.out.ne.2.1 e.symm)
        simp only [hbj, hw, cond_true, cond_false]
        refine wpOpIn_appendE rfl rfl (.tmp 31) (.tmp 35) (by rfl) (by rfl) (by rfl) hr ?_
        exact hK _ _ ⟨pe, va2, vc2, by simp [upd, Act.put, hw], fun h => by simp [upd] at h, fun _ h => by simp [upd] at h, fun _ => hap, fun h => hq.trans (h4 (by simpa [upd] using h)), fun h => absurd (q12 (by simpa [upd] using h)) (by rw [hbj]; decide)⟩
      · skip
        simp only [hbj, hw, cond_true, cond_false]
        refine wpOpIn_step rfl ?_
        intro K' hK'
        go_simp
        exact hK' _ _ (hK _ _ ⟨pe, va, vc, by simp [upd, hw], by simpa [upd] using h1, by simpa [upd] using h2, by simpa [upd] using h3, by simpa [upd] using h4, by simpa [upd] using h5⟩)
      · skip
        simp only [hbj, hw, cond_true, cond_false]
        refine wpOpIn_step rfl ?_
        intro K' hK'
        go_simp
        exact hK' _ _ (hK _ _ ⟨pe, va, vc, by simp [upd, hw], by simpa [upd] using h1, by simpa [upd] using h2, by simpa [upd] using h3, by simpa [upd] using h4, by simpa [upd] using h5⟩)
      · have hap := h3 hw.2.1
        have h12 : B 12 = false := hbj
        have hO := h4 h12
        obtain ⟨o0, o1, o2, of⟩ := own_cells hO
        simp only [hw, cond_true]
        refine wpOpIn_step rfl ?_
        intro K' hK'
        go_simp
        exact hK' _ _ (hK _ _ ⟨pe, va, vc, by simp [upd, hw], fun h => by simp [upd, hw] at h, fun _ h => by simp [upd, hw] at h, fun _ => hap.stored _ HD1.out.ne (HD1.out.lt q (.inl rfl)), fun h => by simp [upd] at h, fun _ => own_set hO _⟩)
    case fin =>
      intro B a wc hall hI
      obtain ⟨pe, va, vc, rfl, h1, h2, h3, h4, h5⟩ := hI
      have hap := h3 (hall 9 (by decide))
      have hO := h5 (hall 12 (by decide))
      simp only [hall 0 (by decide), hall 1 (by decide), hall 2 (by decide), hall 3 (by decide), hall 4 (by decide), hall 5 (by decide), hall 6 (by decide), hall 7 (by decide), hall 8 (by decide), hall 9 (by decide), hall 10 (by decide), hall 11 (by decide), cond_true]
      clear hall h1 h2 h3 h4 h5
      go_wp2_with fail
      go_meet
      exact ⟨_, _, hap, hO⟩
  case rest =>
    obtain ⟨va, vc, hap, hO⟩ := hcut
    obtain ⟨g, cap, he, hrow, hmx⟩ : ∃ g cap, (Value.slice va (t.length + 1) vc) = .slice (some ⟨g, 0, none⟩) (t ++ [(k, p)]).length cap ∧ ERow wc g cap (t ++ [(k, p)]) ∧ cap ≤ maxLen := by
      rcases hap.tree with ⟨e, _⟩ | e
      · exact absurd e hap.nn
      · exact e
    have he2 : va = some ⟨g, 0, none⟩ ∧ vc = cap := by simpa using he
    obtain ⟨rfl, rfl⟩ := he2
    clear he
    obtain ⟨n1, n2, n3⟩ := HD1.out.ne
    have hq1 := HD1.out.lt q (.inl rfl)
    have hx1 := HD1.out.lt x (.inr (.inr rfl))
    have hblk : (Value.slice ta t.length tc).ownBlock = some g ∨ W1.heap.size ≤ g := by
      rcases hap.blk with e | ⟨g', e, hg⟩
      · exact .inl e.symm
      · simp [Value.ownBlock] at e; exact .inr (by omega)
    have hne : q ≠ g ∧ g ≠ x := by
      rcases hblk with e | e
      · exact ⟨fun c => n2 (by rw [c]; exact e), fun c => n3 (by rw [← c]; exact e)⟩
      · exact ⟨by omega, by omega⟩
    have HH := Lib.hid (show HB (wc.setCell ⟨x, p, none⟩ (.int .i64 (t.length : Int))) q g x vc xc n (t ++ [(k, p)]) (fun r => if r = p then (t.length : Int) else ix r) from
      ⟨(heap_setO _ _ _ n1).trans (by rw [show (t ++ [(k, p)]).length = t.length + 1 by simp]; exact hO), hrow.away hne.2 _ _, hap.index.set hp _, ⟨hne.1, n1, hne.2⟩, ⟨hmx, HD1.out.caps⟩, HD1.out.agr.put hp HX.out k (fun _ => rfl)⟩)
    have HRs := Lib.hid (rise_calls HH.out t.length (HO.out.put (k, p)))
    have HOf := Lib.hid (show Off F w (wc.setCell ⟨x, p, none⟩ (.int .i64 (t.length : Int))) from ((Off.of_below HB1.out).to (hap.off.weaken fun j _ hj => (HF.out j).2 hj)).set (.inl ((HF.out x).2 (.inr (.inr rfl)))) _ _)
    have HBlk := Lib.hid (show ∀ j, Q3 q g x j → F j ∨ w.heap.size ≤ j from fun j hj => by
      have hs := HB1.out.size
      rcases hj with rfl | rfl | rfl
      · exact .inl ((HF.out _).2 (.inl rfl))
      · rcases hblk with e | e
        · exact .inl ((HF.out _).2 (.inr (.inl e)))
        · exact .inr (by omega)
      · exact .inl ((HF.out _).2 (.inr (.inr rfl))))
    have HHas := Lib.hid (HM.out.put HD1.out.agr hp HX.out k)
    obtain ⟨d0, d1, -, -⟩ := own_cells hO
    have dx := hap.index.cell p hp
    have fx := hap.index.frozen
    have hpn : (p : Int) < (n : Int) := by omega
    clear hap hO hrow hne hblk n1 n2 n3 c0 c1
    go_wp2_with (first | (go_at_call 82; refine HRs.out.mono ?_; rintro e w3 ⟨rfl, t3, ix3, h3, l3, m3, s3, o3⟩; have HF3 := Lib.hid (And.intro h3 (And.intro l3 (And.intro m3 (And.intro s3 o3)))); clear h3 l3 m3 s3 o3) | fail)
    go_ret
    obtain ⟨h3, l3, m3, s3, o3⟩ := HF3.out
    refine ⟨rfl, ⟨Foot q (.slice (some ⟨g, 0, none⟩) t3.length vc) x, ⟨_, x, xc, t3, ix3, h3.hd, s3.last (by rw [l3]; simp; omega), HHas.out.mem m3, fun _ => Iff.rfl⟩, HOf.out.trans o3 (fun j hj hG => ?_), fun j hj => HBlk.out j ?_⟩⟩
    · rcases HBlk.out j hG with e | e
      · exact e
      · omega
    · rcases hj with rfl | e | rfl
      · exact .inl rfl
      · exact .inr (.inl (by simp [Value.ownBlock] at e; exact e.symm))
      · exact .inr (.inr rfl)
end Go.Proofs.YtcjkeobjojmpfaaGreat
end
