/-
  SLICES OF KEYS: those that are read, those of the call's own; what append and slices.Clone make of them.
-/
import Derived.Test.YtapaccbffhcjdaaDoorKeySetP
import Derived.Test.YtapaccbffhcjdaaDoorProg
import Derived.Maps.AppendAt
import Derived.Below
import Derived.OwnWalk
import Derived.Lib.Hide
import Derived.Shelf.GgSortFunc.RowK
import Derived.Lib.SliceRun
import Derived.Deep.DeepMust
import Derived.Laws.NewBlocks
import Derived.Handy
import Derived.BigQuiet
namespace Go.Proofs.YtapaccbffhcjdaaDoor
open Go.RowKit Go.Sort

theorem Tryd.info_key : (Tryd.prog.info? 23).map (fun i => (i.zero, i.size, i.bytes)) = some (some (.agg #[.int .i64 0, .int .i64 0, .int .i64 0]), 3, 24) := by kernel_rfl

/-- The cells of a list of keys. -/
def cellsL (l : List Ky) : List Value := l.flatMap encK
theorem cellsL_cons (k : Ky) (l : List Ky) : cellsL (k :: l) = encK k ++ cellsL l := rfl
theorem cellsL_append (l m : List Ky) : cellsL (l ++ m) = cellsL l ++ cellsL m := List.flatMap_append
theorem cellsL_len : ∀ l : List Ky, (cellsL l).length = l.length * 3
  | [] => rfl
  | k :: l => by rw [cellsL_cons, List.length_append, cellsL_len l, List.length_cons]; show 3 + _ = _; omega
theorem cellsL_one (l : List Ky) : ∀ u ∈ cellsL l, u.oneCell' = true := by
  intro u hu
  obtain ⟨k, _, hk⟩ := List.mem_flatMap.1 hu
  simp only [encK, List.mem_cons, List.not_mem_nil, or_false] at hk
  rcases hk with rfl | rfl | rfl <;> rfl
/-- A key at its place (the null key behind the end). -/
def kq (l : List Ky) (j : Nat) : Ky := l.getD j (0, 0, 0)
theorem cellsL_get : ∀ (l : List Ky) (j : Nat), j < l.length → (cellsL l)[j * 3 + 0]? = some (.int .i64 (kq l j).1) ∧ (cellsL l)[j * 3 + 1]? = some (.int .i64 (kq l j).2.1) ∧ (cellsL l)[j * 3 + 2]? = some (.int .i64 (kq l j).2.2)
  | [], j, h => by cases h
  | k :: l, 0, _ => ⟨rfl, rfl, rfl⟩
  | k :: l, j + 1, h => by
    have ih := cellsL_get l j (by simpa using h)
    have e : ∀ r, (cellsL (k :: l))[(j + 1) * 3 + r]? = (cellsL l)[j * 3 + r]? := fun r => by
      rw [cellsL_cons, List.getElem?_append_right (by show 3 ≤ _; omega)]
      congr 1
      show (j + 1) * 3 + r - 3 = _
      omega
    rw [e, e, e]
    exact ih
theorem cellsL_take : ∀ (l : List Ky) (n : Nat), (cellsL l).take (n * 3) = cellsL (l.take n)
  | _, 0 => by simp [cellsL]
  | [], n + 1 => by simp [cellsL]
  | k :: l, n + 1 => by
    rw [cellsL_cons, List.take_succ_cons, cellsL_cons, ← cellsL_take l n, show (n + 1) * 3 = 3 + n * 3 by omega]
    exact List.take_length_add_append (l₁ := encK k) (n * 3)
theorem cellsL_drop : ∀ (l : List Ky) (n : Nat), (cellsL l).drop (n * 3) = cellsL (l.drop n)
  | _, 0 => by simp
  | [], n + 1 => by simp [cellsL]
  | k :: l, n + 1 => by
    rw [cellsL_cons, List.drop_succ_cons, ← cellsL_drop l n, show (n + 1) * 3 = 3 + n * 3 by omega]
    exact List.drop_length_add_append (l₁ := encK k) (n * 3)

/-- THE SLICE v OF KEYS READS AS l. -/
def KRow (w : World) (v : Value) (l : List Ky) : Prop :=
  (l = [] ∧ ∃ a c, v = .slice a 0 c ∧ c ≤ maxLen) ∨ ∃ b o c, v = .slice (some ⟨b, o, none⟩) l.length c ∧ b < w.heap.size ∧ l.length ≤ c ∧ c ≤ maxLen ∧ ∀ t u, (cellsL l)[t]? = some u → w.cell? ⟨b, o + t, none⟩ = some u
theorem KRow.shape {w : World} {v : Value} {l : List Ky} (h : KRow w v l) : ∃ a c, v = .slice a l.length c ∧ l.length ≤ c ∧ c ≤ maxLen := by
  rcases h with ⟨rfl, a, c, rfl, hc⟩ | ⟨b, o, c, rfl, _, h1, h2, _⟩
  · exact ⟨a, c, rfl, Nat.zero_le _, hc⟩
  · exact ⟨_, c, rfl, h1, h2⟩
theorem KRow.below {w w' : World} {v : Value} {l : List Ky} (h : KRow w v l) (hb : Below w.heap.size w w') : KRow w' v l := by
  rcases h with h | ⟨b, o, c, rfl, h1, h2, h3, h4⟩
  · exact .inl h
  · exact .inr ⟨b, o, c, rfl, Nat.lt_of_lt_of_le h1 hb.size, h2, h3, fun t u ht => by
      rw [← h4 t u ht]
      have := hb.block b h1
      simp only [World.cell?, this]⟩
theorem KRow.grown {w w' : World} {v : Value} {l : List Ky} {r : Option Nat} (h : KRow w v l) (hg : w.grownBy w' r) (hr : v.ownBlock ≠ r ∨ r = none) : KRow w' v l := by
  rcases h with h | ⟨b, o, c, rfl, h1, h2, h3, h4⟩
  · exact .inl h
  · exact .inr ⟨b, o, c, rfl, Nat.lt_of_lt_of_le h1 hg.size, h2, h3, fun t u ht => by
      rw [← h4 t u ht]
      have := hg.block b h1 (by rcases hr with h | h; exact fun e => h e; simp [h])
      simp only [World.cell?, this]⟩
/-- A SLICE OF THE CALL's OWN. -/
def OwnK (w : World) (base : Nat) (v : Value) (l : List Ky) : Prop := w.ownsRow base 23 3 v l.length (cellsL l)
theorem OwnK.nil (w : World) (base : Nat) : OwnK w base (.slice none 0 0) [] := World.ownsRow_nil _ _ _ _
theorem OwnK.row {w : World} {base : Nat} {v : Value} {l : List Ky} (h : OwnK w base v l) : KRow w v l := by
  obtain ⟨hl, ⟨rfl, h0⟩ | ⟨g, cap, cur, rfl, _, hg, hn, hm, hs, ht⟩⟩ := h
  · have : l = [] := List.eq_nil_of_length_eq_zero h0
    subst this
    exact .inl ⟨rfl, _, _, rfl, by unfold maxLen; omega⟩
  · refine .inr ⟨g, 0, cap, rfl, (Array.getElem?_eq_some_iff.1 hg).1, hn, hm, fun t u hu => ?_⟩
    rw [← ht, List.getElem?_take] at hu
    split at hu
    · rw [Nat.zero_add]
      rw [Array.getElem?_toList] at hu
      simp [World.cell?, hg, hu]
    · cases hu
theorem OwnK.below {w w' : World} {base : Nat} {v : Value} {l : List Ky} (h : OwnK w base v l) (hb : Below w.heap.size w w') : OwnK w' base v l := by
  obtain ⟨hl, h | ⟨g, cap, cur, rfl, h1, hg, hn, hm, hs, ht⟩⟩ := h
  · exact ⟨hl, .inl h⟩
  · exact ⟨hl, .inr ⟨g, cap, cur, rfl, h1, (hb.block g (Array.getElem?_eq_some_iff.1 hg).1).trans hg, hn, hm, hs, ht⟩⟩
theorem OwnK.mono {w : World} {b b' : Nat} {v : Value} {l : List Ky} (h : OwnK w b v l) (hb : b' ≤ b) : OwnK w b' v l := by
  obtain ⟨hl, h | ⟨g, cap, cur, rfl, h1, hg⟩⟩ := h
  · exact ⟨hl, .inl h⟩
  · exact ⟨hl, .inr ⟨g, cap, cur, rfl, Nat.le_trans hb h1, hg⟩⟩

/-- append of a slice of keys to one of the call's own. -/
theorem run_appendK (w : World) (ty : TypeId) (base : Nat) (hbase : base ≤ w.heap.size) (v : Value) (l : List Ky) (hown : OwnK w base v l) (x : Value) (m : List Ky) (hx : KRow w x m) (hl : l.length + m.length ≤ 2000000) :
    ∃ v' w', (Builtin.append_ #[28, 28] ty #[v, x]).run Tryd.prog w = .ok v' w' ∧ OwnK w' base v' (l ++ m) ∧ w.grownBy w' v.ownBlock ∧ (v' = .slice none 0 0 → v = .slice none 0 0 ∧ m = []) ∧ (v'.ownBlock = v.ownBlock ∨ v'.ownBlock = some w.heap.size) := by
  obtain ⟨i0, hi, hz0, hz1, hz2⟩ := info_parts Tryd.info_key
  rcases hx with ⟨rfl, a, c, rfl, hc⟩ | ⟨b, o, c, rfl, q1, q2, q3, q4⟩
  · refine ⟨v, w, ?_, by simpa using hown, ⟨rfl, rfl, rfl, Nat.le_refl _, fun _ _ _ => rfl⟩, fun h => ⟨h, rfl⟩, .inl rfl⟩
    rcases hown.2 with ⟨rfl, _⟩ | ⟨g, cap, cur, rfl, _, hg, hnc, _⟩
    · cases a <;> simp [Builtin.append_, run_underlying Tryd.underlying28, sizeOf, typeInfo, hi, Builtin.lenOf, Builtin.firstCells, loadCells, loadCellsFrom]
    · cases a <;> simp [Builtin.append_, run_underlying Tryd.underlying28, sizeOf, typeInfo, hi, Builtin.lenOf, Builtin.firstCells, hnc, storeCells, loadCells, loadCellsFrom]
  · obtain ⟨v', w', hr, h2, h3, h4, h5⟩ := run_append_own_at (P := Tryd.prog) w base 28 ty 23 i0 _ 3 24 Tryd.underlying28 hi hz0 hz1 hz2 rfl (by decide) v l.length (cellsL l) hown ⟨b, o, none⟩ m.length c (cellsL m) (cellsL_len m) (fun j u hu => by rw [Addr.add_lit]; exact q4 j u hu) (cellsL_one m) (by unfold maxLen; omega) (by omega) hbase
    refine ⟨v', w', hr, ?_, h3, fun h => ?_, h5⟩
    · unfold OwnK; rw [List.length_append, cellsL_append]; exact h2
    · have := h4.1 h; exact ⟨this.1, List.eq_nil_of_length_eq_zero this.2⟩
theorem wpList_appendK {ops : Array Oper} {rest : List Oper} {o : Oper} {a : Act} {w : World} {Q : Exit → Act → World → Prop} (hgd : o.guard = none) (s x : Operand)
    (ho : o.op = .call { callee := .builtin .append, args := #[s, x], argTypes := #[28, 28] })
    (base : Nat) (v : Value) (l : List Ky) (hs : a.eval s = v) (hown : OwnK w base v l) (xv : Value) (m : List Ky) (hx : a.eval x = xv) (hxr : KRow w xv m)
    (hl : l.length + m.length ≤ 2000000) (hbase : base ≤ w.heap.size)
    (h : ∀ v' w', OwnK w' base v' (l ++ m) → w.grownBy w' v.ownBlock → (v' = .slice none 0 0 → v = .slice none 0 0 ∧ m = []) → (v'.ownBlock = v.ownBlock ∨ v'.ownBlock = some w.heap.size) → wpList Tryd.prog ops Q rest (a.put o.dst v') w') : wpList Tryd.prog ops Q (o :: rest) a w :=
  wpList_plain hgd fun K hK => by
    obtain ⟨v', w', hr, h2, h3, h4, h5⟩ := run_appendK w o.type base hbase v l hown xv m hxr hl
    unfold Oper.wp execOp
    simp only [ho, resolve, invoke, builtin, Sem.run_bind, Sem.run_pure, Result.andThen_ok, List.map_toArray, List.map_cons, List.map_nil, hs, hx, hr]
    exact hK _ _ (h v' w' h2 h3 h4 h5)

set_option maxRecDepth 100000 in
set_option maxHeartbeats 1000000 in
/-- slices.Clone of any slice of keys. -/
theorem cloneK_calls (v : Value) (l : List Ky) (w : World) (h : KRow w v l) (hn : l.length ≤ 1000000) :
    Calls Tryd.prog 35 #[v] w fun e w' => ∃ v', e = .returned v' ∧ OwnK w' w.heap.size v' l ∧ Below w.heap.size w w' ∧ (v' = .slice none 0 0 → l = []) := by
  have q : ∀ (W : World) (a : Option Addr) (n c n' c' : Nat), (binOp .eql 28 (.slice a n c) (.slice none n' c')).run Tryd.prog W = .ok (.bool a.isNone) W := fun W a n c n' c' => Lib.run_eql_slice_nil W _ _ a n c n' c' Tryd.underlying28
  have HR := Lib.hid h
  obtain ⟨a, c, rfl, -, -⟩ := h.shape
  cases a with
  | none =>
    have hl : l = [] := by
      rcases HR.out with ⟨h, _⟩ | ⟨b, o, c, e, _⟩
      · exact h
      · cases e
    subst hl
    clear h
    go_enter Tryd.func35, Tryd.ntmps35
    go_wp2
    go_ret
    refine ⟨_, rfl, OwnK.nil _ _, Below.refl _ _, ?_⟩
    intro _; first | rfl | trivial
  | some a =>
    have HL := Lib.hid (show OwnK (w.alloc (.cells #[] 23)) w.heap.size (.slice (some ⟨w.heap.size, 0, none⟩) 0 0) [] from World.ownsRow_lit (base := w.heap.size) (e := 23) (size := 3) w #[] 0 (Nat.le_refl _) (Nat.zero_le _) rfl)
    have HA := Lib.hid ((Below.refl w.heap.size w).alloc (Nat.le_refl _) (.cells #[] 23))
    clear h
    go_enter Tryd.func35, Tryd.ntmps35
    go_wp2_with (at_builtin; go_must (refine wpList_appendK rfl (.tmp 5) (.tmp 6) (by rfl) w.heap.size _ [] (by first | rfl | simp [Act.eval]) HL.out _ l (by first | rfl | simp [Act.eval]) (HR.out.below (Below.refl _ _ |>.alloc (Nat.le_refl _) _)) (by simp; omega) HA.out.size ?_; intro v5 w5 hr5 hg5 hn5 hat5; have HR5 := Lib.hid hr5; have HN5 := Lib.hid hn5; have HB5 := Lib.hid (HA.out.grown hg5 HA.out.size (fun j hj => (World.ownsRow.lt HL.out j hj).1)); clear hr5 hg5 hat5 hn5))
    go_ret
    refine ⟨_, rfl, ?_, HB5.out, fun h => ?_⟩
    · have := HR5.out
      rwa [List.nil_append] at this
    · exact (HN5.out h).2
end Go.Proofs.YtapaccbffhcjdaaDoor
