/-
  CONTRACT of fermatalaw03.played: a stream that is new gets bytes in pieces; besides the stream nothing that was there is written.
-/
import Derived.Test.YteaeedhhdnkldaaPlain03
import Derived.Test.YteaeedhhdnkldaaAwake03
namespace Go.Proofs.Yteaeedhhdnkldaa
open Go.RowKit Go.Shelf Pl

set_option maxRecDepth 100000 in
set_option maxHeartbeats 1000000 in
theorem feed_dead (g fr : Nat) (h v : Value) (w : World) (s : SAt w g 2 fr h) :
    Calls Try.prog 45 #[.pointer (some ⟨g, 0, none⟩), v] w fun e w' => e = .returned (.tuple #[.slice none 0 0, .int .i64 31]) ∧ w = w' := by
  have HI := Lib.hid (is_calls g 2 fr h w s)
  clear s
  go_enter Try.func45, Try.ntmps45
  go_wp2_with (go_at_call 107; refine HI.out.mono ?_; rintro e w' ⟨rfl, rfl⟩)
  go_ret2
  exact ⟨rfl, rfl⟩

theorem rowM_cells {w : World} {base g n cap : Nat} {V : List Value} (h : w.ownsRow base 22 1 (.slice (some ⟨g, 0, none⟩) n cap) n V) : ∀ j u, V[j]? = some u → w.cell? ((⟨g, 0, none⟩ : Addr).add j) = some u := by
  intro j u hu
  have hadd : (⟨g, 0, none⟩ : Addr).add j = ⟨g, j, none⟩ := by unfold Addr.add; split <;> simp_all
  rw [hadd]
  obtain ⟨hlen, ⟨e, _⟩ | ⟨g2, cap2, cur, e, q1, q2, q3, q4, q5, q6⟩⟩ := h
  · simp at e
  · simp only [Value.slice.injEq, Option.some.injEq, Addr.mk.injEq, true_and, and_true] at e
    obtain ⟨rfl, rfl⟩ := e
    rw [cell_of_row w g j cur _ (0, 0) q2]
    have hj : j < V.length := (List.getElem?_eq_some_iff.1 hu).1
    have e : (cur.toList.take (n * 1))[j]? = V[j]? := by rw [q6]
    rw [List.getElem?_take, if_pos (by omega)] at e
    simp only [Array.getElem?_toList] at e
    rw [e, hu]
theorem run_appendMM (w : World) (ty : TypeId) (base : Nat) (hbase : base ≤ w.heap.size) (v : Value) (k : Nat) (xs : List Value) (hown : w.ownsRow base 22 1 v k xs) (b2 m : Nat) (x : Value) (V : List Value) (hx : w.ownsRow b2 22 1 x m V) (h1 : ∀ u ∈ V, u.oneCell' = true) (hl : k + m ≤ 2000000) :
    ∃ v' w', (Builtin.append_ #[45, 45] ty #[v, x]).run Try.prog w = .ok v' w' ∧ w'.ownsRow base 22 1 v' (k + m) (xs ++ V) ∧ w.grownBy w' v.ownBlock ∧ (v'.ownBlock = v.ownBlock ∨ v'.ownBlock = some w.heap.size) := by
  obtain ⟨i0, hi, hz0, hz1, hz2⟩ := info_parts info_row
  rcases hx.2 with ⟨rfl, rfl⟩ | ⟨g, cap, cur, rfl, q1, q2, q3, q4, q5, q6⟩
  · have hV : V = [] := List.eq_nil_of_length_eq_zero (by simpa using hx.1)
    subst hV
    refine ⟨v, w, ?_, by simpa using hown, ⟨rfl, rfl, rfl, Nat.le_refl _, fun _ _ _ => rfl⟩, .inl rfl⟩
    rcases hown.2 with ⟨rfl, _⟩ | ⟨g, cap, cur, rfl, _, hg, hnc, _⟩
    · simp [Builtin.append_, run_underlying Try.underlying45, sizeOf, typeInfo, hi, Builtin.lenOf, Builtin.firstCells]
    · simp [Builtin.append_, run_underlying Try.underlying45, sizeOf, typeInfo, hi, Builtin.lenOf, Builtin.firstCells, hnc, storeCells]
  · obtain ⟨v', w', hr, h2, h3, -, h5⟩ := run_append_own_at (P := Try.prog) w base 45 ty 22 i0 (.slice none 0 0) 1 24 Try.underlying45 hi hz0 hz1 hz2 rfl (by decide) v k xs hown ⟨g, 0, none⟩ m cap V (by simpa using hx.1) (rowM_cells hx) h1 (by unfold maxLen; omega) (by omega) hbase
    exact ⟨v', w', hr, h2, h3, h5⟩
theorem wpList_appendMM {ops : Array Oper} {rest : List Oper} {o : Oper} {a : Act} {w : World} {Q : Exit → Act → World → Prop} (hgd : o.guard = none) (s x : Operand)
    (ho : o.op = .call { callee := .builtin .append, args := #[s, x], argTypes := #[45, 45] })
    (base : Nat) (v : Value) (k : Nat) (xs : List Value) (hs : a.eval s = v) (hown : w.ownsRow base 22 1 v k xs) (b2 m : Nat) (xv : Value) (V : List Value) (hx : a.eval x = xv) (hxr : w.ownsRow b2 22 1 xv m V) (h1 : ∀ u ∈ V, u.oneCell' = true)
    (hl : k + m ≤ 2000000) (hbase : base ≤ w.heap.size)
    (h : ∀ v' w', w'.ownsRow base 22 1 v' (k + m) (xs ++ V) → w.grownBy w' v.ownBlock → (v'.ownBlock = v.ownBlock ∨ v'.ownBlock = some w.heap.size) → wpList Try.prog ops Q rest (a.put o.dst v') w') : wpList Try.prog ops Q (o :: rest) a w :=
  wpList_plain hgd fun K hK => by
    obtain ⟨v', w', hr, h2, h3, h4⟩ := run_appendMM w o.type base hbase v k xs hown b2 m xv V hxr h1 hl
    unfold Oper.wp execOp
    simp only [ho, resolve, invoke, builtin, Sem.run_bind, Sem.run_pure, Result.andThen_ok, List.map_toArray, List.map_cons, List.map_nil, hs, hx, hr]
    exact hK _ _ (h v' w' h2 h3 h4)
theorem MVal.one {w : World} {base : Nat} {V : List Value} {L : List (List Nat)} (h : MVal w base V L) : ∀ u ∈ V, u.oneCell' = true := by
  intro u hu
  obtain ⟨i, hi, rfl⟩ := List.getElem_of_mem hu
  have := h.2.1 i (by rw [← h.1]; exact hi)
  obtain ⟨a, c, e⟩ := owns_shape this
  have e2 : V.getD i undef = V[i] := by simp [List.getD_eq_getElem?_getD, hi]
  rw [← e2, e]
  rfl
/-- Two lists of rows. -/
theorem MVal.append {w : World} {base m : Nat} {V V' : List Value} {L L' : List (List Nat)} (h : MVal w base V L) (h' : MVal w base V' L') (hlt : ∀ i < L.length, ∀ k, (V.getD i undef).ownBlock = some k → k < m) (hge : ∀ i < L'.length, ∀ k, (V'.getD i undef).ownBlock = some k → m ≤ k) : MVal w base (V ++ V') (L ++ L') := by
  obtain ⟨h1, h2, h3⟩ := h
  obtain ⟨g1, g2, g3⟩ := h'
  have ea : ∀ i, i < L.length → (V ++ V').getD i undef = V.getD i undef ∧ mt (L ++ L') i = mt L i := fun i hi => ⟨by simp [List.getD_eq_getElem?_getD, List.getElem?_append_left (show i < V.length by omega)], by simp [mt, List.getD_eq_getElem?_getD, List.getElem?_append_left hi]⟩
  have eb : ∀ i, L.length ≤ i → (V ++ V').getD i undef = V'.getD (i - L.length) undef ∧ mt (L ++ L') i = mt L' (i - L.length) := fun i hi => ⟨by simp [List.getD_eq_getElem?_getD, List.getElem?_append_right (show V.length ≤ i by omega), h1], by simp [mt, List.getD_eq_getElem?_getD, List.getElem?_append_right hi]⟩
  refine ⟨by simp [h1, g1], fun i hi => ?_, fun i j hij hj k hk => ?_⟩
  · rw [List.length_append] at hi
    by_cases hc : i < L.length
    · rw [(ea i hc).1, (ea i hc).2]; exact h2 i hc
    · rw [(eb i (by omega)).1, (eb i (by omega)).2]; exact g2 _ (by omega)
  · rw [List.length_append] at hj
    by_cases hc : i < L.length
    · rw [(ea i hc).1] at hk
      by_cases hd : j < L.length
      · rw [(ea j hd).1]; exact h3 i j hij hd k hk
      · rw [(eb j (by omega)).1]
        intro e
        have := hlt i hc k hk
        have := hge _ (by omega) k e
        omega
    · rw [(eb i (by omega)).1] at hk
      rw [(eb j (by omega)).1]
      exact g3 _ _ (by omega) (by omega) k hk

/-- WHAT played LEAVES. -/
def PlyP (w : World) (g : Nat) (b : List Nat) (e : Ending) (w' : World) : Prop :=
  ∃ v' h' V, e = .returned (.tuple #[v', .int .i64 (feedE b)]) ∧ SAt w' g (if splE b = 31 then 2 else 1) (splB b).length h' ∧ Own8 w' w.heap.size h' (feedH b) ∧ w'.ownsRow w.heap.size 22 1 v' (splB b).length V ∧ MVal w' w.heap.size V (splB b) ∧ w.grownBy w' (some g)

/-- A row that is handed in stays, whatever is done to the stream. -/
theorem brow_sat {w w' : World} {g st fr : Nat} {h v : Value} {l : List Nat} (hb : BRow w v l) (s : SAt w g st fr h) (hh : ∃ a n c, h = .slice a n c) (hg : w.grownBy w' (some g)) : BRow w' v l := by
  obtain ⟨a, n, c, rfl⟩ := hh
  obtain ⟨ha, hn | ⟨b, off, cap, e, h1, h2, h3⟩⟩ := hb
  · exact ⟨ha, .inl hn⟩
  · refine ⟨ha, .inr ⟨b, off, cap, e, h1, h2, fun i hi => ?_⟩⟩
    have hc := h3 i hi
    refine hg.cell hc fun e2 => ?_
    have e3 : b = g := by simpa using e2
    subst e3
    unfold SAt at s
    simp only [World.cell?, s] at hc
    rcases (show off + i = 0 ∨ off + i = 1 ∨ off + i = 2 ∨ 3 ≤ off + i by omega) with q | q | q | q
    · simp [q] at hc
    · simp [q] at hc
    · simp [q] at hc
    · rw [Array.getElem?_eq_none (by simpa using q)] at hc; simp at hc

/-- WHAT Feed LEAVES of a stream that got some bytes. -/
def FedQ (w : World) (g base : Nat) (h : Value) (P l : List Nat) (e : Ending) (w' : World) : Prop :=
  ∃ v1 h1 V1 L1, e = .returned (.tuple #[v1, .int .i64 (feedE (P ++ l))]) ∧ splB (P ++ l) = splB P ++ L1 ∧ SAt w' g (if splE (P ++ l) = 31 then 2 else 1) (splB (P ++ l)).length h1 ∧ Own8 w' base h1 (feedH (P ++ l)) ∧ w'.ownsRow w.heap.size 22 1 v1 L1.length V1 ∧ MVal w' w.heap.size V1 L1 ∧
    (∀ i < L1.length, ∀ k, (V1.getD i undef).ownBlock = some k → h1.ownBlock ≠ some k) ∧ (∃ w1, w.grownBy w1 h.ownBlock ∧ w1.grownBy w' (some g)) ∧ (h1.ownBlock = h.ownBlock ∨ ∀ k, h1.ownBlock = some k → w.heap.size ≤ k)
theorem feed_any (g base : Nat) (h : Value) (P : List Nat) (v : Value) (l : List Nat) (w : World) (s : SAt w g (if splE P = 31 then 2 else 1) (splB P).length h) (ho : Own8 w base h (feedH P)) (hP : AllB P) (hbr : BRow w v l) (hbase : base ≤ w.heap.size) (hlen : P.length + l.length ≤ 1000000) :
    Calls Try.prog 45 #[.pointer (some ⟨g, 0, none⟩), v] w (FedQ w g base h P l) := by
  by_cases hE : splE P = 31
  · rw [if_pos hE] at s
    obtain ⟨h1, h2⟩ := fed_dead P l hP hbr.1 hE
    refine (feed_dead g _ h v w s).mono ?_
    rintro e w' ⟨rfl, rfl⟩
    refine ⟨.slice none 0 0, h, [], [], by rw [feedE_31 h2]; rfl, by rw [h1, List.append_nil], by rw [if_pos h2, h1]; exact s, ?_, World.ownsRow_nil _ _ _ _, mval_nil _ _, fun i hi => absurd hi (Nat.not_lt_zero _), ⟨w, ⟨rfl, rfl, rfl, Nat.le_refl _, fun _ _ _ => rfl⟩, ⟨rfl, rfl, rfl, Nat.le_refl _, fun _ _ _ => rfl⟩⟩, .inl rfl⟩
    rw [feedH_31 h2, ← feedH_31 hE]
    exact ho
  · rw [if_neg hE] at s
    obtain ⟨q1, q2, q3, q4, q5⟩ := fed_more P l hP hbr.1 hE
    have hfl : (feedH P).length ≤ P.length := by unfold feedH; rw [if_neg hE, List.length_drop]; omega
    have hsl := splB_length P
    refine (feed_all g base _ h (feedH P) v l w s ho q5 hbr hbase (feedH P ++ l) rfl (by omega) (by omega)).mono ?_
    rintro e w' ⟨v1, h1, V1, he, hs, ho1, hr, hM, hne, hg, hloc⟩
    refine ⟨v1, h1, V1, splB (feedH P ++ l), by rw [he, q3], q1, ?_, by rw [q4]; exact ho1, hr, hM, hne, hg, hloc⟩
    rw [q1, List.length_append]
    by_cases hx : splE (feedH P ++ l) = 31
    · rw [if_pos hx] at hs; rw [if_pos (q2.2 hx)]; exact hs
    · rw [if_neg hx] at hs; rw [if_neg (fun hy => hx (q2.1 hy))]; exact hs
theorem row_type {w : World} {base n r : Nat} {v : Value} {T : TypeId} {size : Nat} {V : List Value} {c : Array Value} {t : TypeId} (h : w.ownsRow base T size v n V) (e : v.ownBlock = some r) (hh : w.heap[r]? = some (.cells c t (0, 0))) : t = T := by
  rcases h.2 with ⟨rfl, _⟩ | ⟨g, cap, cur, rfl, _, q, _⟩
  · simp [Value.ownBlock] at e
  · simp only [Value.ownBlock, Option.some.injEq] at e
    subst e
    rw [q] at hh
    simp only [Option.some.injEq, Obj.cells.injEq] at hh
    exact hh.2.1.symm
/-- What an append to the bodies so far leaves. -/
theorem ply_app {w1 w2 : World} {g base st fr n m : Nat} {vo h1 : Value} {V V' : List Value} {L L' : List (List Nat)} {hb : List Nat} (hrow : w1.ownsRow base 22 1 vo n V) (hgr : w1.grownBy w2 vo.ownBlock) (hM : MVal w1 base V L) (hM' : MVal w1 m V' L') (hbm : base ≤ m) (hs : SAt w1 g st fr h1) (ho : Own8 w1 base h1 hb)
    (hlt : ∀ i < L.length, ∀ k, (V.getD i undef).ownBlock = some k → k < m) :
    MVal w2 base (V ++ V') (L ++ L') ∧ SAt w2 g st fr h1 ∧ Own8 w2 base h1 hb := by
  have hty : ∀ r c t, vo.ownBlock = some r → w1.heap[r]? = some (.cells c t (0, 0)) → t ≠ 5 := fun r c t e hh => by rw [row_type hrow e hh]; decide
  refine ⟨MVal.append (m := m) (hM.keep hgr hty) ((hM'.base hbm).keep hgr hty) hlt (fun i hi k hk => ((hM'.2.1 i hi).lt k hk).1), hs.grown hrow (by decide) hgr, ho.kept hgr ?_⟩
  rcases ho.2 with ⟨rfl, _⟩ | ⟨k, cap, cur, rfl, _, hgb, _⟩
  · exact .inl rfl
  · exact .inr fun e => hty k cur _ e.symm hgb rfl
end Go.Proofs.Yteaeedhhdnkldaa
