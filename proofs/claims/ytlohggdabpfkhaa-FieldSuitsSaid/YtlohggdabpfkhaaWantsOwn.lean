/-
  ROWS OF WANTS OF THE CALL's OWN, and append onto them.
-/
import Derived.Test.YtlohggdabpfkhaaSuitsP
namespace Go.Proofs.Ytlohggdabpfkhaa
open Go.RowKit Pl

theorem info_want : (Try.prog.info? 32).map (fun i => (i.zero, i.size, i.bytes)) = some (some (.agg #[.int .i64 0, .bool false, .int .i64 0, .int .i64 0]), 4, 32) := by kernel_rfl
def wone (p : Wnt) : List Value := [.int .i64 p.tag, .bool p.must, .int .i64 p.least, .int .i64 p.most]
def wcells (L : List Wnt) : List Value := L.flatMap wone
theorem wcells_snoc (L : List Wnt) (p : Wnt) : wcells (L ++ [p]) = wcells L ++ wone p := by simp [wcells, List.flatMap_append]
theorem wcells_length (L : List Wnt) : (wcells L).length = L.length * 4 := by
  induction L with
  | nil => rfl
  | cons p L ih =>
    simp only [wcells, List.flatMap_cons, List.length_append, List.length_cons] at *
    rw [ih]
    simp only [wone, List.length_cons, List.length_nil]
    omega
theorem wcells_get (L : List Wnt) : ∀ i < L.length, ∀ j < 4, (wcells L)[i * 4 + j]? = (wone (wg L i))[j]? := by
  induction L with
  | nil => intro i hi; simp at hi
  | cons p L ih =>
    intro i hi j hj
    cases i with
    | zero => simp only [wcells, List.flatMap_cons, wg, Nat.zero_mul, Nat.zero_add, List.getD_cons_zero]; rw [List.getElem?_append_left (by simp [wone]; omega)]
    | succ i =>
      have := ih i (by simpa using hi) j hj
      have e : wg (p :: L) (i + 1) = wg L i := by simp [wg]
      rw [e, ← this]
      simp only [wcells, List.flatMap_cons]
      rw [List.getElem?_append_right (by simp [wone]; omega)]
      congr 1
      simp [wone]; omega
/-- A ROW OF THE CALL's OWN THAT HOLDS THE WANTS L. -/
def OW (w : World) (base : Nat) (v : Value) (L : List Wnt) : Prop := w.ownsRow base 32 4 v L.length (wcells L)
theorem ow_nil (w : World) (base : Nat) : OW w base (.slice none 0 0) [] := World.ownsRow_nil _ _ _ _
theorem OW.below {w w' : World} {base : Nat} {v : Value} {L : List Wnt} (h : OW w base v L) (hb : Below w.heap.size w w') : OW w' base v L := ownsRow_below h hb
theorem OW.row {w : World} {base : Nat} {v : Value} {L : List Wnt} (h : OW w base v L) : WRow w v L := by
  rcases h.2 with ⟨rfl, h0⟩ | ⟨g, cap, cur, rfl, h1, h2, h3, h4, h5, h6⟩
  · exact .inl ⟨none, 0, rfl, List.eq_nil_of_length_eq_zero h0, Nat.zero_le _⟩
  · refine .inr ⟨g, 0, cap, rfl, h3, h4, fun i hi => ?_⟩
    have hc := World.ownsRow.cells h (g := g) rfl
    have hadd : ∀ j, (⟨g, 0, none⟩ : Addr).add j = ⟨g, 0 + j, none⟩ := fun j => by unfold Addr.add; split <;> simp_all
    have hj : ∀ j u, j < 4 → (wone (wg L i))[j]? = some u → w.cell? ⟨g, 0 + i * 4 + j, none⟩ = some u := fun j u hj hu => by
      have := hc (i * 4 + j) u (by rw [wcells_get L i hi j hj]; exact hu)
      rwa [hadd, ← Nat.add_assoc] at this
    exact ⟨hj 0 _ (by omega) rfl, hj 1 _ (by omega) rfl, hj 2 _ (by omega) rfl, hj 3 _ (by omega) rfl⟩
theorem OW.lt {w : World} {base : Nat} {v : Value} {L : List Wnt} (h : OW w base v L) : ∀ k, v.ownBlock = some k → base ≤ k ∧ k < w.heap.size := World.ownsRow.lt h
theorem OW.ne {w : World} {base F : Nat} {v : Value} {L : List Wnt} {cs : Array Value} {f : Nat × Nat} (h : OW w base v L) (hF : w.heap[F]? = some (.cells cs 25 f)) : v.ownBlock ≠ some F := fun e => by
  rcases h.2 with ⟨rfl, _⟩ | ⟨g, cap, cur, rfl, _, hg, _⟩
  · simp [Value.ownBlock] at e
  · simp only [Value.ownBlock, Option.some.injEq] at e
    subst e
    rw [hg] at hF
    simp at hF
theorem OW.shape {w : World} {base : Nat} {v : Value} {L : List Wnt} (h : OW w base v L) : ∃ a c, v = .slice a L.length c := by
  rcases h.2 with ⟨rfl, h0⟩ | ⟨g, cap, cur, rfl, _⟩
  · exact ⟨none, 0, by rw [h0]⟩
  · exact ⟨_, _, rfl⟩
theorem run_appendW (w : World) (ty : TypeId) (base : Nat) (hbase : base ≤ w.heap.size) (v : Value) (L : List Wnt) (hown : OW w base v L) (g : Nat) (q : Wnt) (hg : w.heap[g]? = some (.cells #[.int .i64 q.tag, .bool q.must, .int .i64 q.least, .int .i64 q.most] 32 (0, 0))) (hl : L.length + 1 ≤ 100000) :
    ∃ v' w', (Builtin.append_ #[26, 26] ty #[v, .slice (some ⟨g, 0, none⟩) 1 1]).run Try.prog w = .ok v' w' ∧ OW w' base v' (L ++ [q]) ∧ w.grownBy w' v.ownBlock ∧ (v'.ownBlock = v.ownBlock ∨ v'.ownBlock = some w.heap.size) := by
  obtain ⟨i0, hi, hz0, hz1, hz2⟩ := info_parts info_want
  obtain ⟨v', w', hr, ho, hgr, hat⟩ := run_append_own_at (P := Try.prog) w base 26 ty 32 i0 (.agg #[.int .i64 0, .bool false, .int .i64 0, .int .i64 0]) 4 32 Try.underlying26 hi hz0 hz1 hz2 rfl (by decide) v L.length (wcells L) hown ⟨g, 0, none⟩ 1 1 (wone q) rfl (fun j u hj => by
    have hadd : (⟨g, 0, none⟩ : Addr).add j = ⟨g, 0 + j, none⟩ := by unfold Addr.add; split <;> simp_all
    rw [hadd, Nat.zero_add]
    simpa [World.cell?, hg, wone] using hj) (fun u hu => by
    simp only [wone, List.mem_cons, List.mem_nil_iff, or_false] at hu
    rcases hu with rfl | rfl | rfl | rfl <;> rfl) (by unfold maxLen; omega) (by omega) hbase
  refine ⟨v', w', hr, ?_, hgr, hat.2⟩
  unfold OW
  rw [wcells_snoc, List.length_append]
  exact ho
/-- THE LAW FOR THE WALK. -/
theorem wpList_appendW {ops : Array Oper} {rest : List Oper} {o : Oper} {a : Act} {w : World} {Q : Exit → Act → World → Prop} (hgd : o.guard = none) (s x : Operand)
    (ho : o.op = .call { callee := .builtin .append, args := #[s, x], argTypes := #[26, 26] })
    (base : Nat) (v : Value) (L : List Wnt) (hs : a.eval s = v) (hown : OW w base v L) (g : Nat) (q : Wnt) (hx : a.eval x = .slice (some ⟨g, 0, none⟩) 1 1) (hg : w.heap[g]? = some (.cells #[.int .i64 q.tag, .bool q.must, .int .i64 q.least, .int .i64 q.most] 32 (0, 0)))
    (hl : L.length + 1 ≤ 100000) (hbase : base ≤ w.heap.size)
    (h : ∀ v' w', OW w' base v' (L ++ [q]) → w.grownBy w' v.ownBlock → wpList Try.prog ops Q rest (a.put o.dst v') w') : wpList Try.prog ops Q (o :: rest) a w :=
  wpList_plain hgd fun K hK => by
    obtain ⟨v', w', hr, h2, h3, -⟩ := run_appendW w o.type base hbase v L hown g q hg hl
    unfold Oper.wp execOp
    simp only [ho, resolve, invoke, builtin, Sem.run_bind, Sem.run_pure, Result.andThen_ok, List.map_toArray, List.map_cons, List.map_nil, hs, hx, hr]
    exact hK _ _ (h v' w' h2 h3)
theorem wpList_appendW_at {ops : Array Oper} {rest : List Oper} {o : Oper} {a : Act} {w : World} {Q : Exit → Act → World → Prop} (hgd : o.guard = none) (s x : Operand)
    (ho : o.op = .call { callee := .builtin .append, args := #[s, x], argTypes := #[26, 26] })
    (base : Nat) (v : Value) (L : List Wnt) (hs : a.eval s = v) (hown : OW w base v L) (g : Nat) (q : Wnt) (hx : a.eval x = .slice (some ⟨g, 0, none⟩) 1 1) (hg : w.heap[g]? = some (.cells #[.int .i64 q.tag, .bool q.must, .int .i64 q.least, .int .i64 q.most] 32 (0, 0)))
    (hl : L.length + 1 ≤ 100000) (hbase : base ≤ w.heap.size)
    (h : ∀ v' w', OW w' base v' (L ++ [q]) → w.grownBy w' v.ownBlock → (v'.ownBlock = v.ownBlock ∨ v'.ownBlock = some w.heap.size) → wpList Try.prog ops Q rest (a.put o.dst v') w') : wpList Try.prog ops Q (o :: rest) a w :=
  wpList_plain hgd fun K hK => by
    obtain ⟨v', w', hr, h2, h3, h4⟩ := run_appendW w o.type base hbase v L hown g q hg hl
    unfold Oper.wp execOp
    simp only [ho, resolve, invoke, builtin, Sem.run_bind, Sem.run_pure, Result.andThen_ok, List.map_toArray, List.map_cons, List.map_nil, hs, hx, hr]
    exact hK _ _ (h v' w' h2 h3 h4)
/-- The law for a step of a region that draws. -/
theorem step_appendW {ops : Array Oper} {o : Oper} {a : Act} {w : World} {K : Act → World → Prop} {Q : Exit → Act → World → Prop} {E : Prop} (hgd : o.guard = none) (s x : Operand)
    (ho : o.op = .call { callee := .builtin .append, args := #[s, x], argTypes := #[26, 26] })
    (base : Nat) (v : Value) (L : List Wnt) (hs : a.eval s = v) (hown : OW w base v L) (g : Nat) (q : Wnt) (hx : a.eval x = .slice (some ⟨g, 0, none⟩) 1 1) (hg : w.heap[g]? = some (.cells #[.int .i64 q.tag, .bool q.must, .int .i64 q.least, .int .i64 q.most] 32 (0, 0)))
    (hl : L.length + 1 ≤ 100000) (hbase : base ≤ w.heap.size)
    (h : ∀ v' w', OW w' base v' (L ++ [q]) → w.grownBy w' v.ownBlock → (v'.ownBlock = v.ownBlock ∨ v'.ownBlock = some w.heap.size) → K (a.put o.dst v') w') :
    if Region.wanted o (yielded ops a.tmps) = true then Oper.wp Try.prog o a w K Q else E := by
  rw [if_pos (by simp [Region.wanted, hgd])]
  obtain ⟨v', w', hr, h2, h3, h4⟩ := run_appendW w o.type base hbase v L hown g q hg hl
  unfold Oper.wp execOp
  simp only [ho, resolve, invoke, builtin, Sem.run_bind, Sem.run_pure, Result.andThen_ok, List.map_toArray, List.map_cons, List.map_nil, hs, hx, hr]
  exact h v' w' h2 h3 h4
/-- THREE ROWS OF WANTS, EACH IN A BLOCK OF ITS OWN, none of them in the block X. -/
structure Tri (B X : Nat) (v1 v2 v3 : Value) (L1 L2 L3 : List Wnt) (W : World) : Prop where
  o1 : OW W B v1 L1
  o2 : OW W B v2 L2
  o3 : OW W B v3 L3
  a12 : ∀ k, v1.ownBlock = some k → v2.ownBlock ≠ some k
  a13 : ∀ k, v1.ownBlock = some k → v3.ownBlock ≠ some k
  a23 : ∀ k, v2.ownBlock = some k → v3.ownBlock ≠ some k
  x1 : v1.ownBlock ≠ some X
  x2 : v2.ownBlock ≠ some X
  x3 : v3.ownBlock ≠ some X
theorem tri_nil (B X : Nat) (W : World) : Tri B X (.slice none 0 0) (.slice none 0 0) (.slice none 0 0) [] [] [] W :=
  ⟨ow_nil _ _, ow_nil _ _, ow_nil _ _, by simp [Value.ownBlock], by simp [Value.ownBlock], by simp [Value.ownBlock], by simp [Value.ownBlock], by simp [Value.ownBlock], by simp [Value.ownBlock]⟩
theorem Tri.below {B X : Nat} {v1 v2 v3 : Value} {L1 L2 L3 : List Wnt} {W W' : World} (h : Tri B X v1 v2 v3 L1 L2 L3 W) (hb : Below W.heap.size W W') : Tri B X v1 v2 v3 L1 L2 L3 W' :=
  ⟨h.o1.below hb, h.o2.below hb, h.o3.below hb, h.a12, h.a13, h.a23, h.x1, h.x2, h.x3⟩
theorem Tri.at {B X : Nat} {v1 v2 v3 : Value} {L1 L2 L3 : List Wnt} {W : World} (h : Tri B X v1 v2 v3 L1 L2 L3 W) (Y : Nat) (hY : W.heap.size ≤ Y) : Tri B Y v1 v2 v3 L1 L2 L3 W :=
  ⟨h.o1, h.o2, h.o3, h.a12, h.a13, h.a23, fun e => by have := (h.o1.lt _ e).2; omega, fun e => by have := (h.o2.lt _ e).2; omega, fun e => by have := (h.o3.lt _ e).2; omega⟩
theorem Tri.to {B X : Nat} {v1 v2 v3 : Value} {L1 L2 L3 : List Wnt} {W : World} (h : Tri B X v1 v2 v3 L1 L2 L3 W) (Y : Nat) (hY : Y < B) : Tri B Y v1 v2 v3 L1 L2 L3 W :=
  ⟨h.o1, h.o2, h.o3, h.a12, h.a13, h.a23, fun e => by have := (h.o1.lt _ e).1; omega, fun e => by have := (h.o2.lt _ e).1; omega, fun e => by have := (h.o3.lt _ e).1; omega⟩
theorem OW.kept {w w' : World} {base : Nat} {v : Value} {L : List Wnt} {row : Option Nat} (h : OW w base v L) (hg : w.grownBy w' row) (hne : ∀ k, v.ownBlock = some k → row ≠ some k) : OW w' base v L := by
  refine World.ownsRow.kept h hg ?_
  rcases h.2 with ⟨rfl, _⟩ | ⟨g, cap, cur, rfl, _⟩
  · exact .inl rfl
  · exact .inr fun e => hne g rfl e.symm
theorem Tri.app1 {B X : Nat} {v1 v2 v3 v' : Value} {L1 L2 L3 L' : List Wnt} {W W' : World} (h : Tri B X v1 v2 v3 L1 L2 L3 W) (hX : X < W.heap.size) (hg : W.grownBy W' v1.ownBlock) (ho : OW W' B v' L') (hat : v'.ownBlock = v1.ownBlock ∨ v'.ownBlock = some W.heap.size) : Tri B X v' v2 v3 L' L2 L3 W' := by
  refine ⟨ho, h.o2.kept hg fun k hk e => h.a12 k e hk, h.o3.kept hg fun k hk e => h.a13 k e hk, fun k hk hk2 => ?_, fun k hk hk2 => ?_, h.a23, fun e => ?_, h.x2, h.x3⟩
  · rcases hat with e | e
    · exact h.a12 k (e ▸ hk) hk2
    · rw [e] at hk; cases hk; have := (h.o2.lt _ hk2).2; omega
  · rcases hat with e | e
    · exact h.a13 k (e ▸ hk) hk2
    · rw [e] at hk; cases hk; have := (h.o3.lt _ hk2).2; omega
  · rcases hat with e2 | e2
    · exact h.x1 (e2 ▸ e)
    · rw [e2] at e; cases e; omega
theorem Tri.app2 {B X : Nat} {v1 v2 v3 v' : Value} {L1 L2 L3 L' : List Wnt} {W W' : World} (h : Tri B X v1 v2 v3 L1 L2 L3 W) (hX : X < W.heap.size) (hg : W.grownBy W' v2.ownBlock) (ho : OW W' B v' L') (hat : v'.ownBlock = v2.ownBlock ∨ v'.ownBlock = some W.heap.size) : Tri B X v1 v' v3 L1 L' L3 W' := by
  refine ⟨h.o1.kept hg fun k hk e => h.a12 k hk e, ho, h.o3.kept hg fun k hk e => h.a23 k e hk, fun k hk hk2 => ?_, h.a13, fun k hk hk2 => ?_, h.x1, fun e => ?_, h.x3⟩
  · rcases hat with e | e
    · exact h.a12 k hk (e ▸ hk2)
    · rw [e] at hk2; cases hk2; have := (h.o1.lt _ hk).2; omega
  · rcases hat with e | e
    · exact h.a23 k (e ▸ hk) hk2
    · rw [e] at hk; cases hk; have := (h.o3.lt _ hk2).2; omega
  · rcases hat with e2 | e2
    · exact h.x2 (e2 ▸ e)
    · rw [e2] at e; cases e; omega
theorem Tri.app3 {B X : Nat} {v1 v2 v3 v' : Value} {L1 L2 L3 L' : List Wnt} {W W' : World} (h : Tri B X v1 v2 v3 L1 L2 L3 W) (hX : X < W.heap.size) (hg : W.grownBy W' v3.ownBlock) (ho : OW W' B v' L') (hat : v'.ownBlock = v3.ownBlock ∨ v'.ownBlock = some W.heap.size) : Tri B X v1 v2 v' L1 L2 L' W' := by
  refine ⟨h.o1.kept hg fun k hk e => h.a13 k hk e, h.o2.kept hg fun k hk e => h.a23 k hk e, ho, h.a12, fun k hk hk2 => ?_, fun k hk hk2 => ?_, h.x1, h.x2, fun e => ?_⟩
  · rcases hat with e | e
    · exact h.a13 k hk (e ▸ hk2)
    · rw [e] at hk2; cases hk2; have := (h.o1.lt _ hk).2; omega
  · rcases hat with e | e
    · exact h.a23 k hk (e ▸ hk2)
    · rw [e] at hk2; cases hk2; have := (h.o2.lt _ hk).2; omega
  · rcases hat with e2 | e2
    · exact h.x3 (e2 ▸ e)
    · rw [e2] at e; cases e; omega
theorem Tri.set {B X : Nat} {v1 v2 v3 : Value} {L1 L2 L3 : List Wnt} {W : World} (h : Tri B X v1 v2 v3 L1 L2 L3 W) (i : Nat) (u : Value) : Tri B X v1 v2 v3 L1 L2 L3 (W.setCell ⟨X, i, none⟩ u) :=
  ⟨h.o1.kept (grownBy_setCell W X i u) fun k hk e => h.x1 (by rw [hk]; exact e.symm), h.o2.kept (grownBy_setCell W X i u) fun k hk e => h.x2 (by rw [hk]; exact e.symm), h.o3.kept (grownBy_setCell W X i u) fun k hk e => h.x3 (by rw [hk]; exact e.symm), h.a12, h.a13, h.a23, h.x1, h.x2, h.x3⟩
theorem wg_take (W : List Wnt) (k : Nat) (hk : k < W.length) : W.take (k + 1) = W.take k ++ [wg W k] := by
  have e : wg W k = W[k] := by simp [wg, List.getD_eq_getElem?_getD, hk]
  rw [e]; simp
theorem lessW_snoc (t : Int) (W : List Wnt) (x : Wnt) : lessW t (W ++ [x]) = lessW t W ++ (if x.tag ≠ t then [x] else []) := by
  unfold lessW; rw [List.filter_append]; congr 1
  by_cases h : x.tag ≠ t
  · rw [if_pos h]; simp [h]
  · rw [if_neg h]; simp at h; simp [h]
theorem tightW_snoc (t a b : Int) (W : List Wnt) (x : Wnt) : tightW t a b (W ++ [x]) = tightW t a b W ++ [if x.tag ≠ t then x else ⟨x.tag, x.must, a, b⟩] := by
  unfold tightW; rw [List.map_append]; rfl
theorem withoutW_snoc (t a b : Int) (W : List Wnt) (x : Wnt) : withoutW t a b (W ++ [x]) = withoutW t a b W ++ [if x.tag ≠ t then x else ⟨x.tag, true, a, b⟩] := by
  unfold withoutW; rw [List.map_append]; rfl
theorem restF_snoc (t : Int) (L : List Fld) (x : Fld) : restF t (L ++ [x]) = restF t L ++ (if x.1 ≠ t then [x] else []) := by
  unfold restF; rw [List.filter_append]; congr 1
  by_cases h : x.1 ≠ t
  · rw [if_pos h]; simp [h]
  · rw [if_neg h]; simp at h; simp [h]
theorem want_cells {w : World} {g : Nat} {q : Wnt} (h : w.heap[g]? = some (.cells #[.int .i64 q.tag, .bool q.must, .int .i64 q.least, .int .i64 q.most] 32 (0, 0))) : w.cell? ⟨g, 0, none⟩ = some (.int .i64 q.tag) ∧ w.cell? ⟨g, 1, none⟩ = some (.bool q.must) ∧ w.cell? ⟨g, 2, none⟩ = some (.int .i64 q.least) ∧ w.cell? ⟨g, 3, none⟩ = some (.int .i64 q.most) ∧ ∀ i, w.frozen? ⟨g, i, none⟩ = false :=
  ⟨by simp [World.cell?, h], by simp [World.cell?, h], by simp [World.cell?, h], by simp [World.cell?, h], fun i => by simp [World.frozen?, h]⟩
theorem wrow_lit {w : World} {t a b : Int} {mu : Bool} : WRow (w.alloc (.cells #[.int .i64 t, .bool mu, .int .i64 a, .int .i64 b] 32)) (.slice (some ⟨w.heap.size, 0, none⟩) 1 1) [⟨t, mu, a, b⟩] := by
  refine .inr ⟨w.heap.size, 0, 1, rfl, Nat.le_refl _, by unfold maxLen; omega, fun i hi => ?_⟩
  obtain rfl : i = 0 := by simpa using hi
  exact ⟨(cell_new _ _ _ _).trans rfl, (cell_new _ _ _ _).trans rfl, (cell_new _ _ _ _).trans rfl, (cell_new _ _ _ _).trans rfl⟩
theorem suit_none (v u : Value) (F : List Fld) (L : List Wnt) (w : World) (h : FRow w v F) (h2 : WRow w u L) (hs : suitF F L = none) :
    Calls Try.prog 21 #[v, u] w fun e w' => e = .returned (.tuple #[.int .i64 0, .int .i64 0]) ∧ Below w.heap.size w w' := by
  have := suit_calls v u F L w h h2
  rw [hs] at this
  exact this
theorem suit_some (v u : Value) (F : List Fld) (L : List Wnt) (t : Int) (c : Nat) (w : World) (h : FRow w v F) (h2 : WRow w u L) (hs : suitF F L = some (t, c)) :
    Calls Try.prog 21 #[v, u] w fun e w' => e = .returned (.tuple #[.int .i64 t, .int .i64 (c : Nat)]) ∧ Below w.heap.size w w' := by
  have := suit_calls v u F L w h h2
  rw [hs] at this
  exact this
end Go.Proofs.Ytlohggdabpfkhaa
