/-
  SLICES OF SLICES OF BYTES OF THE CALL's OWN: each with memory of its own; append of one more.
-/
import Derived.Test.YteaeedhhdnkldaaFrameSeq
import Derived.Test.YteaeedhhdnkldaaFieldRead
import Derived.Test.YteaeedhhdnkldaaMade02
namespace Go.Proofs.Yteaeedhhdnkldaa
open Go.RowKit Go.Shelf Pl

theorem info_row : (Try.prog.info? 22).map (fun i => (i.zero, i.size, i.bytes)) = some (some (.slice none 0 0), 1, 24) := by kernel_rfl

def mt (L : List (List Nat)) (i : Nat) : List Nat := L.getD i []
/-- THE VALUES V ARE ROWS OF THE CALL's OWN THAT HOLD THE LISTS L, NO TWO IN ONE BLOCK. -/
def MVal (w : World) (base : Nat) (V : List Value) (L : List (List Nat)) : Prop :=
  V.length = L.length ∧ (∀ i < L.length, Own8 w base (V.getD i undef) (mt L i)) ∧ (∀ i j, i < j → j < L.length → ∀ k, (V.getD i undef).ownBlock = some k → (V.getD j undef).ownBlock ≠ some k)
/-- A SLICE OF THE CALL's OWN THAT HOLDS LISTS OF BYTES, EACH WITH MEMORY OF ITS OWN. -/
def MOwn (w : World) (base : Nat) (v : Value) (L : List (List Nat)) : Prop :=
  ∃ V : List Value, w.ownsRow base 22 1 v L.length V ∧ MVal w base V L
theorem mt_snoc (L : List (List Nat)) (p : List Nat) (i : Nat) (hi : i < L.length) : mt (L ++ [p]) i = mt L i := by
  simp [mt, List.getD_eq_getElem?_getD, List.getElem?_append_left hi]
theorem mt_last (L : List (List Nat)) (p : List Nat) : mt (L ++ [p]) L.length = p := by
  simp [mt, List.getD_eq_getElem?_getD]
theorem mval_nil (w : World) (base : Nat) : MVal w base [] [] := ⟨rfl, fun _ hi => absurd hi (Nat.not_lt_zero _), fun _ _ _ hj => absurd hj (Nat.not_lt_zero _)⟩
theorem mown_nil (w : World) (base : Nat) : MOwn w base (.slice none 0 0) [] := ⟨[], World.ownsRow_nil _ _ _ _, mval_nil _ _⟩
/-- What turns no row of bytes keeps them. -/
theorem MVal.keep {w w' : World} {base : Nat} {V : List Value} {L : List (List Nat)} {row : Option Nat} (h : MVal w base V L) (hg : w.grownBy w' row) (hr : ∀ r c t, row = some r → w.heap[r]? = some (.cells c t (0, 0)) → t ≠ 5) : MVal w' base V L := by
  obtain ⟨h1, h2, h3⟩ := h
  refine ⟨h1, fun i hi => (h2 i hi).kept hg ?_, h3⟩
  rcases (h2 i hi).2 with ⟨e, _⟩ | ⟨g, cap, cur, e, _, hgb, _⟩
  · rw [e]; exact .inl rfl
  · rw [e]; exact .inr fun e => hr g cur _ e.symm hgb rfl
theorem MOwn.keep {w w' : World} {base : Nat} {v : Value} {L : List (List Nat)} {row : Option Nat} (h : MOwn w base v L) (hg : w.grownBy w' row) (hr : ∀ r c t, row = some r → w.heap[r]? = some (.cells c t (0, 0)) → t ≠ 5 ∧ t ≠ 22) : MOwn w' base v L := by
  obtain ⟨V, h2, h3⟩ := h
  refine ⟨V, h2.kept hg ?_, h3.keep hg fun r c t e hh => (hr r c t e hh).1⟩
  rcases h2.2 with ⟨rfl, _⟩ | ⟨g, cap, cur, rfl, _, hgb, _⟩
  · exact .inl rfl
  · exact .inr fun e => (hr g cur _ e.symm hgb).2 rfl
theorem MOwn.own {A B : World} {base : Nat} {v : Value} {L : List (List Nat)} {row : Option Nat} (h : MOwn A base v L) (hg : A.grownBy B row) (hr : ∀ r, row = some r → ∃ o : Obj, A.heap[r]? = some o ∧ o.isCells = false) : MOwn B base v L :=
  h.keep hg fun r c t e hh => by
    obtain ⟨o, ho, hc⟩ := hr r e
    rw [hh] at ho
    cases ho
    cases hc
theorem MVal.below {w w' : World} {base : Nat} {V : List Value} {L : List (List Nat)} (h : MVal w base V L) (hb : Below w.heap.size w w') : MVal w' base V L := h.keep (grownBy_of_below hb none) fun r c t e => by cases e
theorem MOwn.below {w w' : World} {base : Nat} {v : Value} {L : List (List Nat)} (h : MOwn w base v L) (hb : Below w.heap.size w w') : MOwn w' base v L := h.keep (grownBy_of_below hb none) fun r c t e => by cases e
theorem MOwn.shape {w : World} {base : Nat} {v : Value} {L : List (List Nat)} (h : MOwn w base v L) : ∃ a c, v = .slice a L.length c := by
  obtain ⟨V, h2, _⟩ := h
  exact owns_shape h2
theorem own8_thruM {w4 W5 : World} {base n : Nat} {v u : Value} {l : List Nat} {xs : List Value} {tmp : Obj} (h : Own8 w4 base u l) (hrow : w4.ownsRow base 22 1 v n xs) (hgrow : (w4.alloc tmp).grownBy W5 v.ownBlock) : Own8 W5 base u l := by
  have h1 : Own8 (w4.alloc tmp) base u l := h.alloc _
  refine h1.kept hgrow ?_
  rcases h.2 with ⟨e, _⟩ | ⟨g, cap, cur, e, _, hgb, _⟩
  · rw [e]; exact .inl rfl
  · refine .inr fun e2 => ?_
    rcases hrow.2 with ⟨e3, _⟩ | ⟨g2, cap2, cur2, e3, _, hgb2, _⟩
    · rw [e, e3] at e2; simp [Value.ownBlock] at e2
    · rw [e, e3] at e2
      simp only [Value.ownBlock, Option.some.injEq] at e2
      subst e2
      rw [hgb] at hgb2
      simp at hgb2
/-- One list more. -/
theorem MVal.snoc {w4 W5 : World} {base m : Nat} {v u : Value} {L : List (List Nat)} {V : List Value} {p : List Nat} {tmp : Obj} (hV : MVal w4 base V L) (hrow : w4.ownsRow base 22 1 v L.length V) (hu : Own8 w4 base u p) (hgrow : (w4.alloc tmp).grownBy W5 v.ownBlock)
    (hlt : ∀ i < L.length, ∀ k, (V.getD i undef).ownBlock = some k → k < m) (hge : ∀ k, u.ownBlock = some k → m ≤ k) : MVal W5 base (V ++ [u]) (L ++ [p]) := by
  obtain ⟨h1, h2, h3⟩ := hV
  refine ⟨by simp [h1], fun i hi => ?_, fun i j hij hj k hk => ?_⟩
  · simp only [List.length_append, List.length_cons, List.length_nil] at hi
    by_cases h : i < L.length
    · rw [getD_snoc _ _ _ (by omega), mt_snoc _ _ _ h]
      exact own8_thruM (h2 i h) hrow hgrow
    · obtain rfl : i = L.length := by omega
      have e1 : (V ++ [u]).getD L.length undef = u := by rw [← h1]; exact getD_last _ _
      rw [e1, mt_last]
      exact own8_thruM hu hrow hgrow
  · simp only [List.length_append, List.length_cons, List.length_nil] at hj
    have hi : i < L.length := by omega
    rw [getD_snoc _ _ _ (by omega)] at hk
    by_cases h : j < L.length
    · rw [getD_snoc _ _ _ (by omega)]
      exact h3 i j hij h k hk
    · obtain rfl : j = L.length := by omega
      have e1 : (V ++ [u]).getD L.length undef = u := by rw [← h1]; exact getD_last _ _
      rw [e1]
      intro e
      have := hlt i hi k hk
      have := hge k e
      omega
theorem MVal.lt {w : World} {base : Nat} {V : List Value} {L : List (List Nat)} (h : MVal w base V L) : ∀ i < L.length, ∀ k, (V.getD i undef).ownBlock = some k → k < w.heap.size := fun i hi k hk => ((h.2.1 i hi).lt k hk).2

/-- append of lists of bytes, as one step of a region that draws, in a round. -/
theorem stepIn_appendM {ops : Array Oper} {o : Oper} {a : Act} {w : World} {K : Act → World → Prop} {Q : Exit → Act → World → Prop} {l n : Nat} {E : Prop} (hg : o.guard = none) (s x : Operand)
    (ho : o.op = .call { callee := .builtin .append, args := #[s, x], argTypes := #[45, 45] })
    (base : Nat) (v : Value) (k : Nat) (xs : List Value) (hs : a.eval s = v) (hown : w.ownsRow base 22 1 v k xs) (ad : Addr) (m c : Nat) (news : List Value) (hx : a.eval x = .slice (some ad) m c) (hl : news.length = m * 1) (hnews : ∀ j u, news[j]? = some u → w.cell? (ad.add j) = some u) (h1 : ∀ u ∈ news, u.oneCell' = true)
    (hk : k + m ≤ 2000000) (hbase : base ≤ w.heap.size)
    (h : ∀ v' w', w'.ownsRow base 22 1 v' (k + m) (xs ++ news) → w.grownBy w' v.ownBlock → (v'.ownBlock = v.ownBlock ∨ v'.ownBlock = some w.heap.size) → K (a.put o.dst v') w') :
    if Region.wanted o (yielded ops a.tmps) = true then Oper.wpIn (Fence.wide.inRound l) n Try.prog o a w K Q else E := by
  rw [if_pos (by simp [Region.wanted, hg])]
  obtain ⟨i0, hi, hz0, hz1, hz2⟩ := info_parts info_row
  obtain ⟨v', w', hr, h2, h3, -, h5⟩ := run_append_own_at (P := Try.prog) w base 45 o.type 22 i0 (.slice none 0 0) 1 24 Try.underlying45 hi hz0 hz1 hz2 rfl (by decide) v k xs hown ad m c news hl hnews h1 (by unfold maxLen; omega) (by omega) hbase
  unfold Oper.wpIn
  refine ⟨fun _ _ => trivial, ?_⟩
  rw [Oper.semAt_eq _ _ _ (fun c e => by rw [ho] at e; cases e)]
  unfold execOp
  simp only [ho, resolve, invoke, builtin, Sem.run_bind, Sem.run_pure, Result.andThen_ok, List.map_toArray, List.map_cons, List.map_nil, hs, hx, hr]
  exact h v' w' h2 h3 h5
/-- append of lists of bytes. -/
theorem wpList_appendM {ops : Array Oper} {rest : List Oper} {o : Oper} {a : Act} {w : World} {Q : Exit → Act → World → Prop} (hgd : o.guard = none) (s x : Operand)
    (ho : o.op = .call { callee := .builtin .append, args := #[s, x], argTypes := #[45, 45] })
    (base : Nat) (v : Value) (k : Nat) (xs : List Value) (hs : a.eval s = v) (hown : w.ownsRow base 22 1 v k xs) (ad : Addr) (m c : Nat) (news : List Value) (hx : a.eval x = .slice (some ad) m c) (hl : news.length = m * 1) (hnews : ∀ j u, news[j]? = some u → w.cell? (ad.add j) = some u) (h1 : ∀ u ∈ news, u.oneCell' = true)
    (hk : k + m ≤ 2000000) (hbase : base ≤ w.heap.size)
    (h : ∀ v' w', w'.ownsRow base 22 1 v' (k + m) (xs ++ news) → w.grownBy w' v.ownBlock → (v'.ownBlock = v.ownBlock ∨ v'.ownBlock = some w.heap.size) → wpList Try.prog ops Q rest (a.put o.dst v') w') : wpList Try.prog ops Q (o :: rest) a w := by
  obtain ⟨i0, hi, hz0, hz1, hz2⟩ := info_parts info_row
  exact wpList_append_own_at w hgd s x 45 ho base 22 i0 (.slice none 0 0) 1 24 Try.underlying45 hi hz0 hz1 hz2 rfl (by decide) v k xs hs hown ad m c news hx hl hnews h1 (by unfold maxLen; omega) (by omega) hbase (fun v' w' h2 h3 _ h5 => h v' w' h2 h3 h5)
end Go.Proofs.Yteaeedhhdnkldaa
