/-
  THE BUILT-IN append of numbers of 64 bits: a slice of the call's own, and whatever reads as numbers behind it.
-/
import Derived.Test.YtnghalhmbjiefaaNumAll
import Derived.BigFrame
namespace Go.Proofs.Ytnghalhmbjiefaa
open Go.RowKit Pl

def N64 (d : Nat) : Value := .int .u64 d
theorem info_n64 : (Try.prog.info? 22).map (fun i => (i.zero, i.size, i.bytes)) = some (some (.int .u64 0), 1, 8) := by kernel_rfl
theorem N64_one (l : List Nat) : ∀ u ∈ l.map N64, u.oneCell' = true := by
  intro u hu; simp only [List.mem_map] at hu; obtain ⟨d, _, rfl⟩ := hu; rfl
/-- A slice of the call's own, holding just these numbers. -/
abbrev OwnN (w : World) (base : Nat) (v : Value) (l : List Nat) : Prop := w.ownsRow base 22 1 v l.length (l.map N64)
theorem nrow_cellsN {w : World} {b off : Nat} {m : List Nat} (h : ∀ i, i < m.length → w.cell? ⟨b, off + i, none⟩ = some (.int .u64 (gt m i : Int))) : ∀ j u, (m.map N64)[j]? = some u → w.cell? ((⟨b, off, none⟩ : Addr).add j) = some u := by
  intro j u hu
  have hadd : (⟨b, off, none⟩ : Addr).add j = ⟨b, off + j, none⟩ := by unfold Addr.add; split <;> simp_all
  rw [List.getElem?_map] at hu
  cases hj : m[j]? with
  | none => rw [hj] at hu; simp at hu
  | some d =>
    rw [hj] at hu
    have hlt : j < m.length := (List.getElem?_eq_some_iff.1 hj).1
    rw [hadd, h j hlt]
    simp only [Option.map_some, Option.some.injEq] at hu
    rw [← hu]
    simp [gt, hj, N64]
theorem run_appendN (w : World) (ty : TypeId) (base : Nat) (hbase : base ≤ w.heap.size) (v : Value) (l : List Nat) (hown : OwnN w base v l) (x : Value) (m : List Nat) (hx : NRow w x m) (hl : l.length + m.length ≤ 1000000000) :
    ∃ v' w', (Builtin.append_ #[25, 25] ty #[v, x]).run Try.prog w = .ok v' w' ∧ OwnN w' base v' (l ++ m) ∧ w.grownBy w' v.ownBlock := by
  obtain ⟨i0, hi, hz0, hz1, hz2⟩ := info_parts info_n64
  have fin : ∀ (ad : Addr) (c : Nat), x = .slice (some ad) m.length c → (∀ j u, (m.map N64)[j]? = some u → w.cell? (ad.add j) = some u) →
      ∃ v' w', (Builtin.append_ #[25, 25] ty #[v, x]).run Try.prog w = .ok v' w' ∧ OwnN w' base v' (l ++ m) ∧ w.grownBy w' v.ownBlock := by
    rintro ad c rfl hcells
    obtain ⟨v', w', hr, ho, hg, _⟩ := run_append_own (P := Try.prog) w base 25 ty 22 i0 (.int .u64 0) 1 8 Try.underlying25 hi hz0 hz1 hz2 rfl (by decide) v l.length (l.map N64) hown ad m.length c (m.map N64) (by simp) hcells (N64_one m) (by unfold maxLen; omega) (by omega) hbase
    refine ⟨v', w', hr, ?_, hg⟩
    unfold OwnN
    rw [List.length_append, List.map_append]
    exact ho
  obtain ⟨_, ⟨a, c, rfl, rfl, hc⟩ | ⟨b, off, cap, rfl, h1, h2, h3⟩⟩ := hx
  · cases a with
    | some ad => exact fin ad c rfl (fun j u hu => by simp at hu)
    | none =>
      refine ⟨v, w, ?_, by simpa using hown, ⟨rfl, rfl, rfl, Nat.le_refl _, fun _ _ _ => rfl⟩⟩
      rcases hown.2 with ⟨rfl, _⟩ | ⟨g, cap, cur, rfl, _, hg, hnc, _⟩
      · simp [Builtin.append_, run_underlying Try.underlying25, sizeOf, typeInfo, hi, Builtin.lenOf, Builtin.firstCells]
      · simp [Builtin.append_, run_underlying Try.underlying25, sizeOf, typeInfo, hi, Builtin.lenOf, Builtin.firstCells, hnc, storeCells]
  · exact fin ⟨b, off, none⟩ cap rfl (nrow_cellsN h3)
/-- THE LAW FOR THE WALK. -/
theorem wpList_appendN {ops : Array Oper} {rest : List Oper} {o : Oper} {a : Act} {w : World} {Q : Exit → Act → World → Prop} (hgd : o.guard = none) (s x : Operand)
    (ho : o.op = .call { callee := .builtin .append, args := #[s, x], argTypes := #[25, 25] })
    (base : Nat) (v : Value) (l : List Nat) (hs : a.eval s = v) (hown : OwnN w base v l) (xv : Value) (m : List Nat) (hx : a.eval x = xv) (hrow : NRow w xv m)
    (hl : l.length + m.length ≤ 1000000000) (hbase : base ≤ w.heap.size)
    (h : ∀ v' w', OwnN w' base v' (l ++ m) → w.grownBy w' v.ownBlock → wpList Try.prog ops Q rest (a.put o.dst v') w') : wpList Try.prog ops Q (o :: rest) a w :=
  wpList_plain hgd fun K hK => by
    obtain ⟨v', w', hr, h2, h3⟩ := run_appendN w o.type base hbase v l hown xv m hrow hl
    unfold Oper.wp execOp
    simp only [ho, resolve, invoke, builtin, Sem.run_bind, Sem.run_pure, Result.andThen_ok, List.map_toArray, List.map_cons, List.map_nil, hs, hx, hr]
    exact hK _ _ (h v' w' h2 h3)
theorem wpList_appendNW {ops : Array Oper} {rest : List Oper} {o : Oper} {a : Act} {w : World} {Q : Exit → Act → World → Prop} (hw : Region.wanted o (yielded ops a.tmps) = true) (s x : Operand)
    (ho : o.op = .call { callee := .builtin .append, args := #[s, x], argTypes := #[25, 25] })
    (base : Nat) (v : Value) (l : List Nat) (hs : a.eval s = v) (hown : OwnN w base v l) (xv : Value) (m : List Nat) (hx : a.eval x = xv) (hrow : NRow w xv m)
    (hl : l.length + m.length ≤ 1000000000) (hbase : base ≤ w.heap.size)
    (h : ∀ v' w', OwnN w' base v' (l ++ m) → w.grownBy w' v.ownBlock → wpList Try.prog ops Q rest (a.put o.dst v') w') : wpList Try.prog ops Q (o :: rest) a w :=
  BigFrame.wpList_want hw fun K hK => by
    obtain ⟨v', w', hr, h2, h3⟩ := run_appendN w o.type base hbase v l hown xv m hrow hl
    unfold Oper.wp execOp
    simp only [ho, resolve, invoke, builtin, Sem.run_bind, Sem.run_pure, Result.andThen_ok, List.map_toArray, List.map_cons, List.map_nil, hs, hx, hr]
    exact hK _ _ (h v' w' h2 h3)
theorem below_appendN {w w' : World} {base : Nat} {v : Value} {l : List Nat} (hown : OwnN w base v l) (hg : w.grownBy w' v.ownBlock) (hbase : base ≤ w.heap.size) : Below base w w' :=
  (Below.refl base w).grown hg hbase (fun k hk => (hown.lt k hk).1)
theorem ownN_lit (w : World) (l : List Nat) (cs : Array Value) (g n c : Nat) (hcs : cs = (l.map N64).toArray) (hg : g = w.heap.size) (hn : n = l.length) (hc : c = l.length) (hl : l.length ≤ 1000) (base : Nat) (hb : base ≤ w.heap.size) : OwnN (w.alloc (.cells cs 22)) base (.slice (some ⟨g, 0, none⟩) n c) l := by
  subst hcs hg hn hc
  have := World.ownsRow_lit (base := base) (e := 22) (size := 1) w (l.map N64).toArray l.length hb (by unfold maxLen; omega) (by simp)
  simpa using this
theorem NRow.of_ownN {w : World} {base : Nat} {v : Value} {l : List Nat} (h : OwnN w base v l) (hb : ∀ x ∈ l, x < 18446744073709551616) : NRow w v l := by
  refine ⟨hb, ?_⟩
  obtain ⟨hlen, ⟨rfl, hn⟩ | ⟨g, cap, cur, rfl, h1, h2, h3, h4, h5, h6⟩⟩ := h
  · exact .inl ⟨none, 0, rfl, List.eq_nil_of_length_eq_zero hn, Nat.zero_le _⟩
  · refine .inr ⟨g, 0, cap, rfl, h3, h4, fun i hi => ?_⟩
    rw [Nat.zero_add, cell_of_row w g i cur _ (0, 0) h2]
    have e : (cur.toList.take (l.length * 1))[i]? = (l.map N64)[i]? := by rw [h6]
    rw [List.getElem?_take, if_pos (by omega)] at e
    simp only [Array.getElem?_toList] at e
    rw [e]
    simp [gt, hi, N64]
theorem ownN_shape {w : World} {base : Nat} {v : Value} {l : List Nat} (h : OwnN w base v l) : ∃ a c, v = .slice a l.length c ∧ l.length ≤ c ∧ c ≤ maxLen := by
  rcases h.2 with ⟨rfl, h0⟩ | ⟨g, cap, cur, rfl, h1, h2, h3, h4, _⟩
  · exact ⟨none, 0, by rw [h0], by omega, by unfold maxLen; omega⟩
  · exact ⟨_, cap, rfl, h3, h4⟩
end Go.Proofs.Ytnghalhmbjiefaa
