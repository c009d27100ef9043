/-
  THE BUILT-IN append of bytes: a slice of the call's own, and whatever reads as bytes behind it.
-/
import Derived.Test.YteaeedhhdnkldaaNumAll
namespace Go.Proofs.Yteaeedhhdnkldaa
open Go.RowKit Pl

theorem ownBlock_ne {w : World} {base : Nat} {v : Value} {l : List Nat} (h : Own8 w base v l) : ∀ k, v.ownBlock = some k → base ≤ k ∧ k < w.heap.size := h.lt

theorem brow_cells {w : World} {b off : Nat} {m : List Nat} (h : ∀ i, i < m.length → w.cell? ⟨b, off + i, none⟩ = some (.int .u8 (gt m i : Int))) : ∀ j u, (m.map B8)[j]? = some u → w.cell? ((⟨b, off, none⟩ : Addr).add j) = some u := by
  intro j u hu
  have hadd : (⟨b, off, none⟩ : Addr).add j = ⟨b, off + j, none⟩ := by unfold Addr.add; split <;> simp_all
  rw [List.getElem?_map] at hu
  cases hj : m[j]? with
  | none => rw [hj] at hu; simp at hu
  | some d =>
    rw [hj] at hu
    have hlt : j < m.length := (List.getElem?_eq_some_iff.1 hj).1
    rw [hadd, h j hlt]
    simp only [Option.map_some, Option.some.injEq] at hu
    rw [← hu]
    simp [gt, hj, B8]

theorem run_append8 (w : World) (ty : TypeId) (base : Nat) (hbase : base ≤ w.heap.size) (v : Value) (l : List Nat) (hown : Own8 w base v l) (x : Value) (m : List Nat) (hx : BRow w x m) (hl : l.length + m.length ≤ 140737488355328) :
    ∃ v' w', (Builtin.append_ #[22, 22] ty #[v, x]).run Try.prog w = .ok v' w' ∧ Own8 w' base v' (l ++ m) ∧ w.grownBy w' v.ownBlock := by
  obtain ⟨i0, hi, hz0, hz1, hz2⟩ := info_parts info_u8
  have fin : ∀ (ad : Addr) (c : Nat), x = .slice (some ad) m.length c → (∀ j u, (m.map B8)[j]? = some u → w.cell? (ad.add j) = some u) →
      ∃ v' w', (Builtin.append_ #[22, 22] ty #[v, x]).run Try.prog w = .ok v' w' ∧ Own8 w' base v' (l ++ m) ∧ w.grownBy w' v.ownBlock := by
    rintro ad c rfl hcells
    obtain ⟨v', w', hr, ho, hg, _⟩ := run_append_own (P := Try.prog) w base 22 ty 5 i0 (.int .u8 0) 1 1 Try.underlying22 hi hz0 hz1 hz2 rfl (by decide) v l.length (l.map B8) hown ad m.length c (m.map B8) (by simp) hcells (B8_one m) (by unfold maxLen; omega) (by omega) hbase
    refine ⟨v', w', hr, ?_, hg⟩
    unfold Own8
    rw [List.length_append, List.map_append]
    exact ho
  obtain ⟨_, ⟨a, c, rfl, rfl, hc⟩ | ⟨b, off, cap, rfl, h1, h2, h3⟩⟩ := hx
  · cases a with
    | some ad => exact fin ad c rfl (fun j u hu => by simp at hu)
    | none =>
      refine ⟨v, w, ?_, by simpa using hown, ⟨rfl, rfl, rfl, Nat.le_refl _, fun _ _ _ => rfl⟩⟩
      rcases hown.2 with ⟨rfl, _⟩ | ⟨g, cap, cur, rfl, _, hg, hnc, _⟩
      · simp [Builtin.append_, run_underlying Try.underlying22, sizeOf, typeInfo, hi, Builtin.lenOf, Builtin.firstCells]
      · simp [Builtin.append_, run_underlying Try.underlying22, sizeOf, typeInfo, hi, Builtin.lenOf, Builtin.firstCells, hnc, storeCells]
  · exact fin ⟨b, off, none⟩ cap rfl (brow_cells h3)

/-- THE LAW FOR THE WALK. -/
theorem wpList_append8 {ops : Array Oper} {rest : List Oper} {o : Oper} {a : Act} {w : World} {Q : Exit → Act → World → Prop} (hgd : o.guard = none) (s x : Operand)
    (ho : o.op = .call { callee := .builtin .append, args := #[s, x], argTypes := #[22, 22] })
    (base : Nat) (v : Value) (l : List Nat) (hs : a.eval s = v) (hown : Own8 w base v l) (xv : Value) (m : List Nat) (hx : a.eval x = xv) (hrow : BRow w xv m)
    (hl : l.length + m.length ≤ 140737488355328) (hbase : base ≤ w.heap.size)
    (h : ∀ v' w', Own8 w' base v' (l ++ m) → w.grownBy w' v.ownBlock → wpList Try.prog ops Q rest (a.put o.dst v') w') : wpList Try.prog ops Q (o :: rest) a w :=
  wpList_plain hgd fun K hK => by
    obtain ⟨v', w', hr, h2, h3⟩ := run_append8 w o.type base hbase v l hown xv m hrow hl
    unfold Oper.wp execOp
    simp only [ho, resolve, invoke, builtin, Sem.run_bind, Sem.run_pure, Result.andThen_ok, List.map_toArray, List.map_cons, List.map_nil, hs, hx, hr]
    exact hK _ _ (h v' w' h2 h3)

/-- What an append leaves below. -/
theorem below_append {w w' : World} {base : Nat} {v : Value} {l : List Nat} (hown : Own8 w base v l) (hg : w.grownBy w' v.ownBlock) (hbase : base ≤ w.heap.size) : Below base w w' :=
  (Below.refl base w).grown hg hbase (fun k hk => (hown.lt k hk).1)
/-- A row of whatever make stays behind an append to a slice of the call's own, where it lies in other blocks. -/
theorem BRow.grown {w w' : World} {row : Option Nat} {v : Value} {l : List Nat} (h : BRow w v l) (hg : w.grownBy w' row) (hne : ∀ b off cap, v = .slice (some ⟨b, off, none⟩) l.length cap → some b ≠ row) : BRow w' v l := by
  obtain ⟨ha, hn | ⟨b, off, cap, rfl, h1, h2, h3⟩⟩ := h
  · exact ⟨ha, .inl hn⟩
  · exact ⟨ha, .inr ⟨b, off, cap, rfl, h1, h2, fun i hi => hg.cell (h3 i hi) (hne b off cap rfl)⟩⟩
/-- A fresh slice literal of the call's own. -/
theorem own8_lit (w : World) (l : List Nat) (cs : Array Value) (g n c : Nat) (hcs : cs = (l.map B8).toArray) (hg : g = w.heap.size) (hn : n = l.length) (hc : c = l.length) (hl : l.length ≤ 1000) (base : Nat) (hb : base ≤ w.heap.size) : Own8 (w.alloc (.cells cs 5)) base (.slice (some ⟨g, 0, none⟩) n c) l := by
  subst hcs hg hn hc
  have := World.ownsRow_lit (base := base) (e := 5) (size := 1) w (l.map B8).toArray l.length hb (by unfold maxLen; omega) (by simp)
  simpa using this
/-- An owned row that is not empty leads to a block of its own. -/
theorem own8_some {w : World} {base : Nat} {v : Value} {l : List Nat} (h : Own8 w base v l) (hl : 1 ≤ l.length) : ∃ g cap, v = .slice (some ⟨g, 0, none⟩) l.length cap ∧ l.length ≤ cap ∧ cap ≤ maxLen ∧ base ≤ g ∧ g < w.heap.size := by
  rcases h.2 with ⟨_, h0⟩ | ⟨g, cap, cur, rfl, h1, h2, h3, h4, _⟩
  · omega
  · exact ⟨g, cap, rfl, h3, h4, h1, (Array.getElem?_eq_some_iff.1 h2).1⟩
end Go.Proofs.Yteaeedhhdnkldaa
