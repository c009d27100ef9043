/-
  ARRAYS OF 24 keys and of 24 bools in blocks of their own; rows of Small; rules for whole arrays.
-/
import Derived.Test.YtjnocijfjkbaiaaHeapO
import Derived.Laws.Tables
import Derived.Laws.Rows
namespace Go.Proofs.Ytjnocijfjkbaiaa
open Go.RowKit Go.Shelf

/-- The cells of 24 keys, and of 24 bools. -/
def kcs (K : Nat → Ky) : Array Value := Array.ofFn fun i : Fin 72 => .int .i64 (if i.val % 3 = 0 then (K (i.val / 3)).1 else if i.val % 3 = 1 then (K (i.val / 3)).2.1 else (K (i.val / 3)).2.2)
def tcs (T : Nat → Bool) : Array Value := Array.ofFn fun i : Fin 24 => .bool (T i.val)
theorem kcs_size (K : Nat → Ky) : (kcs K).size = 72 := by simp [kcs]
theorem tcs_size (T : Nat → Bool) : (tcs T).size = 24 := by simp [tcs]
theorem kcs_get (K : Nat → Ky) (p : Nat) (hp : p < 24) : (kcs K)[p * 3]? = some (.int .i64 (K p).1) ∧ (kcs K)[p * 3 + 1]? = some (.int .i64 (K p).2.1) ∧ (kcs K)[p * 3 + 2]? = some (.int .i64 (K p).2.2) := by
  refine ⟨?_, ?_, ?_⟩
  · rw [kcs, Array.getElem?_ofFn, dif_pos (by omega)]
    simp only [show p * 3 % 3 = 0 by omega, show p * 3 / 3 = p by omega, if_true]
  · rw [kcs, Array.getElem?_ofFn, dif_pos (by omega)]
    simp only [show (p * 3 + 1) % 3 = 1 by omega, show (p * 3 + 1) / 3 = p by omega, if_true, show ¬ (1 : Nat) = 0 by omega, if_false]
  · rw [kcs, Array.getElem?_ofFn, dif_pos (by omega)]
    simp only [show (p * 3 + 2) % 3 = 2 by omega, show (p * 3 + 2) / 3 = p by omega, show ¬ (2 : Nat) = 0 by omega, show ¬ (2 : Nat) = 1 by omega, if_false]
theorem tcs_get (T : Nat → Bool) (p : Nat) (hp : p < 24) : (tcs T)[p]? = some (.bool (T p)) := by
  rw [tcs, Array.getElem?_ofFn, dif_pos hp]
theorem kcs_one (K : Nat → Ky) : (kcs K).all (·.oneCell') = true := by
  rw [Array.all_eq_true_iff_forall_mem]
  intro x hx
  simp only [kcs, Array.mem_ofFn] at hx
  obtain ⟨i, rfl⟩ := hx
  rfl
theorem tcs_one (T : Nat → Bool) : (tcs T).all (·.oneCell') = true := by
  rw [Array.all_eq_true_iff_forall_mem]
  intro x hx
  simp only [tcs, Array.mem_ofFn] at hx
  obtain ⟨i, rfl⟩ := hx
  rfl
def setF {α : Type} (K : Nat → α) (p : Nat) (k : α) : Nat → α := fun q => if q = p then k else K q
/-- THE BLOCK b HOLDS 24 KEYS; 24 BOOLS. -/
abbrev KArr (w : World) (b : Nat) (K : Nat → Ky) : Prop := w.heap[b]? = some (.cells (kcs K) 53 (0, 0))
abbrev TArr (w : World) (b : Nat) (T : Nat → Bool) : Prop := w.heap[b]? = some (.cells (tcs T) 54 (0, 0))
theorem KArr.cells {w : World} {b : Nat} {K : Nat → Ky} (h : KArr w b K) (p : Nat) (hp : p < 24) : w.cell? ⟨b, p * 3, none⟩ = some (.int .i64 (K p).1) ∧ w.cell? ⟨b, p * 3 + 1, none⟩ = some (.int .i64 (K p).2.1) ∧ w.cell? ⟨b, p * 3 + 2, none⟩ = some (.int .i64 (K p).2.2) ∧ ∀ i, w.frozen? ⟨b, i, none⟩ = false := by
  obtain ⟨g0, g1, g2⟩ := kcs_get K p hp
  exact ⟨by rw [cell_of_row _ _ _ _ _ (0, 0) h]; exact g0, by rw [cell_of_row _ _ _ _ _ (0, 0) h]; exact g1, by rw [cell_of_row _ _ _ _ _ (0, 0) h]; exact g2, fun i => by simp [World.frozen?, h]⟩
theorem TArr.cells {w : World} {b : Nat} {T : Nat → Bool} (h : TArr w b T) (p : Nat) (hp : p < 24) : w.cell? ⟨b, p, none⟩ = some (.bool (T p)) ∧ ∀ i, w.frozen? ⟨b, i, none⟩ = false :=
  ⟨by rw [cell_of_row _ _ _ _ _ (0, 0) h]; exact tcs_get T p hp, fun i => by simp [World.frozen?, h]⟩
theorem KArr.set {w : World} {b : Nat} {K : Nat → Ky} (h : KArr w b K) (p : Nat) (hp : p < 24) (k : Ky) :
    KArr (((w.setCell ⟨b, p * 3, none⟩ (.int .i64 k.1)).setCell ⟨b, p * 3 + 1, none⟩ (.int .i64 k.2.1)).setCell ⟨b, p * 3 + 2, none⟩ (.int .i64 k.2.2)) b (setF K p k) := by
  have h3 := heap_setC (heap_setC (heap_setC h (p * 3) (.int .i64 k.1)) (p * 3 + 1) (.int .i64 k.2.1)) (p * 3 + 2) (.int .i64 k.2.2)
  refine h3.trans (congrArg (fun c => some (Obj.cells c 53 (0, 0))) ?_)
  apply Array.ext_getElem?
  intro i
  by_cases hi : i < 72
  · have hj : i / 3 < 24 := by omega
    obtain ⟨g0, g1, g2⟩ := kcs_get K (i / 3) hj
    obtain ⟨e0, e1, e2⟩ := kcs_get (setF K p k) (i / 3) hj
    have hs := kcs_size K
    simp only [Array.getElem?_setIfInBounds, Array.size_setIfInBounds, hs]
    have hr : i = i / 3 * 3 ∨ i = i / 3 * 3 + 1 ∨ i = i / 3 * 3 + 2 := by omega
    generalize i / 3 = j at *
    by_cases c : j = p
    · subst c
      rw [show setF K j k j = k by simp [setF]] at e0 e1 e2
      rcases hr with e | e | e
      · subst e; rw [if_neg (by omega), if_neg (by omega), if_pos rfl, if_pos (by omega), e0]
      · subst e; rw [if_neg (by omega), if_pos rfl, if_pos (by omega), e1]
      · subst e; rw [if_pos rfl, if_pos (by omega), e2]
    · rw [show setF K p k j = K j by simp [setF, c]] at e0 e1 e2
      rw [if_neg (by omega), if_neg (by omega), if_neg (by omega)]
      rcases hr with e | e | e
      · subst e; rw [g0, e0]
      · subst e; rw [g1, e1]
      · subst e; rw [g2, e2]
  · rw [Array.getElem?_eq_none (by simp [kcs_size]; omega), Array.getElem?_eq_none (by rw [kcs_size]; omega)]
theorem TArr.set {w : World} {b : Nat} {T : Nat → Bool} (h : TArr w b T) (p : Nat) (hp : p < 24) (v : Bool) : TArr (w.setCell ⟨b, p, none⟩ (.bool v)) b (setF T p v) := by
  refine (heap_setC h p (.bool v)).trans (congrArg (fun c => some (Obj.cells c 54 (0, 0))) ?_)
  apply Array.ext_getElem?
  intro i
  by_cases hi : i < 24
  · rw [Array.getElem?_setIfInBounds, tcs_size, tcs_get _ i hi, tcs_get _ i hi]
    by_cases c : p = i
    · subst c; simp [setF, hp]
    · rw [if_neg c]; simp [setF, Ne.symm c]
  · rw [Array.getElem?_eq_none (by simp [tcs_size]; omega), Array.getElem?_eq_none (by rw [tcs_size]; omega)]
theorem info_karr : (Try.prog.info? 53).map (·.size) = some 72 := by kernel_rfl
theorem info_tarr : (Try.prog.info? 54).map (·.size) = some 24 := by kernel_rfl
theorem zero_karr : (Try.prog.info? 53).bind (·.zero) = some (.agg (kcs fun _ => (0, 0, 0))) := by kernel_rfl
theorem zero_tarr : (Try.prog.info? 54).bind (·.zero) = some (.agg (tcs fun _ => false)) := by kernel_rfl
/-- A whole array allocated. -/
theorem wpList_alloc_row {ops : Array Oper} {rest : List Oper} {o : Oper} {a : Act} {w : World} {Q : Exit → Act → World → Prop} (hgd : o.guard = none) (ty : TypeId) (ho : o.op = .alloc ty) (cs : Array Value)
    (hz : (Try.prog.info? ty).bind (·.zero) = some (.agg cs)) (h : wpList Try.prog ops Q rest (a.put o.dst (.pointer (some ⟨w.heap.size, 0, none⟩))) (w.alloc (.cells cs ty))) : wpList Try.prog ops Q (o :: rest) a w :=
  wpList_plain hgd fun K hK => by
    have hzv : (zeroValue ty).run Try.prog w = .ok (.agg cs) w := by
      cases hq : Try.prog.info? ty with
      | none => rw [hq] at hz; cases hz
      | some i => rw [hq] at hz; simp [zeroValue, typeInfo, hq, show i.zero = some (.agg cs) from hz]
    unfold Oper.wp execOp
    simp only [ho]
    simp only [Instr.alloc, Sem.run_bind, hzv, Result.andThen_ok, newVar, newRow, Value.cells, Sem.run_pure]
    rw [run_newObj]
    exact hK _ _ h
theorem wpOpIn_load_row {F : Fence} {n : Nat} {ops : Array Oper} {Q : Exit → Act → World → Prop} {i : Nat} {o : Oper} {K : Act → World → Prop} {a : Act} {w : World} (ho : ops[i]? = some o) (hgd : o.guard = none) (ty : TypeId) (x : Operand) (hop : o.op = .load ty x)
    (g : Nat) (hx : a.eval x = .pointer (some ⟨g, 0, none⟩)) (t : TypeId) (cs : Array Value) (fr : Nat × Nat) (m : Nat) (e : TypeId) (hg : w.heap[g]? = some (.cells cs t fr))
    (hu : Try.prog.underlying ty = some (.array m e)) (hi : (Try.prog.info? ty).map (·.size) = some cs.size)
    (h : K (a.put o.dst (.agg cs)) w) : wpOpIn F n Try.prog ops Q i K a w := by
  refine wpOpIn_step ho ?_
  intro K' hK'
  rw [if_pos (by simp [Region.wanted, hgd])]
  refine ⟨fun f hf => ?_, ?_⟩
  · simp [Oper.about, hop] at hf
  · rw [Oper.semAt_eq _ _ _ (by rw [hop]; intro c h; cases h)]
    unfold execOp
    simp only [hop, hx, Instr.loadAt, Instr.sureAddr, Sem.run_bind, Sem.run_pure, Result.andThen_ok, run_loadVar_row w g t ty cs fr (.array m e) hg hu rfl hi]
    exact hK' _ _ h
theorem wpOpIn_store_row {F : Fence} {n : Nat} {ops : Array Oper} {Q : Exit → Act → World → Prop} {i : Nat} {o : Oper} {K : Act → World → Prop} {a : Act} {w : World} (ho : ops[i]? = some o) (hgd : o.guard = none) (ty : TypeId) (x y : Operand) (hop : o.op = .store ty x y)
    (g : Nat) (cells : Array Value) (hx : a.eval x = .pointer (some ⟨g, 0, none⟩)) (hy : a.eval y = .agg cells)
    (t : TypeId) (old : Array Value) (hg : w.heap[g]? = some (.cells old t (0, 0))) (hi : (Try.prog.info? ty).map (·.size) = some cells.size)
    (hold : old.size = cells.size) (h1 : cells.all (·.oneCell') = true)
    (h : K (a.put o.dst undef) (w.setRow g cells)) : wpOpIn F n Try.prog ops Q i K a w := by
  refine wpOpIn_step ho ?_
  intro K' hK'
  rw [if_pos (by simp [Region.wanted, hgd])]
  refine ⟨fun f hf => ?_, ?_⟩
  · simp [Oper.about, hop] at hf
  · rw [Oper.semAt_eq _ _ _ (by rw [hop]; intro c h; cases h)]
    unfold execOp
    simp only [hop, hx, hy, Instr.storeAt, Instr.sureAddr, Sem.run_bind, Sem.run_pure, Result.andThen_ok, run_storeVar_row w g t ty old cells hg hi hold h1]
    exact hK' _ _ h
theorem step_load_row {ops : Array Oper} {o : Oper} {a : Act} {w : World} {K : Act → World → Prop} {Q : Exit → Act → World → Prop} {E : Prop} (hgd : o.guard = none) (ty : TypeId) (x : Operand) (hop : o.op = .load ty x)
    (g : Nat) (hx : a.eval x = .pointer (some ⟨g, 0, none⟩)) (t : TypeId) (cs : Array Value) (fr : Nat × Nat) (m : Nat) (e : TypeId) (hg : w.heap[g]? = some (.cells cs t fr))
    (hu : Try.prog.underlying ty = some (.array m e)) (hi : (Try.prog.info? ty).map (·.size) = some cs.size)
    (h : K (a.put o.dst (.agg cs)) w) : if Region.wanted o (yielded ops a.tmps) = true then Oper.wp Try.prog o a w K Q else E := by
  rw [if_pos (by simp [Region.wanted, hgd])]
  exact wp_load_row ty x hop g hx t cs fr (.array m e) hg hu rfl hi h
theorem step_store_row {ops : Array Oper} {o : Oper} {a : Act} {w : World} {K : Act → World → Prop} {Q : Exit → Act → World → Prop} {E : Prop} (hgd : o.guard = none) (ty : TypeId) (x y : Operand) (hop : o.op = .store ty x y)
    (g : Nat) (cells : Array Value) (hx : a.eval x = .pointer (some ⟨g, 0, none⟩)) (hy : a.eval y = .agg cells)
    (t : TypeId) (old : Array Value) (hg : w.heap[g]? = some (.cells old t (0, 0))) (hi : (Try.prog.info? ty).map (·.size) = some cells.size)
    (hold : old.size = cells.size) (h1 : cells.all (·.oneCell') = true)
    (h : K (a.put o.dst undef) (w.setRow g cells)) : if Region.wanted o (yielded ops a.tmps) = true then Oper.wp Try.prog o a w K Q else E := by
  rw [if_pos (by simp [Region.wanted, hgd])]
  exact wp_store_row ty x y hop g cells hx hy t old hg hi hold h1 h
end Go.Proofs.Ytjnocijfjkbaiaa
