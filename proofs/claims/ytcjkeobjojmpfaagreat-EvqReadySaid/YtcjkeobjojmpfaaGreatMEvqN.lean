import Derived.Test.YtcjkeobjojmpfaaGreatMEvqM
import Derived.Maps.OwnSet
import Derived.DeepKeys4
/-
  THE MAP OF NAMES: how it lies in memory, how it is asked, written and struck.
-/
namespace Go.Proofs.YtcjkeobjojmpfaaGreat
open Go.RowKit

abbrev wfI (n : Int) : Prop := (Lit.int .i64 n).wf = true
theorem wfI_of {n : Int} (h : -9223372036854775808 ≤ n ∧ n ≤ 9223372036854775807) : wfI n := by simpa [wfI, Lit.wf, IntKind.min, IntKind.max, IntKind.signed, IntKind.bits] using h
/-- How a reference reads, as a value of a map. -/
def refR : Value → Option (DataW Unit × List MemPlace)
  | .agg ⟨[.int .i64 p, .int .i64 l]⟩ => some (.agg [.lit (.int .i64 p), .lit (.int .i64 l)], [])
  | _ => none
def refD (p l : Int) : DataW Unit := .agg [.lit (.int .i64 p), .lit (.int .i64 l)]
theorem refR_mk (p l : Int) : refR (.agg #[.int .i64 p, .int .i64 l]) = some (refD p l, []) := rfl
theorem refR_inv {v : Value} {z : DataW Unit × List MemPlace} (h : refR v = some z) : ∃ p l, v = .agg #[.int .i64 p, .int .i64 l] ∧ z = (refD p l, []) := by
  unfold refR at h
  split at h
  · cases h; exact ⟨_, _, rfl, rfl⟩
  · cases h
theorem refD_inj {p l p' l' : Int} (h : refD p l = refD p' l') : p = p' ∧ l = l' := by
  unfold refD at h
  simpa using h
theorem laidOutP : laidOutB Tryz.prog = true := by kernel_rfl
theorem rowName : (97 : TypeId) < Tryz.prog.types.size := of_decide_eq_true (by kernel_rfl)
theorem wideName : (match Tryz.prog.underlying 97 with | some (.array _ _) | some (.struct _) => true | _ => false) = true := by rw [Tryz.underlying97]
set_option maxRecDepth 1000000 in
theorem lawName : WideMaps.KeyLaw Tryz.prog 97 := deep_law_laid laidOutP (m := 2) (by omega) rowName (by kernel_rfl) wideName
theorem keyedName : Maps.Keyed Tryz.prog 97 := Maps.Keyed.of_law lawName
theorem keyTypeName : Tryz.prog.keyType 97 = true := by kernel_rfl
theorem sizeTypes : ∃ m, Tryz.prog.types.size = m + 1 := ⟨Tryz.prog.types.size - 1, by have h : (0 : Nat) < Tryz.prog.types.size := of_decide_eq_true (by kernel_rfl); omega⟩
theorem cellsName : Tryz.prog.cellsOf 97 = 2 := by kernel_rfl
theorem cellsInt : Tryz.prog.cellsOf 3 = 1 := by kernel_rfl
/-- What a name reads as, as a key. -/
def klN (s q : Int) : Lit := .string (keyBytes [.int .i64 s, .int .i64 q])
theorem keyN {s q : Int} (hs : wfI s) (hq : wfI q) : keyOf Tryz.prog 97 (.agg #[.int .i64 s, .int .i64 q]) = some (klN s q) := by
  obtain ⟨m, hm⟩ := sizeTypes
  unfold keyOf
  simp only [Tryz.underlying97]
  rw [if_pos (by simp [keyTypeName, Value.formed, Tryz.underlying97, cellsName]), hm]
  unfold Program.keyLits
  simp only [Tryz.underlying97, Value.cells]
  rw [if_pos (by rw [cellsName]; exact ⟨rfl, by first | kernel_rfl | simp⟩)]
  simp [Program.keyLits, Tryz.underlying3, cellsInt, hs, hq, klN]
theorem klN_inj {s q s' q' : Int} (hs : wfI s) (hq : wfI q) (hs' : wfI s') (hq' : wfI q') (e : klN s q = klN s' q') : s = s' ∧ q = q' := by
  have h1 := keyN hs hq
  have h2 := keyN hs' hq'
  rw [e] at h1
  have := keyedName.inj h1 h2
  simpa using this
theorem klN_key {s q : Int} (hs : wfI s) (hq : wfI q) : WideAt.IsKeyLit (klN s q) := keyedName.key (keyN hs hq)
theorem zeroRef (w : World) : (zeroValue 94).run Tryz.prog w = .ok (.agg #[.int .i64 0, .int .i64 0]) w := by kernel_rfl

/-- BLOCK b IS A MAP of n names, which are those of f. -/
def NM (w : World) (b n : Nat) (f : Int → Int → Option (Nat × Nat)) : Prop :=
  ∃ D : DataW Unit, w.ownsMap Tryz.prog 97 refR b n D ∧ Maps.size D = n ∧ ∀ s q, wfI s → wfI q → match f s q with
    | none => Maps.has D (klN s q) = false
    | some (p, l) => Maps.has D (klN s q) = true ∧ D.atKey (klN s q) (refD 0 0) = refD p l
theorem NM.lt {w : World} {b n : Nat} {f : Int → Int → Option (Nat × Nat)} (h : NM w b n f) : b < w.heap.size := by obtain ⟨D, h, _⟩ := h; exact h.lt
theorem NM.keep {w w' : World} {b n : Nat} {f : Int → Int → Option (Nat × Nat)} (h : NM w b n f) (e : w'.heap[b]? = w.heap[b]?) : NM w' b n f := by
  obtain ⟨D, ⟨es, clock, hb, r⟩, h2⟩ := h
  exact ⟨D, ⟨es, clock, e.trans hb, r⟩, h2⟩
theorem NM.new (w : World) : NM (w.alloc (.map #[] 0)) w.heap.size 0 (fun _ _ => none) :=
  ⟨.map [], World.ownsMap_made w _ _ _, rfl, fun _ _ _ _ => rfl⟩
theorem ownsMap_size {w : World} {P : Program} {k : TypeId} {R : Value → Option (DataW Unit × List MemPlace)} {b n m : Nat} {D : DataW Unit} (h : w.ownsMap P k R b n D) (e : Maps.size D = m) : w.ownsMap P k R b m D := by
  obtain ⟨es, clock, hb, F, hs, rfl⟩ := h
  have e1 : Maps.size (DataW.map ((es.toList.map (WideElems.rg P k R)).foldr DataW.insert [])) = es.size := by simp [Maps.size, length_sorted]
  exact ⟨es, clock, hb, F, by omega, rfl⟩
def fP (o : Option (Nat × Nat)) : Int := (o.map fun r => (r.1 : Int)).getD 0
def fL (o : Option (Nat × Nat)) : Int := (o.map fun r => (r.2 : Int)).getD 0
/-- 'v, ok := names[name]'. -/
theorem NM.look {w : World} {b n : Nat} {f : Int → Int → Option (Nat × Nat)} (h : NM w b n f) {s q : Int} (hs : wfI s) (hq : wfI q) :
    (Instr.lookup 86 (.map (some b)) (.agg #[.int .i64 s, .int .i64 q]) true).run Tryz.prog w = .ok (.tuple #[.agg #[.int .i64 (fP (f s q)), .int .i64 (fL (f s q))], .bool (f s q).isSome]) w := by
  obtain ⟨D, h1, _, h3⟩ := h
  obtain ⟨v, ps, hr, hv⟩ := h1.look_ok keyedName Tryz.underlying86 (zeroRef w) (refR_mk 0 0) (keyN hs hq)
  obtain ⟨p, l, rfl, hz⟩ := refR_inv hv
  have h4 := h3 s q hs hq
  have hz1 : D.atKey (klN s q) (refD 0 0) = refD p l := congrArg Prod.fst hz
  rw [hr]
  cases hf : f s q with
  | none =>
    rw [hf] at h4
    have h4 : Maps.has D (klN s q) = false := h4
    rw [Maps.atKey_of_not_has h4] at hz1
    obtain ⟨rfl, rfl⟩ := refD_inj hz1
    rw [h4]; rfl
  | some r =>
    obtain ⟨p', l'⟩ := r
    rw [hf] at h4
    obtain ⟨h4, h5⟩ := h4
    rw [h5] at hz1
    obtain ⟨e1, e2⟩ := refD_inj hz1
    rw [h4, ← e1, ← e2]; rfl
/-- 'names[name]'. -/
theorem NM.at {w : World} {b n : Nat} {f : Int → Int → Option (Nat × Nat)} (h : NM w b n f) {s q : Int} (hs : wfI s) (hq : wfI q) :
    (Instr.lookup 86 (.map (some b)) (.agg #[.int .i64 s, .int .i64 q]) false).run Tryz.prog w = .ok (.agg #[.int .i64 (fP (f s q)), .int .i64 (fL (f s q))]) w := by
  obtain ⟨D, h1, _, h3⟩ := h
  obtain ⟨v, ps, hr, hv⟩ := h1.lookup keyedName Tryz.underlying86 (zeroRef w) (refR_mk 0 0) (keyN hs hq)
  obtain ⟨p, l, rfl, hz⟩ := refR_inv hv
  have h4 := h3 s q hs hq
  have hz1 : D.atKey (klN s q) (refD 0 0) = refD p l := congrArg Prod.fst hz
  rw [hr]
  cases hf : f s q with
  | none =>
    rw [hf] at h4
    have h4 : Maps.has D (klN s q) = false := h4
    rw [Maps.atKey_of_not_has h4] at hz1
    obtain ⟨rfl, rfl⟩ := refD_inj hz1
    rfl
  | some r =>
    obtain ⟨p', l'⟩ := r
    rw [hf] at h4
    obtain ⟨h4, h5⟩ := h4
    rw [h5] at hz1
    obtain ⟨e1, e2⟩ := refD_inj hz1
    rw [← e1, ← e2]; rfl
theorem klN_ne {s q s' q' : Int} (hs : wfI s) (hq : wfI q) (hs' : wfI s') (hq' : wfI q') (h : ¬ (s = s' ∧ q = q')) : klN s q ≠ klN s' q' := fun e => h (klN_inj hs hq hs' hq' e)
/-- 'names[name] = r', of a name that is not there. -/
theorem NM.store {w : World} {b n : Nat} {f : Int → Int → Option (Nat × Nat)} (h : NM w b n f) {s q : Int} (hs : wfI s) (hq : wfI q) (hn : n < maxLen) (hf : f s q = none) (p l : Nat) :
    ∃ w', (Instr.mapUpdate 86 (.map (some b)) (.agg #[.int .i64 s, .int .i64 q]) (.agg #[.int .i64 (p : Int), .int .i64 (l : Int)])).run Tryz.prog w = .ok () w' ∧ NM w' b (n + 1) (nmS f s q (some (p, l))) ∧ w.grownBy w' (some b) := by
  obtain ⟨D, h1, h2, h3⟩ := h
  obtain ⟨w', hr, o1, o2⟩ := h1.store keyedName Tryz.underlying86 hn (keyN hs hq) (refR_mk p l)
  have hh : Maps.has D (klN s q) = false := by have := h3 s q hs hq; rw [hf] at this; exact this
  refine ⟨w', hr, ⟨_, o1, ?_, fun s' q' hs' hq' => ?_⟩, o2.grown⟩
  · rw [Maps.size_put (h1.tidy keyedName), hh, h2]; simp
  · unfold nmS
    by_cases e : s' = s ∧ q' = q
    · obtain ⟨rfl, rfl⟩ := e
      rw [if_pos ⟨rfl, rfl⟩]
      exact ⟨Maps.has_put_same h1.isMap (klN_key hs hq) _, Maps.atKey_put_same h1.isMap (klN_key hs hq) _ _⟩
    · rw [if_neg e]
      have hne := klN_ne hs' hq' hs hq e
      have := h3 s' q' hs' hq'
      cases hf' : f s' q' with
      | none => rw [hf'] at this; exact (Maps.has_put_other hne _).trans this
      | some r => rw [hf'] at this; exact ⟨(Maps.has_put_other hne _).trans this.1, (Maps.atKey_put_other hne _ _).trans this.2⟩
/-- 'delete(names, name)', of a name that is there. -/
theorem NM.drop {w : World} {b n : Nat} {f : Int → Int → Option (Nat × Nat)} (h : NM w b (n + 1) f) {s q : Int} (hs : wfI s) (hq : wfI q) {r : Nat × Nat} (hf : f s q = some r) (ty : TypeId) :
    ∃ w', (Builtin.delete_ #[86, 97] ty #[.map (some b), .agg #[.int .i64 s, .int .i64 q]]).run Tryz.prog w = .ok (.tuple #[]) w' ∧ NM w' b n (nmS f s q none) ∧ w.grownBy w' (some b) := by
  obtain ⟨D, h1, h2, h3⟩ := h
  obtain ⟨w', hr, o1, o2⟩ := h1.drop keyedName Tryz.underlying86 (keyN hs hq) ty
  have hh : Maps.has D (klN s q) = true := by have := h3 s q hs hq; rw [hf] at this; exact this.1
  have hsz : Maps.size (D.del (klN s q)) = n := by have := Maps.size_del (h1.tidy keyedName) (k := klN s q); rw [hh, h2] at this; simpa using this
  refine ⟨w', hr, ⟨_, ownsMap_size o1 hsz, hsz, fun s' q' hs' hq' => ?_⟩, o2.grown⟩
  unfold nmS
  by_cases e : s' = s ∧ q' = q
  · obtain ⟨rfl, rfl⟩ := e
    rw [if_pos ⟨rfl, rfl⟩]
    exact Maps.has_del_same
  · rw [if_neg e]
    have hne := klN_ne hs' hq' hs hq e
    have := h3 s' q' hs' hq'
    cases hf' : f s' q' with
    | none => rw [hf'] at this; exact (Maps.has_del_other hne).trans this
    | some r => rw [hf'] at this; exact ⟨(Maps.has_del_other hne).trans this.1, (Maps.atKey_del_other hne _).trans this.2⟩
theorem NM.len {w : World} {b n : Nat} {f : Int → Int → Option (Nat × Nat)} (h : NM w b n f) (ty : TypeId) : (Builtin.len_ #[86] ty #[.map (some b)]).run Tryz.prog w = .ok (.int .i64 (n : Int)) w := by
  obtain ⟨D, h1, h2, _⟩ := h
  have := h1.len Tryz.underlying86 ty
  rwa [h2] at this
theorem NM.blk {w : World} {b n : Nat} {f : Int → Int → Option (Nat × Nat)} (h : NM w b n f) : ∃ es clock, w.heap[b]? = some (.map es clock) ∧ es.size = n := by
  obtain ⟨D, ⟨es, clock, hb, F, hs, rfl⟩, h2, _⟩ := h
  exact ⟨es, clock, hb, by rw [← h2]; simp [Maps.size, length_sorted]⟩
/-- 'names[name] = r', at the operation in a region. -/
theorem step_storeN {w : World} {ops : Array Oper} {o : Oper} {a : Act} {K : Act → World → Prop} {Q : Exit → Act → World → Prop} {E : Prop} (hg : o.guard = none) (m x v : Operand) (ho : o.op = .mapUpdate 86 m x v)
    (b n : Nat) (f : Int → Int → Option (Nat × Nat)) (s q : Int) (p l : Nat) (hm : a.eval m = .map (some b)) (hx : a.eval x = .agg #[.int .i64 s, .int .i64 q]) (hv : a.eval v = .agg #[.int .i64 (p : Int), .int .i64 (l : Int)]) (hN : NM w b n f) (hs : wfI s) (hq : wfI q) (hn : n < maxLen) (hf : f s q = none)
    (h : ∀ w', NM w' b (n + 1) (nmS f s q (some (p, l))) → w.grownBy w' (some b) → K (a.put o.dst undef) w') : if Region.wanted o (yielded ops a.tmps) = true then Oper.wp Tryz.prog o a w K Q else E := by
  rw [if_pos (by simp [Region.wanted, hg])]
  obtain ⟨w', hr, r1, r2⟩ := hN.store hs hq hn hf p l
  unfold Oper.wp
  simp [execOp, ho, hm, hx, hv, hr, Result.andThen]
  exact h w' r1 r2
/-- 'delete(names, name)', at the operation in a region. -/
theorem step_dropN {w : World} {ops : Array Oper} {o : Oper} {a : Act} {K : Act → World → Prop} {Q : Exit → Act → World → Prop} {E : Prop} (hg : o.guard = none) (m x : Operand) (ho : o.op = .call { callee := .builtin .delete, args := #[m, x], argTypes := #[86, 97] })
    (b n : Nat) (f : Int → Int → Option (Nat × Nat)) (s q : Int) (r : Nat × Nat) (hm : a.eval m = .map (some b)) (hx : a.eval x = .agg #[.int .i64 s, .int .i64 q]) (hN : NM w b (n + 1) f) (hs : wfI s) (hq : wfI q) (hf : f s q = some r)
    (h : ∀ w', NM w' b n (nmS f s q none) → w.grownBy w' (some b) → K (a.put o.dst (.tuple #[])) w') : if Region.wanted o (yielded ops a.tmps) = true then Oper.wp Tryz.prog o a w K Q else E := by
  rw [if_pos (by simp [Region.wanted, hg])]
  obtain ⟨w', hr, r1, r2⟩ := hN.drop hs hq hf o.type
  unfold Oper.wp execOp
  simp only [ho, resolve, invoke, builtin, Sem.run_bind, Sem.run_pure, Result.andThen_ok, List.map_toArray, List.map_cons, List.map_nil, hm, hx, hr]
  exact h w' r1 r2
/-- 'len(names)', at the operation. -/
theorem wpList_lenN {w : World} {ops : Array Oper} {rest : List Oper} {o : Oper} {a : Act} {Q : Exit → Act → World → Prop} (hg : o.guard = none) (m : Operand) (hop : o.op = Op.call { callee := Callee.builtin Builtin.len, args := #[m], argTypes := #[86] })
    (b n : Nat) (f : Int → Int → Option (Nat × Nat)) (hm : a.eval m = .map (some b)) (hN : NM w b n f) (hK : wpList Tryz.prog ops Q rest (a.put o.dst (.int .i64 (n : Int))) w) : wpList Tryz.prog ops Q (o :: rest) a w := by
  refine wpList_plain hg fun K' hK' => ?_
  unfold Oper.wp
  simp [execOp, hop, resolve, invoke, builtin, hm, hN.len o.type, Result.andThen]
  exact hK' _ _ hK
end Go.Proofs.YtcjkeobjojmpfaaGreat
