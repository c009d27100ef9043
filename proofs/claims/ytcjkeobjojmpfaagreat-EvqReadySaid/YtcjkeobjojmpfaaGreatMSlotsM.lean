import Derived.Test.YtcjkeobjojmpfaaGreatMEvqP
import Derived.Test.YtcjkeobjojmpfaaGreatMHeapMem
/-
  HOW A TABLE OF PLACES LIES IN MEMORY.
-/
namespace Go.Proofs.YtcjkeobjojmpfaaGreat.Sl
open Go.RowKit

/-- What the first cell of a spot holds: the place, if it was taken once. -/
def lpN (S : Tb) (p : Nat) : Int := if S.life p = 0 then 0 else (p : Int)
/-- THE BLOCK g HOLDS THE n SPOTS of a table. -/
structure SRow (w : World) (g n : Nat) (S : Tb) (nx : Nat → Int) : Prop where
  blk : ∃ cur, w.heap[g]? = some (.cells cur 136 (0, 0)) ∧ cur.size = n * 4
  cell : ∀ p, p < n → w.cell? ⟨g, p * 4, none⟩ = some (.int .i64 (lpN S p)) ∧ w.cell? ⟨g, p * 4 + 1, none⟩ = some (.int .i64 (S.life p : Int)) ∧ w.cell? ⟨g, p * 4 + 2, none⟩ = some (.bool (S.tk p)) ∧ w.cell? ⟨g, p * 4 + 3, none⟩ = some (.int .i64 (nx p))
theorem SRow.lt {w : World} {g n : Nat} {S : Tb} {nx : Nat → Int} (h : SRow w g n S nx) : g < w.heap.size := by
  obtain ⟨cur, hc, _⟩ := h.blk
  exact (Array.getElem?_eq_some_iff.1 hc).1
theorem SRow.frozen {w : World} {g n : Nat} {S : Tb} {nx : Nat → Int} (h : SRow w g n S nx) (i : Nat) : w.frozen? ⟨g, i, none⟩ = false := by
  obtain ⟨cur, hc, _⟩ := h.blk
  simp [World.frozen?, hc]
theorem SRow.keep {w w' : World} {g n : Nat} {S : Tb} {nx : Nat → Int} (h : SRow w g n S nx) (e : w'.heap[g]? = w.heap[g]?) : SRow w' g n S nx :=
  ⟨by rw [e]; exact h.blk, fun p hp => by rw [cell_blk e, cell_blk e, cell_blk e, cell_blk e]; exact h.cell p hp⟩
theorem spot_blk {w : World} {g n : Nat} (h : ∃ cur, w.heap[g]? = some (.cells cur 136 (0, 0)) ∧ cur.size = n * 4) (i : Nat) (v : Value) : ∃ cur, (w.setCell ⟨g, i, none⟩ v).heap[g]? = some (.cells cur 136 (0, 0)) ∧ cur.size = n * 4 := by
  obtain ⟨cur, hc, hs⟩ := h
  exact ⟨_, heap_setC hc i v, by simpa using hs⟩
/-- The next place stored. -/
theorem SRow.next {w : World} {g n : Nat} {S : Tb} {nx : Nat → Int} (h : SRow w g n S nx) {p : Nat} (hp : p < n) (v : Int) :
    SRow (w.setCell ⟨g, p * 4 + 3, none⟩ (.int .i64 v)) g n S (fun q => if q = p then v else nx q) := by
  refine ⟨spot_blk h.blk _ _, fun q hq => ?_⟩
  obtain ⟨a0, a1, a2, a3⟩ := h.cell q hq
  rw [cell_other _ _ _ _ _ (by omega), cell_other _ _ _ _ _ (by omega), cell_other _ _ _ _ _ (by omega)]
  refine ⟨a0, a1, a2, ?_⟩
  by_cases e : q = p
  · subst e; rw [if_pos rfl]; exact cell_same a3
  · rw [if_neg e, cell_other _ _ _ _ _ (by omega)]; exact a3
/-- A place marked. -/
theorem SRow.mark {w : World} {g n : Nat} {S : Tb} {nx : Nat → Int} (h : SRow w g n S nx) {p : Nat} (hp : p < n) (b : Bool) (l : List Nat) :
    SRow (w.setCell ⟨g, p * 4 + 2, none⟩ (.bool b)) g n ⟨S.life, fun q => if q = p then b else S.tk q, l⟩ nx := by
  refine ⟨spot_blk h.blk _ _, fun q hq => ?_⟩
  obtain ⟨a0, a1, a2, a3⟩ := h.cell q hq
  rw [cell_other _ _ _ _ _ (by omega), cell_other _ _ _ _ _ (by omega), cell_other _ _ _ (q * 4 + 3) _ (by omega)]
  refine ⟨a0, a1, ?_, a3⟩
  show _ = some (Value.bool (if q = p then b else S.tk q))
  by_cases e : q = p
  · subst e; rw [if_pos rfl]; exact cell_same a2
  · rw [if_neg e, cell_other _ _ _ _ _ (by omega)]; exact a2
/-- A place taken: its reference and its mark. -/
theorem SRow.taken {w : World} {g n : Nat} {S : Tb} {nx : Nat → Int} (h : SRow w g n S nx) {p : Nat} (hp : p < n) (r : List Nat) :
    SRow (((w.setCell ⟨g, p * 4, none⟩ (.int .i64 (p : Int))).setCell ⟨g, p * 4 + 1, none⟩ (.int .i64 ((S.life p : Int) + 1))).setCell ⟨g, p * 4 + 2, none⟩ (.bool true)) g n (takeT S p r) nx := by
  refine ⟨spot_blk (spot_blk (spot_blk h.blk _ _) _ _) _ _, fun q hq => ?_⟩
  obtain ⟨a0, a1, a2, a3⟩ := h.cell q hq
  show _ = some (Value.int .i64 (if (if q = p then S.life p + 1 else S.life q) = 0 then 0 else (q : Int))) ∧ _ = some (Value.int .i64 (((if q = p then S.life p + 1 else S.life q) : Nat) : Int)) ∧ _ = some (Value.bool (if q = p then true else S.tk q)) ∧ _
  by_cases e : q = p
  · subst e
    rw [if_pos rfl, if_pos rfl, if_neg (by omega)]
    refine ⟨?_, ?_, ?_, ?_⟩
    · rw [cell_other _ _ _ _ _ (by omega), cell_other _ _ _ _ _ (by omega)]; exact cell_same a0
    · rw [cell_other _ _ _ _ _ (by omega)]
      have := cell_same (v := .int .i64 ((S.life q : Int) + 1)) (show (w.setCell ⟨g, q * 4, none⟩ (.int .i64 (q : Int))).cell? ⟨g, q * 4 + 1, none⟩ = _ from (cell_other _ _ _ _ _ (by omega)).trans a1)
      rw [this]; simp
    · exact cell_same (by rw [cell_other _ _ _ _ _ (by omega), cell_other _ _ _ _ _ (by omega)]; exact a2)
    · rw [cell_other _ _ _ _ _ (by omega), cell_other _ _ _ _ _ (by omega), cell_other _ _ _ _ _ (by omega)]; exact a3
  · rw [if_neg e, if_neg e]
    refine ⟨?_, ?_, ?_, ?_⟩
    all_goals rw [cell_other _ _ _ _ _ (by omega), cell_other _ _ _ _ _ (by omega), cell_other _ _ _ _ _ (by omega)]
    · exact a0
    · exact a1
    · exact a2
    · exact a3
/-- What a table's own block holds. -/
def ownS (g n k : Nat) (f : Int) (t wo : Nat) : Obj := .cells #[.slice (some ⟨g, 0, none⟩) n n, .int .i64 f, .int .i64 (k : Int), .int .i64 (t : Int), .int .i64 (wo : Int), .bool true] 131 (0, 0)
/-- A TABLE: q its own block, g the spots'. -/
structure TB (w : World) (q g n k : Nat) (S : Tb) (nx : Nat → Int) (f : Int) : Prop where
  own : w.heap[q]? = some (ownS g n k f (cnt n S.tk) (cnt n (wornF k S)))
  row : SRow w g n S nx
  links : Links nx f S.free
  ok : TOk n k S
  ne : q ≠ g
  lim : n ≤ 1024 ∧ 1 ≤ k ∧ k ≤ 4294967296
theorem ownS_cells {w : World} {q g n k t wo : Nat} {f : Int} (s : w.heap[q]? = some (ownS g n k f t wo)) : w.cell? ⟨q, 0, none⟩ = some (.slice (some ⟨g, 0, none⟩) n n) ∧ w.cell? ⟨q, 1, none⟩ = some (.int .i64 f) ∧ w.cell? ⟨q, 2, none⟩ = some (.int .i64 (k : Int)) ∧ w.cell? ⟨q, 3, none⟩ = some (.int .i64 (t : Int)) ∧ w.cell? ⟨q, 4, none⟩ = some (.int .i64 (wo : Int)) ∧ w.cell? ⟨q, 5, none⟩ = some (.bool true) ∧ ∀ i, w.frozen? ⟨q, i, none⟩ = false := by
  unfold ownS at s
  exact ⟨by simp [World.cell?, s], by simp [World.cell?, s], by simp [World.cell?, s], by simp [World.cell?, s], by simp [World.cell?, s], by simp [World.cell?, s], fun i => by simp [World.frozen?, s]⟩
theorem ownS_first {w : World} {q g n k t wo : Nat} {f : Int} (s : w.heap[q]? = some (ownS g n k f t wo)) (f' : Int) : (w.setCell ⟨q, 1, none⟩ (.int .i64 f')).heap[q]? = some (ownS g n k f' t wo) := by
  have := heap_setC s 1 (.int .i64 f')
  simpa [ownS] using this
theorem ownS_taken {w : World} {q g n k t wo : Nat} {f : Int} (s : w.heap[q]? = some (ownS g n k f t wo)) (t' : Nat) : (w.setCell ⟨q, 3, none⟩ (.int .i64 (t' : Int))).heap[q]? = some (ownS g n k f t' wo) := by
  have := heap_setC s 3 (.int .i64 (t' : Int))
  simpa [ownS] using this
theorem ownS_worn {w : World} {q g n k t wo : Nat} {f : Int} (s : w.heap[q]? = some (ownS g n k f t wo)) (t' : Nat) : (w.setCell ⟨q, 4, none⟩ (.int .i64 (t' : Int))).heap[q]? = some (ownS g n k f t t') := by
  have := heap_setC s 4 (.int .i64 (t' : Int))
  simpa [ownS] using this
/-- THE POINTER q IS A TABLE, in the blocks q and g. -/
structure TA (w : World) (q g n k : Nat) (S : Tb) : Prop where
  ex : ∃ nx f, TB w q g n k S nx f
abbrev Q2 (q g : Nat) : Nat → Prop := fun x => x = q ∨ x = g
theorem TB.lt {w : World} {q g n k : Nat} {S : Tb} {nx : Nat → Int} {f : Int} (h : TB w q g n k S nx f) : q < w.heap.size ∧ g < w.heap.size :=
  ⟨(Array.getElem?_eq_some_iff.1 h.own).1, h.row.lt⟩
theorem TB.keep {w w' : World} {q g n k : Nat} {S : Tb} {nx : Nat → Int} {f : Int} (h : TB w q g n k S nx f) (e1 : w'.heap[q]? = w.heap[q]?) (e2 : w'.heap[g]? = w.heap[g]?) : TB w' q g n k S nx f :=
  ⟨e1.trans h.own, h.row.keep e2, h.links, h.ok, h.ne, h.lim⟩
theorem TB.below {w w' : World} {q g n k : Nat} {S : Tb} {nx : Nat → Int} {f : Int} (h : TB w q g n k S nx f) (hb : Below w.heap.size w w') : TB w' q g n k S nx f :=
  h.keep (hb.block _ h.lt.1) (hb.block _ h.lt.2)
theorem TA.lt {w : World} {q g n k : Nat} {S : Tb} (h : TA w q g n k S) : q < w.heap.size ∧ g < w.heap.size := by
  obtain ⟨nx, f, h⟩ := h.ex
  exact h.lt
theorem TA.below {w w' : World} {q g n k : Nat} {S : Tb} (h : TA w q g n k S) (hb : Below w.heap.size w w') : TA w' q g n k S := by
  obtain ⟨nx, f, h⟩ := h.ex
  exact ⟨nx, f, h.below hb⟩
theorem TA.off {F : Nat → Prop} {w w' : World} {q g n k : Nat} {S : Tb} (h : TA w q g n k S) (hb : Off F w w') (hF : ¬ F q ∧ ¬ F g) : TA w' q g n k S := by
  obtain ⟨nx, f, h⟩ := h.ex
  exact ⟨nx, f, h.keep (hb.block _ h.lt.1 hF.1) (hb.block _ h.lt.2 hF.2)⟩
theorem TA.ok {w : World} {q g n k : Nat} {S : Tb} (h : TA w q g n k S) : TOk n k S := by
  obtain ⟨nx, f, h⟩ := h.ex
  exact h.ok
theorem TA.lim {w : World} {q g n k : Nat} {S : Tb} (h : TA w q g n k S) : n ≤ 1024 ∧ 1 ≤ k ∧ k ≤ 4294967296 := by
  obtain ⟨nx, f, h⟩ := h.ex
  exact h.lim
/-- WHAT A CALL LEAVES OF A TABLE. -/
structure TStep (w w' : World) (q g n k : Nat) (S' : Tb) : Prop where
  there : TA w' q g n k S'
  off : Off (Q2 q g) w w'
end Go.Proofs.YtcjkeobjojmpfaaGreat.Sl
