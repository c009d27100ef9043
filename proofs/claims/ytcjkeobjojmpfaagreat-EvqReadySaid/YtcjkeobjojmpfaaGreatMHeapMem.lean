import Derived.Test.YtcjkeobjojmpfaaGreatMEvqP
import Derived.Test.YtcjkeobjojmpfaaGreatProg
import Derived.Maps.AppendAt
import Derived.Below
import Derived.OwnWalk
import Derived.Lib.Hide
import Derived.Lib.SliceRun
import Derived.Laws.NewBlocks
import Derived.Handy
/-
  HOW A HEAP LIES IN MEMORY: its tree's row of entries, its indexes' row, and what else stays as it was.
-/
namespace Go.Proofs.YtcjkeobjojmpfaaGreat
open Go.RowKit

theorem cell_blk {w w' : World} {b : Nat} (h : w'.heap[b]? = w.heap[b]?) (p : Nat) : w'.cell? ⟨b, p, none⟩ = w.cell? ⟨b, p, none⟩ := by simp [World.cell?, h]
theorem heap_setC {w : World} {b : Nat} {cur : Array Value} {ty : TypeId} (h : w.heap[b]? = some (.cells cur ty (0, 0))) (i : Nat) (v : Value) : (w.setCell ⟨b, i, none⟩ v).heap[b]? = some (.cells (cur.setIfInBounds i v) ty (0, 0)) := by
  simp [World.setCell, Array.getElem?_modify, h]
theorem heap_setO (w : World) {b g : Nat} (i : Nat) (v : Value) (h : g ≠ b) : (w.setCell ⟨b, i, none⟩ v).heap[g]? = w.heap[g]? := Below.heap_setCell _ _ _ _ h

/-- WHAT IS NOT IN F IS AS IT WAS. -/
structure Off (F : Nat → Prop) (w w' : World) : Prop where
  os : w'.os = w.os
  tape : w'.tape = w.tape
  output : w'.output = w.output
  size : w.heap.size ≤ w'.heap.size
  block : ∀ k, k < w.heap.size → ¬ F k → w'.heap[k]? = w.heap[k]?
theorem Off.refl (F : Nat → Prop) (w : World) : Off F w w := ⟨rfl, rfl, rfl, Nat.le_refl _, fun _ _ _ => rfl⟩
theorem Off.trans {F G : Nat → Prop} {a b c : World} (h : Off F a b) (k : Off G b c) (hG : ∀ j, j < a.heap.size → G j → F j) : Off F a c :=
  ⟨k.os.trans h.os, k.tape.trans h.tape, k.output.trans h.output, Nat.le_trans h.size k.size, fun j hj hF => (k.block j (Nat.lt_of_lt_of_le hj h.size) (fun e => hF (hG j hj e))).trans (h.block j hj hF)⟩
theorem Off.to {F : Nat → Prop} {a b c : World} (h : Off F a b) (k : Off F b c) : Off F a c := h.trans k fun _ _ e => e
theorem Off.of_below {F : Nat → Prop} {a b : World} (h : Below a.heap.size a b) : Off F a b := ⟨h.os, h.tape, h.output, h.size, fun k hk _ => h.block k hk⟩
theorem Off.of_grown {F : Nat → Prop} {a b : World} {r : Option Nat} (h : a.grownBy b r) (hF : ∀ k, r = some k → F k) : Off F a b :=
  ⟨h.os, h.tape, h.output, h.size, fun k hk hn => h.block k hk (fun e => hn (hF k e.symm))⟩
theorem Off.set {F : Nat → Prop} {a w : World} (h : Off F a w) {b : Nat} (hb : F b ∨ a.heap.size ≤ b) (i : Nat) (v : Value) : Off F a (w.setCell ⟨b, i, none⟩ v) :=
  ⟨h.os, h.tape, h.output, by have := h.size; simpa using this, fun k hk hn => (heap_setO w i v (fun e => by subst e; rcases hb with hb | hb; exact hn hb; omega)).trans (h.block k hk hn)⟩
theorem Off.alloc {F : Nat → Prop} {a w : World} (h : Off F a w) (o : Obj) : Off F a (w.alloc o) :=
  ⟨h.os, h.tape, h.output, by have := h.size; simp; omega, fun k hk hn => (Below.heap_alloc _ _ _ (Nat.lt_of_lt_of_le hk h.size)).trans (h.block k hk hn)⟩
theorem Off.drew {F : Nat → Prop} {a w : World} (h : Off F a w) : Off F a w.drew := ⟨h.os, h.tape, h.output, h.size, h.block⟩
theorem Off.weaken {F G : Nat → Prop} {a w : World} (h : Off F a w) (hG : ∀ k, k < a.heap.size → F k → G k) : Off G a w := ⟨h.os, h.tape, h.output, h.size, fun k hk hn => h.block k hk (fun e => hn (hG k hk e))⟩
/-- All that is in F lies from B on: below B nothing has turned. -/
theorem Off.below {F : Nat → Prop} {a b : World} {B : Nat} (h : Off F a b) (hF : ∀ k, F k → B ≤ k) (hB : B ≤ a.heap.size) : Below B a b := ⟨h.os, h.tape, h.output, h.size, fun k hk => h.block k (by omega) (fun e => by have := hF k e; omega)⟩

def vE (e : En) : Value := .agg #[.int .i64 e.1.1, .int .i64 e.1.2.1, .int .i64 e.1.2.2, .int .i64 (e.2 : Int)]
def encE (e : En) : List Value := [.int .i64 e.1.1, .int .i64 e.1.2.1, .int .i64 e.1.2.2, .int .i64 (e.2 : Int)]
/-- THE BLOCK g, with room for cap entries, HOLDS THE ENTRIES t at its beginning. -/
structure ERow (w : World) (g cap : Nat) (t : List En) : Prop where
  blk : ∃ cur, w.heap[g]? = some (.cells cur 117 (0, 0)) ∧ cur.size = cap * 4
  le : t.length ≤ cap
  cell : ∀ i, i < t.length → w.cell? ⟨g, i * 4, none⟩ = some (.int .i64 (en t i).1.1) ∧ w.cell? ⟨g, i * 4 + 1, none⟩ = some (.int .i64 (en t i).1.2.1) ∧ w.cell? ⟨g, i * 4 + 2, none⟩ = some (.int .i64 (en t i).1.2.2) ∧ w.cell? ⟨g, i * 4 + 3, none⟩ = some (.int .i64 ((en t i).2 : Int))
theorem ERow.lt {w : World} {g cap : Nat} {t : List En} (h : ERow w g cap t) : g < w.heap.size := by
  obtain ⟨cur, hc, _⟩ := h.blk
  exact (Array.getElem?_eq_some_iff.1 hc).1
theorem ERow.frozen {w : World} {g cap : Nat} {t : List En} (h : ERow w g cap t) (i : Nat) : w.frozen? ⟨g, i, none⟩ = false := by
  obtain ⟨cur, hc, _⟩ := h.blk
  simp [World.frozen?, hc]
theorem ERow.keep {w w' : World} {g cap : Nat} {t : List En} (h : ERow w g cap t) (e : w'.heap[g]? = w.heap[g]?) : ERow w' g cap t :=
  ⟨by rw [e]; exact h.blk, h.le, fun i hi => by rw [cell_blk e, cell_blk e, cell_blk e, cell_blk e]; exact h.cell i hi⟩
theorem ERow.blk_set {w : World} {g cap : Nat} (h : ∃ cur, w.heap[g]? = some (.cells cur 117 (0, 0)) ∧ cur.size = cap * 4) (i : Nat) (v : Value) : ∃ cur, (w.setCell ⟨g, i, none⟩ v).heap[g]? = some (.cells cur 117 (0, 0)) ∧ cur.size = cap * 4 := by
  obtain ⟨cur, hc, hs⟩ := h
  exact ⟨_, heap_setC hc i v, by simpa using hs⟩
theorem cell_same {w : World} {g i : Nat} {u v : Value} (h : w.cell? ⟨g, i, none⟩ = some u) : (w.setCell ⟨g, i, none⟩ v).cell? ⟨g, i, none⟩ = some v := World.cell?_setCell_same _ _ _ h
theorem cell_other (w : World) (g i j : Nat) (v : Value) (h : j ≠ i) : (w.setCell ⟨g, i, none⟩ v).cell? ⟨g, j, none⟩ = w.cell? ⟨g, j, none⟩ :=
  World.cell?_setCell_other _ _ _ _ (by intro e; simp only [Addr.mk.injEq] at e; omega)
/-- A key stored. -/
theorem ERow.key {w : World} {g cap : Nat} {t : List En} (h : ERow w g cap t) {i : Nat} (hi : i < t.length) (k : Ky) :
    ERow (((w.setCell ⟨g, i * 4, none⟩ (.int .i64 k.1)).setCell ⟨g, i * 4 + 1, none⟩ (.int .i64 k.2.1)).setCell ⟨g, i * 4 + 2, none⟩ (.int .i64 k.2.2)) g cap (t.set i (k, (en t i).2)) := by
  refine ⟨ERow.blk_set (ERow.blk_set (ERow.blk_set h.blk _ _) _ _) _ _, by rw [List.length_set]; exact h.le, fun j hj => ?_⟩
  rw [List.length_set] at hj
  rw [en_set _ _ _ _ hi]
  obtain ⟨a0, a1, a2, a3⟩ := h.cell j hj
  by_cases e : j = i
  · subst e
    rw [if_pos rfl]
    refine ⟨?_, ?_, ?_, ?_⟩
    · rw [cell_other _ _ _ _ _ (by omega), cell_other _ _ _ _ _ (by omega)]; exact cell_same a0
    · rw [cell_other _ _ _ _ _ (by omega)]; exact cell_same (by rw [cell_other _ _ _ _ _ (by omega)]; exact a1)
    · exact cell_same (by rw [cell_other _ _ _ _ _ (by omega), cell_other _ _ _ _ _ (by omega)]; exact a2)
    · rw [cell_other _ _ _ _ _ (by omega), cell_other _ _ _ _ _ (by omega), cell_other _ _ _ _ _ (by omega)]; exact a3
  · rw [if_neg e]
    refine ⟨?_, ?_, ?_, ?_⟩
    all_goals rw [cell_other _ _ _ _ _ (by omega), cell_other _ _ _ _ _ (by omega), cell_other _ _ _ _ _ (by omega)]
    · exact a0
    · exact a1
    · exact a2
    · exact a3
/-- An entry stored. -/
theorem ERow.set {w : World} {g cap : Nat} {t : List En} (h : ERow w g cap t) {i : Nat} (hi : i < t.length) (x : En) :
    ERow ((((w.setCell ⟨g, i * 4, none⟩ (.int .i64 x.1.1)).setCell ⟨g, i * 4 + 1, none⟩ (.int .i64 x.1.2.1)).setCell ⟨g, i * 4 + 2, none⟩ (.int .i64 x.1.2.2)).setCell ⟨g, i * 4 + 3, none⟩ (.int .i64 (x.2 : Int))) g cap (t.set i x) := by
  have k := h.key hi x.1
  refine ⟨ERow.blk_set k.blk _ _, by rw [List.length_set]; exact h.le, fun j hj => ?_⟩
  rw [List.length_set] at hj
  have a := k.cell j (by rw [List.length_set]; exact hj)
  rw [en_set _ _ _ _ hi] at a ⊢
  obtain ⟨a0, a1, a2, a3⟩ := a
  by_cases e : j = i
  · subst e
    rw [if_pos rfl] at a0 a1 a2 a3 ⊢
    refine ⟨?_, ?_, ?_, cell_same a3⟩
    all_goals rw [cell_other _ _ _ _ _ (by omega)]
    · exact a0
    · exact a1
    · exact a2
  · rw [if_neg e] at a0 a1 a2 a3 ⊢
    refine ⟨?_, ?_, ?_, ?_⟩
    all_goals rw [cell_other _ _ _ _ _ (by omega)]
    · exact a0
    · exact a1
    · exact a2
    · exact a3
theorem ERow.take {w : World} {g cap : Nat} {t : List En} (h : ERow w g cap t) (m : Nat) : ERow w g cap (t.take m) :=
  ⟨h.blk, by rw [List.length_take]; have := h.le; omega, fun i hi => by rw [List.length_take] at hi; rw [en_take _ _ _ (by omega)]; exact h.cell i (by omega)⟩
/-- THE BLOCK g HOLDS, IN ITS FIRST n CELLS, THE INDEXES ix. -/
structure XRow (w : World) (g n : Nat) (ix : Nat → Int) : Prop where
  blk : ∃ cur, w.heap[g]? = some (.cells cur 3 (0, 0))
  cell : ∀ p, p < n → w.cell? ⟨g, p, none⟩ = some (.int .i64 (ix p))
theorem XRow.lt {w : World} {g n : Nat} {ix : Nat → Int} (h : XRow w g n ix) : g < w.heap.size := by
  obtain ⟨cur, hc⟩ := h.blk
  exact (Array.getElem?_eq_some_iff.1 hc).1
theorem XRow.frozen {w : World} {g n : Nat} {ix : Nat → Int} (h : XRow w g n ix) (i : Nat) : w.frozen? ⟨g, i, none⟩ = false := by
  obtain ⟨cur, hc⟩ := h.blk
  simp [World.frozen?, hc]
theorem XRow.keep {w w' : World} {g n : Nat} {ix : Nat → Int} (h : XRow w g n ix) (e : w'.heap[g]? = w.heap[g]?) : XRow w' g n ix :=
  ⟨by rw [e]; exact h.blk, fun p hp => by rw [cell_blk e]; exact h.cell p hp⟩
theorem XRow.set {w : World} {g n : Nat} {ix : Nat → Int} (h : XRow w g n ix) {p : Nat} (hp : p < n) (v : Int) : XRow (w.setCell ⟨g, p, none⟩ (.int .i64 v)) g n (fun q => if q = p then v else ix q) := by
  refine ⟨?_, fun q hq => ?_⟩
  · obtain ⟨cur, hc⟩ := h.blk
    exact ⟨_, heap_setC hc p _⟩
  · by_cases e : q = p
    · subst e; rw [if_pos rfl]; exact cell_same (h.cell q hq)
    · rw [if_neg e, cell_other _ _ _ _ _ e]; exact h.cell q hq

/-- A HEAP WHOSE TREE HAS A BLOCK: q the heap's own, g the tree's, x the indexes'. -/
structure HB (w : World) (q g x cap xc n : Nat) (t : List En) (ix : Nat → Int) : Prop where
  own : w.heap[q]? = some (.cells #[.slice (some ⟨g, 0, none⟩) t.length cap, .slice (some ⟨x, 0, none⟩) n xc, .bool true] 120 (0, 0))
  tree : ERow w g cap t
  index : XRow w x n ix
  ne : q ≠ g ∧ q ≠ x ∧ g ≠ x
  caps : cap ≤ maxLen ∧ n ≤ xc ∧ xc ≤ maxLen ∧ n ≤ 4096
  agr : Agr n t ix
abbrev Q3 (q g x : Nat) : Nat → Prop := fun k => k = q ∨ k = g ∨ k = x
theorem HB.lt {w : World} {q g x cap xc n : Nat} {t : List En} {ix : Nat → Int} (h : HB w q g x cap xc n t ix) : q < w.heap.size ∧ g < w.heap.size ∧ x < w.heap.size :=
  ⟨(Array.getElem?_eq_some_iff.1 h.own).1, h.tree.lt, h.index.lt⟩
theorem HB.keep {w w' : World} {q g x cap xc n : Nat} {t : List En} {ix : Nat → Int} (h : HB w q g x cap xc n t ix) (e1 : w'.heap[q]? = w.heap[q]?) (e2 : w'.heap[g]? = w.heap[g]?) (e3 : w'.heap[x]? = w.heap[x]?) : HB w' q g x cap xc n t ix :=
  ⟨e1.trans h.own, h.tree.keep e2, h.index.keep e3, h.ne, h.caps, h.agr⟩
theorem HB.below {w w' : World} {q g x cap xc n : Nat} {t : List En} {ix : Nat → Int} (h : HB w q g x cap xc n t ix) (hb : Below w.heap.size w w') : HB w' q g x cap xc n t ix :=
  h.keep (hb.block _ h.lt.1) (hb.block _ h.lt.2.1) (hb.block _ h.lt.2.2)
theorem HB.off {F : Nat → Prop} {w w' : World} {q g x cap xc n : Nat} {t : List En} {ix : Nat → Int} (h : HB w q g x cap xc n t ix) (hb : Off F w w') (hF : ¬ F q ∧ ¬ F g ∧ ¬ F x) : HB w' q g x cap xc n t ix :=
  h.keep (hb.block _ h.lt.1 hF.1) (hb.block _ h.lt.2.1 hF.2.1) (hb.block _ h.lt.2.2 hF.2.2)
theorem HB.cells {w : World} {q g x cap xc n : Nat} {t : List En} {ix : Nat → Int} (h : HB w q g x cap xc n t ix) : w.cell? ⟨q, 0, none⟩ = some (.slice (some ⟨g, 0, none⟩) t.length cap) ∧ w.cell? ⟨q, 1, none⟩ = some (.slice (some ⟨x, 0, none⟩) n xc) ∧ w.cell? ⟨q, 2, none⟩ = some (.bool true) ∧ ∀ i, w.frozen? ⟨q, i, none⟩ = false := by
  have s := h.own
  refine ⟨by simp [World.cell?, s], by simp [World.cell?, s], by simp [World.cell?, s], fun i => by simp [World.frozen?, s]⟩
theorem Agr.len {n : Nat} {t : List En} {ix : Nat → Int} (h : Agr n t ix) : t.length ≤ n := by
  have hs : Has t (fun p => (t.find? fun e => e.2 == p).map (·.1)) := by
    intro p k
    dsimp only
    constructor
    · intro e
      cases hf : t.find? (fun e => e.2 == p) with
      | none => rw [hf] at e; cases e
      | some y =>
        rw [hf] at e
        have h1 := List.mem_of_find?_eq_some hf
        have h2 := List.find?_some hf
        have h3 : y.2 = p := by simpa using h2
        have h4 : y.1 = k := by simpa using e
        rw [← h3, ← h4]; exact h1
    · intro e
      cases hf : t.find? (fun e => e.2 == p) with
      | none => have := List.find?_eq_none.1 hf _ e; simp at this
      | some y =>
        have h1 := List.mem_of_find?_eq_some hf
        have h2 := List.find?_some hf
        have h3 : y.2 = p := by simpa using h2
        obtain ⟨i, i1, i2⟩ := mem_en h1
        obtain ⟨j, j1, j2⟩ := mem_en e
        have := h.inj i1 j1 (by rw [i2, j2]; exact h3)
        subst this
        rw [i2] at j2
        rw [j2]; rfl
  rw [← ordM_len hs h]
  unfold ordM
  have fl : ∀ l : List En, (l.foldr insE []).length ≤ l.length := by
    intro l
    induction l with
    | nil => exact Nat.le_refl _
    | cons y l ih =>
      have il : ∀ (x : En) (m : List En), (insE x m).length ≤ m.length + 1 := by
        intro x m
        induction m with
        | nil => exact Nat.le_refl _
        | cons z m ih =>
          unfold insE
          split
          · simp
          · split
            · simp
            · simpa using ih
      have := il y (l.foldr insE [])
      rw [List.foldr_cons, List.length_cons]
      omega
  refine Nat.le_trans (fl _) (Nat.le_trans (List.length_filterMap_le _ _) ?_)
  simp
theorem info_entry : (Tryz.prog.info? 117).map (fun i => (i.zero, i.size, i.bytes)) = some (some (.agg #[.int .i64 0, .int .i64 0, .int .i64 0, .int .i64 0]), 4, 32) := by kernel_rfl
end Go.Proofs.YtcjkeobjojmpfaaGreat
