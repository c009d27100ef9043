/-
  A ROW OF INDEXES that is sorted in place: its cells, an exchange of two of them, and what else is as it was.
-/
import Derived.Test.YtapaccbffhcjdaaDoorStabQ
import Derived.Below
import Derived.Handy
import Derived.Lib.Hide
namespace Go.Proofs.YtapaccbffhcjdaaDoor
open Go.RowKit

theorem cell_blk {w w' : World} {b : Nat} (h : w'.heap[b]? = w.heap[b]?) (p : Nat) : w'.cell? ⟨b, p, none⟩ = w.cell? ⟨b, p, none⟩ := by simp [World.cell?, h]
theorem frozen_blk {w w' : World} {b : Nat} (h : w'.heap[b]? = w.heap[b]?) (p : Nat) : w'.frozen? ⟨b, p, none⟩ = w.frozen? ⟨b, p, none⟩ := by simp [World.frozen?, h]
theorem grown_trans {a b c : World} {row : Option Nat} (h : a.grownBy b row) (k : b.grownBy c row) : a.grownBy c row :=
  ⟨k.os.trans h.os, k.tape.trans h.tape, k.output.trans h.output, Nat.le_trans h.size k.size, fun j hj hr => (k.block j (Nat.lt_of_lt_of_le hj h.size) hr).trans (h.block j hj hr)⟩
theorem grown_below {a b : World} (row : Option Nat) (h : Below a.heap.size a b) : a.grownBy b row :=
  ⟨h.os, h.tape, h.output, h.size, fun j hj _ => h.block j hj⟩
theorem grown_refl (a : World) (row : Option Nat) : a.grownBy a row := ⟨rfl, rfl, rfl, Nat.le_refl _, fun _ _ _ => rfl⟩
theorem grown_set (W : World) (b i : Nat) (v : Value) : W.grownBy (W.setCell ⟨b, i, none⟩ v) (some b) :=
  ⟨rfl, rfl, rfl, by simp, fun k _ hk => Below.heap_setCell _ _ _ k (fun e => hk (by rw [e]))⟩
/-- THE BLOCK b HOLDS, IN ITS FIRST n CELLS, THE INDEXES f. -/
structure IRow (W : World) (b n : Nat) (f : Nat → Nat) : Prop where
  lt : b < W.heap.size
  cell : ∀ p, p < n → W.cell? ⟨b, p, none⟩ = some (.int .i64 (f p : Int))
  frozen : ∀ p, p < n → W.frozen? ⟨b, p, none⟩ = false
theorem IRow.below {W W' : World} {b n : Nat} {f : Nat → Nat} (h : IRow W b n f) (hb : Below W.heap.size W W') : IRow W' b n f :=
  ⟨Nat.lt_of_lt_of_le h.lt hb.size, fun p hp => (cell_blk (hb.block b h.lt) p).trans (h.cell p hp), fun p hp => (frozen_blk (hb.block b h.lt) p).trans (h.frozen p hp)⟩
theorem IRow.set {W : World} {b n : Nat} {f : Nat → Nat} (h : IRow W b n f) {i : Nat} (hi : i < n) (v : Nat) : IRow (W.setCell ⟨b, i, none⟩ (.int .i64 (v : Int))) b n (fun p => if p = i then v else f p) := by
  refine ⟨by have := h.lt; simpa using this, fun p hp => ?_, fun p hp => by rw [World.frozen?_setCell]; exact h.frozen p hp⟩
  by_cases e : p = i
  · subst e
    rw [if_pos rfl]
    exact World.cell?_setCell_same _ _ _ (h.cell p hp)
  · rw [if_neg e]
    exact (World.cell?_setCell_other _ _ _ _ (by intro e'; simp only [Addr.mk.injEq] at e'; omega)).trans (h.cell p hp)
/-- The exchange's two stores. -/
theorem IRow.swp {W : World} {b n : Nat} {f : Nat → Nat} (h : IRow W b n f) {x y : Nat} (hx : x < n) (hy : y < n) : IRow ((W.setCell ⟨b, x, none⟩ (.int .i64 (f y : Int))).setCell ⟨b, y, none⟩ (.int .i64 (f x : Int))) b n (St.swp f x y) := by
  have := (h.set hx (f y)).set hy (f x)
  have e : (fun p => if p = y then f x else (fun p => if p = x then f y else f p) p) = St.swp f x y := by
    funext p
    unfold St.swp
    by_cases c1 : p = x
    · by_cases c2 : p = y
      · simp [c1, ← c1.symm.trans c2]
      · rw [if_neg c2, if_pos c1]; simp [c1]
    · by_cases c2 : p = y
      · rw [if_pos c2, if_neg c1, if_pos c2]
      · rw [if_neg c2, if_neg c1, if_neg c2]; simp [c1]
  rw [e] at this
  exact this
theorem IRow.swp_grown (W : World) (b x y : Nat) (u v : Value) : W.grownBy ((W.setCell ⟨b, x, none⟩ u).setCell ⟨b, y, none⟩ v) (some b) := grown_trans (grown_set W b x u) (grown_set _ b y v)
end Go.Proofs.YtapaccbffhcjdaaDoor
