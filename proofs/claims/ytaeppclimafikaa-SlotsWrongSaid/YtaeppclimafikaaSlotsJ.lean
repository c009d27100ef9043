/-
  WHAT THE LAWS OF LAYER 9 BEGIN WITH: sizes, slices of small numbers that came in, the table after some steps.
-/
import Derived.Test.YtaeppclimafikaaSlotsI
import Derived.Lib.MinMax
namespace Go.Proofs.Ytaeppclimafikaa
open Go.RowKit

set_option maxHeartbeats 1000000 in
theorem sizes_calls (p q : Nat) (hp : p < 256) (hq : q < 256) (w : World) :
    Calls Try.prog 15 #[.int .u8 (p : Int), .int .u8 (q : Int)] w fun e w' => e = .returned (.tuple #[.int .i64 ((p % 41 : Nat) : Int), .int .i64 ((1 + q % 6 : Nat) : Int)]) ∧ w = w' := by
  obtain ⟨a, ha⟩ : ∃ a, p % 41 = a := ⟨_, rfl⟩
  obtain ⟨b, hb⟩ : ∃ b, q % 6 = b := ⟨_, rfl⟩
  have e1 : IntKind.i64.wrap (p : Int) = (p : Int) := by rw [IntKind.wrap_i64]; omega
  have e2 : IntKind.i64.wrap (q : Int) = (q : Int) := by rw [IntKind.wrap_i64]; omega
  have e3 : (p : Int).tmod 41 = (a : Int) := by rw [Int.tmod_eq_emod_of_nonneg (by omega)]; omega
  have e4 : (q : Int).tmod 6 = (b : Int) := by rw [Int.tmod_eq_emod_of_nonneg (by omega)]; omega
  have e5 : IntKind.i64.wrap (a : Int) = (a : Int) := by rw [IntKind.wrap_i64]; omega
  have e6 : IntKind.i64.wrap (b : Int) = (b : Int) := by rw [IntKind.wrap_i64]; omega
  have e7 : IntKind.i64.wrap (1 + (b : Int)) = ((1 + b : Nat) : Int) := by rw [IntKind.wrap_i64]; omega
  have e8 : IntKind.i64.wrap (1 : Int) = 1 := by rw [IntKind.wrap_i64]; omega
  rw [ha, hb]
  clear ha hb hp hq
  go_enter Try.func15, Try.ntmps15
  go_wp2_with fail
  go_ret2
  exact ⟨rfl, rfl⟩
/-- THE VALUE v IS A SLICE OF NUMBERS OF EIGHT BITS that lies in the world. -/
def UB (w : World) (v : Value) (l : List Nat) : Prop := (∀ x ∈ l, x < 256) ∧ ((l = [] ∧ ∃ a c, v = .slice a 0 c) ∨ ∃ b o c, v = .slice (some ⟨b, o, none⟩) l.length c ∧ b < w.heap.size ∧ l.length ≤ c ∧ c ≤ maxLen ∧ ∀ i, i < l.length → w.cell? ⟨b, o + i, none⟩ = some (.int .u8 (fq l i : Int)))
theorem UB.below {w w' : World} {v : Value} {l : List Nat} (h : UB w v l) (hb : Below w.heap.size w w') : UB w' v l := by
  obtain ⟨h0, h | ⟨b, o, c, h1, h2, h3, h4, h5⟩⟩ := h
  · exact ⟨h0, .inl h⟩
  · exact ⟨h0, .inr ⟨b, o, c, h1, Nat.lt_of_lt_of_le h2 hb.size, h3, h4, fun i hi => (hb.cell (p := ⟨b, o + i, none⟩) h2).trans (h5 i hi)⟩⟩
theorem UB.shape {w : World} {v : Value} {l : List Nat} (h : UB w v l) : ∃ a c, v = .slice a l.length c ∧ (0 < l.length → l.length ≤ c) := by
  obtain ⟨-, ⟨rfl, a, c, rfl⟩ | ⟨b, o, c, rfl, _, h, _⟩⟩ := h
  · exact ⟨a, c, rfl, fun h => absurd h (by simp)⟩
  · exact ⟨_, _, rfl, fun _ => h⟩
theorem UB.get {w : World} {a : Option Addr} {n c : Nat} {l : List Nat} (h : UB w (.slice a n c) l) (hn : n = l.length) {i : Nat} (hi : i < l.length) : ∃ b o, a = some ⟨b, o, none⟩ ∧ w.cell? ⟨b, o + i, none⟩ = some (.int .u8 (fq l i : Int)) ∧ fq l i < 256 := by
  obtain ⟨h0, ⟨rfl, _⟩ | ⟨b, o, c', e, _, _, _, h5⟩⟩ := h
  · cases hi
  · cases e
    exact ⟨b, o, rfl, h5 i hi, h0 _ (fq_mem hi)⟩
/-- The table after the steps l. -/
def stS (n k : Nat) (l : List Nat) : Tb := l.foldl (fun S x => (stepF n k S x).2.2.2) (newT n)
theorem stS_snoc (n k : Nat) (l : List Nat) (i : Nat) (h : i < l.length) : stS n k (l.take (i + 1)) = (stepF n k (stS n k (l.take i)) (fq l i)).2.2.2 := by
  unfold stS
  rw [take_snoc l i h, List.foldl_append]
  rfl
theorem minC (m : Nat) (c : Nat) : ∃ n0 : Nat, min (m : Int) (c : Int) = (n0 : Int) ∧ n0 ≤ m ∧ n0 ≤ c ∧ n0 = min m c := by
  by_cases h : m ≤ c
  · exact ⟨m, by omega, Nat.le_refl _, h, by omega⟩
  · exact ⟨c, by omega, by omega, Nat.le_refl _, by omega⟩
/-- WHERE A LAW WITH ONE TABLE STANDS. -/
structure OnAt (w W : World) (q g B n k : Nat) (S : Tb) : Prop where
  tab : TA W q g n k S
  lt : q < B ∧ g < B
  ge : w.heap.size ≤ q ∧ w.heap.size ≤ g ∧ w.heap.size ≤ B
  sz : B ≤ W.heap.size
  bel : Below w.heap.size w W
section
variable {w W W' : World} {q g B n k : Nat} {S S' : Tb}
theorem OnAt.step (h : OnAt w W q g B n k S) (t : TA W' q g n k S') (o : Off (Q2 q g) W W') : OnAt w W' q g B n k S' :=
  ⟨t, h.lt, h.ge, Nat.le_trans h.sz o.size, h.bel.trans (o.below (by rintro x (rfl | rfl); exact h.ge.1; exact h.ge.2.1) h.bel.size)⟩
theorem OnAt.to (h : OnAt w W q g B n k S) (hb : Below W.heap.size W W') : OnAt w W' q g B n k S := h.step (h.tab.below hb) (Off.of_below hb)
theorem OnAt.al (h : OnAt w W q g B n k S) (o : Obj) : OnAt w (W.alloc o) q g B n k S := h.to ((Below.refl _ W).alloc (Nat.le_refl _) o)
/-- What lies from B on may turn. -/
theorem OnAt.up (h : OnAt w W q g B n k S) (o : Off (fun x => B ≤ x) W W') : OnAt w W' q g B n k S :=
  ⟨h.tab.off o ⟨by have := h.lt.1; omega, by have := h.lt.2; omega⟩, h.lt, h.ge, Nat.le_trans h.sz o.size, h.bel.trans (o.below (fun x hx => by have := h.ge.2.2; omega) h.bel.size)⟩
theorem OnAt.row {v : Value} {l : List Rf} (h : OnAt w W q g B n k S) (r : RV W B v l) (o : Off (Q2 q g) W W') : RV W' B v l := r.off o (by rintro x (rfl | rfl); exact h.lt.1; exact h.lt.2)
theorem OnAt.rown {v : Value} {l : List Nat} (h : OnAt w W q g B n k S) (r : NV W B v l) (o : Off (Q2 q g) W W') : NV W' B v l := r.off o (by rintro x (rfl | rfl); exact h.lt.1; exact h.lt.2)
theorem OnAt.box {b : Nat} {x : Obj} (h : OnAt w W q g B n k S) (hx : W.heap[b]? = some x) (hb : B ≤ b) (o : Off (Q2 q g) W W') : W'.heap[b]? = some x :=
  (o.block b (Array.getElem?_eq_some_iff.1 hx).1 (by rintro (e | e); have := h.lt.1; omega; have := h.lt.2; omega)).trans hx
end
theorem off_app {W W' : World} {B sz m : Nat} {ty : TypeId} {v : Value} {xs : List Value} (h : W.ownsRow B ty sz v m xs) (hg : W.grownBy W' v.ownBlock) : Off (fun x => B ≤ x) W W' := Off.of_grown hg (fun k e => (row_lt h k e).1)
end Go.Proofs.Ytaeppclimafikaa
