import Derived.Test.YtcjkeobjojmpfaaGreatMEvqOne
import Derived.Test.YtcjkeobjojmpfaaGreatMEvqU
import Derived.Test.YtcjkeobjojmpfaaGreatMEvqEq
import Derived.Test.YtcjkeobjojmpfaaGreatMEvqI
import Derived.Test.YtcjkeobjojmpfaaGreatMEvqAw
section
/-
  TWO QUEUES that share nothing, and lists beside them: how calls at one leave the other.
-/
namespace Go.Proofs.YtcjkeobjojmpfaaGreat
open Go.RowKit Go.Shelf

structure Tq (w W : World) (q c Uq Uc : Nat) (Lq Lc : List Ev) (R : List (Value × List Ev)) : Prop where
  ex : ∃ G1 G2, QA W q G1 60 Uq Lq ∧ QA W c G2 60 Uc Lc ∧ (∀ k, G1 k → ¬ G2 k) ∧ (∀ k, G1 k ∨ G2 k → w.heap.size ≤ k) ∧ ∀ x ∈ R, LV W x.1 x.2 ∧ ∀ k, x.1.ownBlock = some k → ¬ G1 k ∧ ¬ G2 k
  bel : Below w.heap.size w W
section
variable {w W W' : World} {q c Uq Uc : Nat} {Lq Lc : List Ev} {R : List (Value × List Ev)}
theorem Tq.below (h : Tq w W q c Uq Uc Lq Lc R) (hb : Below W.heap.size W W') : Tq w W' q c Uq Uc Lq Lc R := by
  obtain ⟨G1, G2, h1, h2, h3, h4, h5⟩ := h.ex
  exact ⟨⟨G1, G2, h1.below hb, h2.below hb, h3, h4, fun x hx => ⟨(h5 x hx).1.below hb, (h5 x hx).2⟩⟩, h.bel.trans (hb.mono h.bel.size)⟩
theorem Tq.row (h : Tq w W q c Uq Uc Lq Lc R) {v : Value} {l : List Ev} (hx : (v, l) ∈ R) : LV W v l := by
  obtain ⟨G1, G2, h1, h2, h3, h4, h5⟩ := h.ex
  exact (h5 _ hx).1
theorem Tq.add (h : Tq w W q c Uq Uc Lq Lc R) (hb : Below W.heap.size W W') {v : Value} {l : List Ev} (ho : W'.ownsRow W.heap.size 33 5 v l.length (cellsV l)) : Tq w W' q c Uq Uc Lq Lc ((v, l) :: R) := by
  have h' := h.below hb
  obtain ⟨G1, G2, h1, h2, h3, h4, h5⟩ := h.ex
  obtain ⟨hv, hf⟩ := LV.of_owns ho
  refine ⟨⟨G1, G2, h1.below hb, h2.below hb, h3, h4, fun x hx => ?_⟩, h'.bel⟩
  rcases List.mem_cons.1 hx with e | e
  · subst e
    exact ⟨hv, fun k hk => ⟨fun hg => by have := hf k hk; have := h1.lt k hg; omega, fun hg => by have := hf k hk; have := h2.lt k hg; omega⟩⟩
  · exact ⟨(h5 x e).1.below hb, (h5 x e).2⟩
def TqG (w W : World) (q c Uq Uc : Nat) (Lq Lc : List Ev) (R : List (Value × List Ev)) (G1 : Nat → Prop) : Prop := ∃ G2, QA W q G1 60 Uq Lq ∧ QA W c G2 60 Uc Lc ∧ (∀ k, G1 k → ¬ G2 k) ∧ (∀ k, G1 k ∨ G2 k → w.heap.size ≤ k) ∧ ∀ x ∈ R, LV W x.1 x.2 ∧ ∀ k, x.1.ownBlock = some k → ¬ G1 k ∧ ¬ G2 k
theorem TqG.one {G1 : Nat → Prop} (h : TqG w W q c Uq Uc Lq Lc R G1) (hbl : Below w.heap.size w W) {U' : Nat} {L' : List Ev} (hs : QStep W W' q G1 60 U' L') : Tq w W' q c U' Uc L' Lc R := by
  obtain ⟨G2, h1, h2, h3, h4, h5⟩ := h
  obtain ⟨G', g1, g2, g3⟩ := hs.ex
  have hsz := hbl.size
  have hl2 := h2.lt
  refine ⟨⟨G', G2, g1, h2.off g2 (fun k hk hg => h3 k hg hk), fun k hk hg => ?_, fun k hk => ?_, fun x hx => ?_⟩, hbl.trans (g2.below (fun k hk => h4 k (.inl hk)) hsz)⟩
  · rcases g3 k hk with e | e
    · exact h3 k e hg
    · have := hl2 k hg; omega
  · rcases hk with hk | hk
    · rcases g3 k hk with e | e
      · exact h4 k (.inl e)
      · omega
    · exact h4 k (.inr hk)
  · obtain ⟨a1, a2⟩ := h5 x hx
    refine ⟨a1.keep fun k hk => g2.block k (a1.lt k hk) (a2 k hk).1, fun k hk => ⟨fun hg => ?_, (a2 k hk).2⟩⟩
    rcases g3 k hg with e | e
    · exact (a2 k hk).1 e
    · have := a1.lt k hk; omega
theorem Tq.call (h : Tq w W q c Uq Uc Lq Lc R) {f : FuncId} {args : Array Value} {U' : Nat} {P : Ending → List Ev → Prop} (hc : ∀ G, QA W q G 60 Uq Lq → Calls Tryz.prog f args W fun e w' => ∃ L', P e L' ∧ QStep W w' q G 60 U' L') : Calls Tryz.prog f args W fun e w' => ∃ L', P e L' ∧ Tq w w' q c U' Uc L' Lc R := by
  obtain ⟨G1, G2, h1, h2⟩ := h.ex
  have hG : TqG w W q c Uq Uc Lq Lc R G1 := ⟨G2, h1, h2⟩
  refine (hc G1 h1).mono ?_
  rintro e w' ⟨L', p1, p2⟩
  exact ⟨L', p1, hG.one h.bel p2⟩
theorem Tq.swap (h : Tq w W q c Uq Uc Lq Lc R) : Tq w W c q Uc Uq Lc Lq R := by
  obtain ⟨G1, G2, h1, h2, h3, h4, h5⟩ := h.ex
  exact ⟨⟨G2, G1, h2, h1, fun k hk hg => h3 k hg hk, fun k hk => h4 k hk.symm, fun x hx => ⟨(h5 x hx).1, fun k hk => ((h5 x hx).2 k hk).symm⟩⟩, h.bel⟩
theorem tqAll (h : Tq w W q c Uq Uc Lq Lc R) :
    Calls Tryz.prog 14 #[.pointer (some ⟨q, 0, none⟩)] W fun e w' => ∃ v, e = .returned v ∧ Tq w w' q c Uq Uc Lq Lc ((v, Lq) :: R) := by
  obtain ⟨G1, G2, h1, -⟩ := h.ex
  refine (allQ_calls h1).mono ?_
  rintro e w' ⟨v, h2, h3, h4⟩
  exact ⟨v, h2, h.add h4 h3⟩
theorem tqRoom (h : Tq w W q c Uq Uc Lq Lc R) :
    Calls Tryz.prog 23 #[.pointer (some ⟨q, 0, none⟩)] W fun e w' => e = .returned (.int .i64 ((60 - Lq.length : Nat) : Int)) ∧ Tq w w' q c Uq Uc Lq Lc R := by
  obtain ⟨G1, G2, h1, -⟩ := h.ex
  refine (roomQ_calls h1).mono ?_
  rintro e w' ⟨h2, h4⟩
  exact ⟨h2, h.below h4⟩
theorem tqLen (h : Tq w W q c Uq Uc Lq Lc R) :
    Calls Tryz.prog 17 #[.pointer (some ⟨q, 0, none⟩)] W fun e w' => e = .returned (.int .i64 (Lq.length : Int)) ∧ Tq w w' q c Uq Uc Lq Lc R := by
  obtain ⟨G1, G2, h1, -⟩ := h.ex
  refine (lenQ_calls h1).mono ?_
  rintro e w' ⟨h2, rfl⟩
  exact ⟨h2, h⟩
theorem tqPut (h : Tq w W q c Uq Uc Lq Lc R) (hU : Uq + 1000 < 4294967296) (x : Ev) :
    Calls Tryz.prog 27 #[.pointer (some ⟨q, 0, none⟩), .agg #[.int .i64 x.1.1, .int .i64 x.1.2.1, .int .i64 x.1.2.2, .int .i64 x.2.1, .int .i64 x.2.2]] W fun e w' => ∃ L' r, e = .returned (.int .i64 r) ∧ Tq w w' q c (Uq + 1) Uc L' Lc R := by
  refine (h.call (P := fun e L' => ∃ r, e = .returned (.int .i64 r)) fun G hG => (putQ_calls hG hU x).mono (by
    rintro e w' ⟨r, L', h1, h2, h3⟩
    exact ⟨L', ⟨r, h1⟩, h3⟩)).mono ?_
  rintro e w' ⟨L', ⟨r, h1⟩, h2⟩
  exact ⟨L', r, h1, h2⟩
theorem tqTakeBefore (h : Tq w W q c Uq Uc Lq Lc R) (t : Int) :
    Calls Tryz.prog 22 #[.pointer (some ⟨q, 0, none⟩), .int .i64 t] W fun e w' => ∃ L' v, e = .returned v ∧ Tq w w' q c Uq Uc L' Lc R := by
  refine (h.call (P := fun e L' => ∃ v, e = .returned v) fun G hG => (takeBeforeQ_calls hG t).mono (by
    rintro e w' ⟨v, n, h1, h2, h3⟩
    obtain ⟨G', k1, k2, k3, -, -⟩ := h3.ex
    exact ⟨_, ⟨v, h1⟩, G', k1, k2, k3⟩)).mono ?_
  rintro e w' ⟨L', ⟨v, h1⟩, h2⟩
  exact ⟨L', v, h1, h2⟩
theorem tqEqual (h : Tq w W q c Uq Uc Lq Lc R) {v v' : Value} {l : List Ev} (h1 : (v, l) ∈ R) (h2 : (v', l) ∈ R) (hn : l.length ≤ 100000) :
    Calls Tryz.prog 13 #[v, v'] W fun e w' => e = .returned (.bool true) ∧ Tq w w' q c Uq Uc Lq Lc R := by
  refine (equalVs_calls v v' l W (h.row h1) (h.row h2) hn).mono ?_
  rintro e w' ⟨h3, h4⟩
  exact ⟨h3, h.below h4⟩
/-- What filled leaves, and a copy of it. -/
theorem Fild.copy {w0 w W W' : World} {q U : Nat} {L : List Ev} {v : Value} {l : List Ev} (h : Fild w W q 60 U L v l) (hw : Below w0.heap.size w0 w) {c : Nat} {Uc : Nat} (hc : ∃ G', QA W' c G' 60 Uc L ∧ (∀ k, G' k → W.heap.size ≤ k) ∧ Below W.heap.size W W') : Tq w0 W' q c U Uc L L [(v, l)] := by
  obtain ⟨G1, h1, h2, h3, h4, h5⟩ := h.ex
  obtain ⟨G2, k1, k2, k3⟩ := hc
  obtain ⟨hv, hf⟩ := LV.of_owns h3
  have hs := hw.size
  have hs2 := h5.size
  have hwW := hw.trans (h5.mono hs)
  refine ⟨⟨G1, G2, h1.below k3, k1, fun k hk hg => ?_, fun k hk => ?_, fun x hx => ?_⟩, hwW.trans (k3.mono hwW.size)⟩
  · have := h1.lt k hk; have := k2 k hg; omega
  · rcases hk with hk | hk
    · have := h2 k hk; omega
    · have := k2 k hk; omega
  · rw [List.mem_singleton.1 hx]
    exact ⟨hv.below k3, fun k hk => ⟨h4 k hk, fun hg => by have := hv.lt k hk; have := k2 k hg; omega⟩⟩
end
end Go.Proofs.YtcjkeobjojmpfaaGreat
end

section
/-
  slices.Concat of two lists of events that begin anywhere.
-/
namespace Go.Proofs.YtcjkeobjojmpfaaGreat
open Go.RowKit Go.Shelf

theorem LO.cells {w : World} {g o n cap : Nat} {t : List Ev} (h : LO w (.slice (some ⟨g, o, none⟩) n cap) t) : n = t.length ∧ g < w.heap.size ∧ ∀ j u, (cellsV t)[j]? = some u → w.cell? ⟨g, o + j, none⟩ = some u := by
  rcases h with ⟨h, _⟩ | ⟨g', o', c', e, hl, hle, hr, hm⟩
  · cases h
  · simp at e
    obtain ⟨⟨rfl, rfl⟩, rfl, rfl⟩ := e
    refine ⟨rfl, hl, fun j u hj => ?_⟩
    have hjl : j < (cellsV t).length := (List.getElem?_eq_some_iff.1 hj).1
    rw [cellsV_len] at hjl
    obtain ⟨i, r, rfl, hr5⟩ : ∃ i r, j = i * 5 + r ∧ r < 5 := ⟨j / 5, j % 5, by omega, by omega⟩
    have hi : i < t.length := by omega
    obtain ⟨a0, a1, a2, a3, a4⟩ := cellsV_get t i hi
    obtain ⟨b0, b1, b2, b3, b4⟩ := hr i hi
    rcases (by omega : r = 0 ∨ r = 1 ∨ r = 2 ∨ r = 3 ∨ r = 4) with rfl | rfl | rfl | rfl | rfl
    · rw [Nat.add_zero] at hj ⊢
      rw [a0] at hj; rw [b0]; exact hj
    · rw [a1] at hj; rw [← Nat.add_assoc, b1]; exact hj
    · rw [a2] at hj; rw [← Nat.add_assoc, b2]; exact hj
    · rw [a3] at hj; rw [← Nat.add_assoc, b3]; exact hj
    · rw [a4] at hj; rw [← Nat.add_assoc, b4]; exact hj
theorem concat2_calls {w : World} (b c : Nat) (v1 v2 : Value) (t1 t2 : List Ev) (hc : 2 ≤ c) (hb : b < w.heap.size) (c0 : w.cell? ⟨b, 0, none⟩ = some v1) (c1 : w.cell? ⟨b, 1, none⟩ = some v2) (h1 : LO w v1 t1) (h2 : LO w v2 t2) (hn : (v1 = .slice none 0 0 ∧ v2 = .slice none 0 0 ∧ t1 = [] ∧ t2 = []) ∨ ∃ g1 o1 c1 g2 o2 c2, v1 = .slice (some ⟨g1, o1, none⟩) t1.length c1 ∧ v2 = .slice (some ⟨g2, o2, none⟩) t2.length c2) (hlen : t1.length + t2.length ≤ 1000) :
    Calls Tryz.prog 11 #[.slice (some ⟨b, 0, none⟩) 2 c] w fun e w' => ∃ v, e = .returned v ∧ w'.ownsRow w.heap.size 33 5 v (t1 ++ t2).length (cellsV (t1 ++ t2)) ∧ Below w.heap.size w w' := by
  rcases hn with ⟨rfl, rfl, rfl, rfl⟩ | ⟨g1, o1, k1, g2, o2, k2, rfl, rfl⟩
  · refine (concatV_none b 2 c w hc (by omega) (fun i hi => ?_)).mono ?_
    · rcases (by omega : i = 0 ∨ i = 1) with rfl | rfl
      · exact c0
      · exact c1
    · rintro e w' ⟨rfl, h⟩
      exact ⟨_, rfl, World.ownsRow_nil _ _ _ _, h⟩
  · have hcat : catV (fun i => if i = 0 then t1 else t2) 2 = t1 ++ t2 := by simp [catV]
    obtain ⟨-, a1, a2⟩ := h1.cells
    obtain ⟨-, a3, a4⟩ := h2.cells
    have h := concatV_calls b 2 c (fun i => if i = 0 then (g1, o1, k1) else (g2, o2, k2)) (fun i => if i = 0 then t1 else t2) w hc (by omega) hb (fun i hi => ?_) (fun i hi => ?_) (by rw [hcat, List.length_append]; exact hlen)
    · rw [hcat] at h
      exact h
    · rcases (by omega : i = 0 ∨ i = 1) with rfl | rfl
      · exact c0
      · exact c1
    · rcases (by omega : i = 0 ∨ i = 1) with rfl | rfl
      · exact ⟨a1, a2⟩
      · exact ⟨a3, a4⟩
end Go.Proofs.YtcjkeobjojmpfaaGreat
end

section
/-
  TWO QUEUES made one behind the other; what Take and Least do with one of them; a list that was there before a queue.
-/
namespace Go.Proofs.YtcjkeobjojmpfaaGreat
open Go.RowKit Go.Shelf

section
variable {w W W' : World} {q c Uq Uc : Nat} {Lq Lc : List Ev} {R : List (Value × List Ev)}
theorem Tq.addV (h : Tq w W q c Uq Uc Lq Lc R) (hb : Below W.heap.size W W') {v : Value} {l : List Ev} (hv : LV W' v l) (hf : ∀ k, v.ownBlock = some k → W.heap.size ≤ k) : Tq w W' q c Uq Uc Lq Lc ((v, l) :: R) := by
  have h' := h.below hb
  obtain ⟨G1, G2, h1, h2, h3, h4, h5⟩ := h.ex
  refine ⟨⟨G1, G2, h1.below hb, h2.below hb, h3, h4, fun x hx => ?_⟩, h'.bel⟩
  rcases List.mem_cons.1 hx with e | e
  · subst e
    exact ⟨hv, fun k hk => ⟨fun hg => by have := hf k hk; have := h1.lt k hg; omega, fun hg => by have := hf k hk; have := h2.lt k hg; omega⟩⟩
  · exact ⟨(h5 x e).1.below hb, (h5 x e).2⟩
theorem Tq.sub (h : Tq w W q c Uq Uc Lq Lc R) {R' : List (Value × List Ev)} (hs : ∀ x ∈ R', x ∈ R) : Tq w W q c Uq Uc Lq Lc R' := by
  obtain ⟨G1, G2, h1, h2, h3, h4, h5⟩ := h.ex
  exact ⟨⟨G1, G2, h1, h2, h3, h4, fun x hx => h5 x (hs x hx)⟩, h.bel⟩
/-- An event in a box of its own. -/
theorem Tq.box (h : Tq w W q c Uq Uc Lq Lc R) (x : Ev) : Tq w (W.alloc (.cells #[.int .i64 x.1.1, .int .i64 x.1.2.1, .int .i64 x.1.2.2, .int .i64 x.2.1, .int .i64 x.2.2] 33)) q c Uq Uc Lq Lc ((.slice (some ⟨W.heap.size, 0, none⟩) 1 1, [x]) :: R) :=
  h.addV ((Below.refl _ W).alloc (Nat.le_refl _) _) (LV.one W x) (fun k hk => by cases hk; exact Nat.le_refl _)
theorem Tq.boxAt (h : Tq w W q c Uq Uc Lq Lc R) {b : Nat} {x : Ev} (hx : (Value.slice (some ⟨b, 0, none⟩) 1 1, [x]) ∈ R) : VAt W b 0 x := by
  obtain ⟨g, o, e, -, h2⟩ := (h.row hx).lo.at (k := 0) (by simp)
  simp at e
  obtain ⟨rfl, rfl⟩ := e
  exact h2
theorem tqAllB (h : Tq w W q c Uq Uc Lq Lc R) :
    Calls Tryz.prog 14 #[.pointer (some ⟨q, 0, none⟩)] W fun e w' => ∃ v, e = .returned v ∧ w'.ownsRow W.heap.size 33 5 v Lq.length (cellsV Lq) ∧ Below W.heap.size W w' := by
  obtain ⟨G1, G2, h1, -⟩ := h.ex
  exact allQ_calls h1
theorem tqLeast (h : Tq w W q c Uq Uc Lq Lc R) {x : Ev} {l : List Ev} (hL : Lq = x :: l) :
    Calls Tryz.prog 15 #[.pointer (some ⟨q, 0, none⟩)] W fun e w' => e = .returned (.tuple #[vV x, .bool true]) ∧ Tq w w' q c Uq Uc Lq Lc R := by
  subst hL
  obtain ⟨G1, G2, h1, -⟩ := h.ex
  refine (leastQ_yes h1).mono ?_
  rintro e w' ⟨h2, h4⟩
  exact ⟨h2, h.below h4⟩
theorem tqTake (h : Tq w W q c Uq Uc Lq Lc R) {x : Ev} {l : List Ev} (hL : Lq = x :: l) :
    Calls Tryz.prog 16 #[.pointer (some ⟨q, 0, none⟩)] W fun e w' => e = .returned (.tuple #[vV x, .int .i64 0]) ∧ Tq w w' q c Uq Uc l Lc R := by
  subst hL
  refine (h.call (P := fun e L' => e = .returned (.tuple #[vV x, .int .i64 0]) ∧ L' = l) fun G hG => (takeQ_yes hG).mono (by
    rintro e w' ⟨h1, h2⟩
    exact ⟨l, ⟨h1, rfl⟩, h2⟩)).mono ?_
  rintro e w' ⟨L', ⟨h1, rfl⟩, h2⟩
  exact ⟨h1, h2⟩
theorem tqTakeNo (h : Tq w W q c Uq Uc Lq Lc R) (hL : Lq = []) :
    Calls Tryz.prog 16 #[.pointer (some ⟨q, 0, none⟩)] W fun e w' => e = .returned (.tuple #[.agg #[.int .i64 0, .int .i64 0, .int .i64 0, .int .i64 0, .int .i64 0], .int .i64 6]) ∧ Tq w w' q c Uq Uc [] Lc R := by
  subst hL
  refine (h.call (P := fun e L' => e = .returned (.tuple #[.agg #[.int .i64 0, .int .i64 0, .int .i64 0, .int .i64 0, .int .i64 0], .int .i64 6]) ∧ L' = []) fun G hG => (takeQ_no hG).mono (by
    rintro e w' ⟨h1, h2⟩
    exact ⟨[], ⟨h1, rfl⟩, h2⟩)).mono ?_
  rintro e w' ⟨L', ⟨h1, rfl⟩, h2⟩
  exact ⟨h1, h2⟩
/-- Two queues made one behind the other. -/
theorem Fild.pair {w0 w W1 W2 W3 : World} {q p U U' : Nat} {L L' : List Ev} {v v' : Value} {l l' : List Ev} (h : Fild w W1 q 60 U L v l) (hw : Below w0.heap.size w0 w) (hb : Below W1.heap.size W1 W2) (k : Fild W2 W3 p 60 U' L' v' l') : Tq w0 W3 q p U U' L L' [(v, l)] := by
  obtain ⟨G1, h1, h2, h3, h4, h5⟩ := h.ex
  obtain ⟨G2, k1, k2, k3, k4, k5⟩ := k.ex
  obtain ⟨hv, hf⟩ := LV.of_owns h3
  have s1 := hw.size
  have s2 := h5.size
  have s3 := hb.size
  have hw1 := hw.trans (h5.mono s1)
  have hw2 := hw1.trans (hb.mono hw1.size)
  refine ⟨⟨G1, G2, (h1.below hb).below k5, k1, fun j hj hg => ?_, fun j hj => ?_, fun x hx => ?_⟩, hw2.trans (k5.mono hw2.size)⟩
  · have := h1.lt j hj; have := k2 j hg; omega
  · rcases hj with hj | hj
    · have := h2 j hj; omega
    · have := k2 j hj; omega
  · rw [List.mem_singleton.1 hx]
    exact ⟨(hv.below hb).below k5, fun j hj => ⟨h4 j hj, fun hg => by have := hv.lt j hj; have := k2 j hg; omega⟩⟩
/-- A list that was there before the queue. -/
theorem Oq.old {U : Nat} {L : List Ev} {K : List (Nat × Obj)} (h : Oq w W q U L R K) {v : Value} {l : List Ev} (hv : LO w v l) : Oq w W q U L ((v, l) :: R) K := by
  obtain ⟨G, h1, h2, h3, h4⟩ := h.ex
  refine ⟨⟨G, h1, h2, fun x hx => ?_, h4⟩, h.bel⟩
  rcases List.mem_cons.1 hx with e | e
  · subst e
    exact ⟨hv.below h.bel, fun k hk hg => by have := h2 k hg; have := hv.lt k hk; omega⟩
  · exact h3 x e
end
/-- A list of one, two, three events in a box: what its cells hold. -/
theorem LV.box {w : World} {b : Nat} {x : Ev} (h : LV w (.slice (some ⟨b, 0, none⟩) 1 1) [x]) : VAt w b 0 x := by
  obtain ⟨g, o, e, -, h2⟩ := h.lo.at (k := 0) (by simp)
  simp at e
  obtain ⟨rfl, rfl⟩ := e
  exact h2
theorem dist_perm {a b : List Ev} (h : DistV a) (hp : b.Perm a) : DistV b := (hp.pairwise_iff (fun {_ _} e c => e c.symm)).2 h
theorem dist_ins {a b : List Ev} (h : DistV (a ++ b)) : DistV (inOrd a ++ b) := dist_perm h ((inOrd_perm (List.pairwise_append.1 h).1).append_right b)
end Go.Proofs.YtcjkeobjojmpfaaGreat
end

section
/-
  EvqOrder RETURNS TRUE: what is taken out of a queue are the events that were put, each once, in the order of their keys, whichever were put first, one by one or all at once; All tells them before.
-/
namespace Go.Proofs.YtcjkeobjojmpfaaGreat
open Go.RowKit Go.Shelf

theorem evs_facts (l : List Sv) (m : Nat) : (evsS ((l.take m).map madeV)).length ≤ m ∧ DistV (evsS ((l.take m).map madeV)) ∧ ∀ x ∈ evsS ((l.take m).map madeV), RightV x := by
  refine ⟨?_, evsS_dist _, fun x hx => ?_⟩
  · have := evsS_len ((l.take m).map madeV)
    rw [List.length_map, List.length_take] at this
    omega
  · obtain ⟨y, _, rfl⟩ := List.mem_map.1 (evsS_sub _ x hx)
    exact madeV_right y
theorem LV.take' {w : World} {a : Option Addr} {n cap : Nat} {t : List Ev} (h : LV w (.slice a n cap) t) (k : Nat) (hk : k ≤ n) : LV w (.slice a k cap) (t.take k) := by
  rcases h with ⟨h, rfl⟩ | ⟨g, c, e, hr, hm⟩
  · simp at h
    obtain ⟨rfl, rfl, rfl⟩ := h
    obtain rfl : k = 0 := by omega
    exact .inl ⟨rfl, rfl⟩
  · simp at e
    obtain ⟨rfl, rfl, rfl⟩ := e
    have hl : (t.take k).length = k := by rw [List.length_take]; omega
    exact .inr ⟨g, cap, by rw [hl], hr.takeV k hk, hm⟩
theorem drop_vn {l : List Ev} {j : Nat} (h : j < l.length) : l.drop j = vn l j :: l.drop (j + 1) := by
  rw [List.drop_eq_getElem_cons h]
  have e := vn_get h
  rw [List.getElem?_eq_getElem h] at e
  rw [Option.some.inj e]
theorem boxCells {w : World} {b : Nat} {x : Ev} (h : VAt w b 0 x) : w.cell? ⟨b, 0, none⟩ = some (.int .i64 x.1.1) ∧ w.cell? ⟨b, 1, none⟩ = some (.int .i64 x.1.2.1) ∧ w.cell? ⟨b, 2, none⟩ = some (.int .i64 x.1.2.2) ∧ w.cell? ⟨b, 3, none⟩ = some (.int .i64 x.2.1) ∧ w.cell? ⟨b, 4, none⟩ = some (.int .i64 x.2.2) := h
theorem cat_calls {w : World} {la : Option Addr} {U lc : Nat} {L : List Ev} (hU : U = L.length) (h : LO w (.slice la U lc) L) (k : Nat) (hk : k ≤ U) (hc : U ≤ lc) (hlen : L.length ≤ 1000) :
    Calls Tryz.prog 11 #[.slice (some ⟨w.heap.size, 0, none⟩) 2 2] (w.alloc (.cells #[.slice (if lc = k then la else Option.map (fun x => x.add (k * 5)) la) (U - k) (lc - k), .slice la k lc] 24)).drew fun e w' => ∃ v, e = .returned v ∧ LV w' v (L.drop k ++ L.take k) ∧ Below w.heap.size w w' := by
  generalize hv1 : Value.slice (if lc = k then la else Option.map (fun x => x.add (k * 5)) la) (U - k) (lc - k) = v1
  generalize hv2 : Value.slice la k lc = v2
  have hb : Below w.heap.size w ((w.alloc (.cells #[v1, v2] 24)).drew) := ((Below.refl _ w).alloc (Nat.le_refl _) _).drew
  have hx : (w.alloc (.cells #[v1, v2] 24)).drew.heap[w.heap.size]? = some (.cells #[v1, v2] 24 (0, 0)) := World.alloc_heap_new w _
  have h1 : LO w v1 (L.drop k) := by rw [← hv1]; exact h.dropIf k hk hc
  have h2 : LO w v2 (L.take k) := by rw [← hv2]; exact h.take' k hk
  have hn : (v1 = .slice none 0 0 ∧ v2 = .slice none 0 0 ∧ L.drop k = [] ∧ L.take k = []) ∨ ∃ g1 o1 c1 g2 o2 c2, v1 = .slice (some ⟨g1, o1, none⟩) (L.drop k).length c1 ∧ v2 = .slice (some ⟨g2, o2, none⟩) (L.take k).length c2 := by
    rcases h with ⟨e, rfl⟩ | ⟨g, o, c, e, -⟩
    · simp at e
      obtain ⟨rfl, rfl, rfl⟩ := e
      obtain rfl : k = 0 := by omega
      exact .inl ⟨by rw [← hv1]; rfl, by rw [← hv2], rfl, rfl⟩
    · simp at e
      obtain ⟨rfl, -, rfl⟩ := e
      have hl1 : (L.drop k).length = U - k := by rw [List.length_drop, hU]
      have hl2 : (L.take k).length = k := by rw [List.length_take]; omega
      rw [hl1, hl2, ← hv1, ← hv2]
      refine .inr ?_
      by_cases e : lc = k
      · rw [if_pos e]
        exact ⟨_, _, _, _, _, _, rfl, rfl⟩
      · rw [if_neg e, Option.map_some, Addr.add_lit]
        exact ⟨_, _, _, _, _, _, rfl, rfl⟩
  have hh := concat2_calls w.heap.size 2 v1 v2 (L.drop k) (L.take k) (Nat.le_refl _) (Array.getElem?_eq_some_iff.1 hx).1 (by simp only [World.cell?, hx]; rfl) (by simp only [World.cell?, hx]; rfl) (h1.below hb) (h2.below hb) hn (by rw [List.length_drop, List.length_take]; omega)
  refine hh.mono ?_
  rintro e w' ⟨v, rfl, ho, hb'⟩
  exact ⟨v, rfl, (LV.of_owns ho).1, hb.trans (hb'.mono hb.size)⟩
set_option maxRecDepth 100000 in
set_option maxHeartbeats 4000000 in
theorem wEvqOrder {w : World} (lv : Value) (l : List Sv) (hv : SvRow w lv l) (t : Nat) (ht : t < 256) :
    Calls Tryz.prog 3 #[lv, .int .u8 (t : Int)] w fun e w' => e = .returned (.bool true) ∧ Below w.heap.size w w' := by
  have HV := Lib.hid hv
  have HA := Lib.hid (awake10_calls w)
  clear hv
  go_enter Tryz.func3, Tryz.ntmps3
  go_wp2_with (first
    | (go_at_call 8; refine HA.out.mono ?_; rintro e w1 ⟨rfl, b1⟩; have B1 := Lib.hid b1; clear b1)
    | fail)
  refine (events_calls lv l (HV.out.below B1.out) 60 (by omega)).mono ?_
  rintro e w2 ⟨v, rfl, ho, hb⟩
  obtain ⟨hlen, hdist, hright⟩ := evs_facts l 60
  generalize evsS ((l.take 60).map madeV) = L at ho hlen hdist hright
  obtain ⟨hlv, -⟩ := LV.of_owns ho
  have B2 := Lib.hid (B1.out.trans (hb.mono B1.out.size))
  have HF := Lib.hid (filled_calls v L hlv 60 (by omega) (by omega) (by omega) hdist hright)
  have HD := Lib.hid hdist
  have HRt := Lib.hid hright
  have HLv := Lib.hid hlv
  obtain ⟨la, lc, rfl, hlc, hll⟩ := hlv.shape
  obtain ⟨U, hU⟩ : ∃ U, L.length = U := ⟨_, rfl⟩
  have HU := Lib.hid hU
  rw [hU] at hlen hll HLv HF
  obtain ⟨k, hk⟩ : ∃ k : Nat, k = t % (U + 1) := ⟨_, rfl⟩
  have hkn : k ≤ U := by rw [hk]; exact Nat.le_of_lt_succ (Nat.mod_lt _ (by omega))
  have hw1 : IntKind.i64.wrap ((U : Int) + 1) = (U : Int) + 1 := by rw [IntKind.wrap_i64]; omega
  have htm : (t : Int) % ((U : Int) + 1) = (k : Int) := by rw [hk]; simp
  have htm2 : (t : Int).tmod ((U : Int) + 1) = (k : Int) := by rw [Int.tmod_eq_emod_of_nonneg (by omega)]; exact htm
  rw [hU]
  clear ho hb B1 hdist hright HA hlv hk hU
  go_wp2_with (first | (go_at_call 10; refine HF.out.mono ?_; rintro e w3 ⟨q, v3, rfl, h3⟩; have H3 := Lib.hid h3; clear h3) | fail)
  have hk1 : (0 : Int) ≤ (k : Int) := by omega
  have hk2 : (k : Int) ≤ (U : Int) := by omega
  have hk3 : (k : Int) ≤ (lc : Int) := by omega
  have hk4 : k ≤ lc := by omega
  have hw23 : Below w2.heap.size w2 w3 := by obtain ⟨G, -, -, -, -, h5⟩ := H3.out.ex; exact h5
  have hLO3 : LO w3 (.slice la U lc) L := (HLv.out.below hw23).lo
  have HLO3 := Lib.hid hLO3
  have HC := Lib.hid (cat_calls (w := w3) (by rw [HU.out]) hLO3 k hkn hll (by rw [HU.out]; omega))
  have HG := Lib.hid (show ∀ (W : World) (v : Value), LV W v (L.drop k ++ L.take k) → Calls Tryz.prog 10 #[.int .i64 60, v] W fun e w' => ∃ p vp, e = .returned (.tuple #[.pointer (some ⟨p, 0, none⟩), vp]) ∧ Fild W w' p 60 U (inOrd L) vp (inOrd L) from fun W v hv => by
    have hp : (L.drop k ++ L.take k).Perm L := (List.perm_append_comm).trans (by rw [List.take_append_drop])
    have hl : (L.drop k ++ L.take k).length = U := by rw [hp.length_eq, HU.out]
    have h := filled_calls v _ hv 60 (by omega) (by rw [hl]; exact hlen) (by rw [hl]; omega) (dist_perm HD.out hp) (fun x hx => HRt.out x (hp.mem_iff.1 hx))
    have e : inOrd (L.drop k ++ L.take k) = inOrd L := by
      rw [inOrd_swap (a := L.take k) (b := L.drop k) (by rw [List.take_append_drop]; exact HD.out), List.take_append_drop]
    rw [hl, e] at h
    exact h)
  clear hw23 hLO3
  go_region_law (first
    | (go_simp; go_at_call 11; refine HC.out.mono ?_; rintro e w4 ⟨v4, rfl, l4, b4⟩)
    | (go_simp; go_at_call 10; refine (HG.out _ _ (by first | assumption | (with_reducible assumption))).mono ?_; rintro e w5 ⟨p, v5, rfl, h5⟩)
    | fail)
  have T5 := Lib.hid (H3.out.pair B2.out (by assumption) h5)
  have L5 := Lib.hid l4
  have hb5 : Below w2.heap.size w2 w5 := by
    obtain ⟨G, -, -, -, -, h6⟩ := H3.out.ex
    obtain ⟨G', -, -, -, -, h7⟩ := h5.ex
    have h8 := h6.trans (b4.mono h6.size)
    exact h8.trans (h7.mono h8.size)
  have HLO5 := Lib.hid (HLv.out.below hb5)
  generalize (if lc = k then la else Option.map (fun x : Addr => x.add (k * 5)) la) = sb at *
  clear H3 HC HG h5 l4 b4 HLO3 hb5 HF
  go_wp2_with fail
  have hk5 : ((L.take k)).length = k := by rw [List.length_take, HU.out]; omega
  have hF6 := filled_calls (w := w5) (.slice la k lc) (L.take k) (HLO5.out.take' k hkn) 60 (by omega) (by rw [hk5]; omega) (by rw [hk5]; omega) (HD.out.sublist (List.take_sublist k L)) (fun x hx => HRt.out x (List.mem_of_mem_take hx))
  rw [hk5] at hF6
  refine hF6.mono ?_
  rintro e w6 ⟨r, v6, rfl, h6⟩
  have o6 := ((h6.one (Below.refl _ w5)).old (T5.out.row (List.mem_singleton.2 rfl)).lo).old (HLO5.out.lo.dropIf k hkn hll)
  have O6 := Lib.hid o6
  clear hF6 h6 o6
  go_wp2_with fail
  all_goals
    have o7 := O6.out
    first
      | (rw [if_neg (by assumption)] at o7)
      | (rw [if_pos (by assumption), show lc - k = 0 by omega] at o7)
    refine (oqPutAll o7 (by omega) (List.mem_cons_self ..) (by rw [List.length_drop, HU.out]; omega)).mono ?_
    rintro e w7 ⟨L7, r7, c7, rfl, hp7, o8⟩
    obtain ⟨rfl, rfl, rfl⟩ := putIs_ok hp7 (fun x hx => HRt.out x (List.mem_of_mem_drop hx)) (dist_ins (by rw [List.take_append_drop]; exact HD.out)) (by rw [inOrd_len, List.length_take, List.length_drop, HU.out]; omega)
    rw [← inOrd_append, List.take_append_drop] at o8
    have hSl : (inOrd L).length = U := by rw [inOrd_len, HU.out]
    obtain ⟨a3, c3, rfl, -, -⟩ := (T5.out.row (List.mem_singleton.2 rfl)).shape
    rw [hSl] at o8
    have t5 := T5.out
    rw [hSl] at t5
    have T5 := Lib.hid t5
    clear t5
    have O8 := Lib.hid o8
    generalize inOrd L = S at *
    clear o7 o8 hp7 O6 L5
    go_wp2_with fail
    refine (tqAllB (T5.out.below O8.out.bel)).mono ?_
    rintro e w8 ⟨v8, rfl, ho8, hb8⟩
    have o9 := O8.out.add hb8 ho8
    obtain ⟨a8, c8, rfl, -, -⟩ := (o9.row (List.mem_cons_self ..)).shape
    have O9 := Lib.hid o9
    rw [hSl] at O9
    rw [hSl]
    clear o9 ho8 hb8 O8
    go_wp2_with fail
    refine (oqEqual O9.out (v := .slice a8 U c8) (v' := .slice a3 U c3) (l := S) (by simp) (by simp) (by omega)).mono ?_
    rintro e w10 ⟨rfl, o10⟩
    have O10 := Lib.hid o10
    clear o10 O9
    go_wp2_with fail
    refine (tqAllB (T5.out.below O10.out.bel).swap).mono ?_
    rintro e w11 ⟨v11, rfl, ho11, hb11⟩
    have o12 := O10.out.add hb11 ho11
    obtain ⟨a11, c11, rfl, -, -⟩ := (o12.row (List.mem_cons_self ..)).shape
    have O12 := Lib.hid o12
    rw [hSl] at O12
    rw [hSl]
    clear o12 ho11 hb11 O10
    go_wp2_with fail
    refine (oqEqual O12.out (v := .slice a11 U c11) (v' := .slice a3 U c3) (l := S) (by simp) (by simp) (by omega)).mono ?_
    rintro e w13 ⟨rfl, o13⟩
    have O13 := Lib.hid o13
    clear o13 O12
    go_wp2_with fail
    refine (oqAll O13.out).mono ?_
    rintro e w14 ⟨v14, rfl, o14⟩
    obtain ⟨a14, c14, rfl, -, -⟩ := (o14.row (List.mem_cons_self ..)).shape
    have O14 := Lib.hid o14
    rw [hSl] at O14
    rw [hSl]
    clear o14 O13
    go_wp2_with fail
    refine (oqEqual O14.out (v := .slice a14 U c14) (v' := .slice a3 U c3) (l := S) (by simp) (by simp) (by omega)).mono ?_
    rintro e w15 ⟨rfl, o15⟩
    have T15 := Lib.hid (T5.out.below o15.bel)
    clear o15 O14
    go_wp2_with fail
    go_loopw [106] (fun jv wr => ∃ j : Nat, j ≤ U ∧ jv = .int .i64 (j : Int) ∧ Tq w wr q p U U (S.drop j) (S.drop j) [(.slice a3 U c3, S)]) (fun jv _ => U - (intOf jv).toNat)
    case atStart => exact ⟨0, Nat.zero_le _, by simp, T15.out⟩
    case round =>
      obtain ⟨j, hj, rfl, hT⟩ := hrel
      by_cases hlt : j < U
      · have e1 : (j : Int) < (U : Int) := by omega
        obtain ⟨g, o, rfl, -, u0, u1, u2, u3, u4⟩ := (hT.row (List.mem_singleton.2 rfl)).lo.at (k := j) (by rw [hSl]; exact hlt)
        have hd : S.drop j = vn S j :: S.drop (j + 1) := drop_vn (by rw [hSl]; exact hlt)
        have HT1 := Lib.hid (hT.box (vn S j))
        generalize vn S j = x at *
        clear hT T15
        go_wp2_with fail
        have hc := tqLeast HT1.out hd
        unfold vV at hc
        refine hc.mono ?_
        rintro e w20 ⟨rfl, t20⟩
        have T20 := Lib.hid (t20.box x)
        clear t20 HT1 u0 u1 u2 u3 u4 hc
        go_wp2_with fail
        have hc := tqTake T20.out hd
        unfold vV at hc
        refine hc.mono ?_
        rintro e w21 ⟨rfl, t21⟩
        have T21 := Lib.hid (t21.box x)
        clear t21 T20 hc
        go_wp2_with fail
        have hc := tqTake T21.out.swap hd
        unfold vV at hc
        refine hc.mono ?_
        rintro e w22 ⟨rfl, t22⟩
        have T22 := Lib.hid (t22.swap.box x)
        have hn := neqV x
        clear t22 T21 hc
        obtain ⟨p0, p1, p2, p3, p4⟩ := boxCells (T22.out.boxAt (b := wr.heap.size) (x := x) (by simp))
        obtain ⟨q0, q1, q2, q3, q4⟩ := boxCells (T22.out.boxAt (b := w20.heap.size) (x := x) (by simp))
        obtain ⟨r0, r1, r2, r3, r4⟩ := boxCells (T22.out.boxAt (b := w21.heap.size) (x := x) (by simp))
        obtain ⟨s0, s1, s2, s3, s4⟩ := boxCells (T22.out.boxAt (b := w22.heap.size) (x := x) (by simp))
        have hs1 : IntKind.i64.wrap ((U : Int) - (j : Int)) = (U : Int) - (j : Int) := by rw [IntKind.wrap_i64]; omega
        have hs2 : IntKind.i64.wrap ((U : Int) - (j : Int) - 1) = (U : Int) - (j : Int) - 1 := by rw [IntKind.wrap_i64]; omega
        have hs3 : ((S.drop (j + 1)).length : Int) = (U : Int) - (j : Int) - 1 := by rw [List.length_drop, hSl]; omega
        go_wp2_with fail
        refine (tqLen T22.out).mono ?_
        rintro e w23 ⟨rfl, t23⟩
        have T23 := Lib.hid t23
        rw [hs3]
        clear t23 T22 p0 p1 p2 p3 p4 q0 q1 q2 q3 q4 r0 r1 r2 r3 r4 s0 s1 s2 s3 s4
        go_wp2_with fail
        exact ⟨⟨j + 1, hlt, by go_num, T23.out.sub (fun y hy => by rw [List.mem_singleton.1 hy]; simp)⟩, by simp [intOf]; omega⟩
      · obtain rfl : j = U := by omega
        have hd : S.drop j = [] := List.drop_eq_nil_of_le (by omega)
        have HT := Lib.hid hT
        clear hT T15
        go_wp2_with fail
        refine (tqTakeNo HT.out hd).mono ?_
        rintro e w20 ⟨rfl, t20⟩
        have T20 := Lib.hid (t20.below (below_z w20))
        clear t20 HT
        go_wp2_with fail
        refine (tqTakeNo T20.out.swap hd).mono ?_
        rintro e w21 ⟨rfl, t21⟩
        have T21 := Lib.hid (t21.below (below_z w21)).bel
        clear t21 T20
        go_wp2_with fail
        go_ret
        exact ⟨rfl, T21.out⟩
end Go.Proofs.YtcjkeobjojmpfaaGreat
end
