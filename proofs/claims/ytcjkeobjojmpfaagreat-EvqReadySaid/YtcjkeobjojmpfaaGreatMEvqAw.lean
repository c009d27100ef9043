import Derived.Test.YtcjkeobjojmpfaaGreatMEvqU
import Derived.Test.YtcjkeobjojmpfaaGreatMRegionInv
/-
  CONTRACT of the law's awake.
-/
namespace Go.Proofs.YtcjkeobjojmpfaaGreat
open Go.RowKit Go.Shelf

/-- HOW A QUEUE AND SOME BOXES STAND. -/
structure Aw (w W : World) (q cap U : Nat) (L : List Ev) (B : Nat → Option Obj) : Prop where
  ex : ∃ G, QA W q G cap U L ∧ (∀ k, G k → w.heap.size ≤ k) ∧ ∀ b o, B b = some o → W.heap[b]? = some o ∧ ¬ G b
  bel : Below w.heap.size w W
theorem Aw.get {w W : World} {q cap U : Nat} {L : List Ev} {B : Nat → Option Obj} (h : Aw w W q cap U L B) {b : Nat} {o : Obj} (hb : B b = some o) : W.heap[b]? = some o := by
  obtain ⟨G, _, _, h3⟩ := h.ex
  exact (h3 b o hb).1
theorem Aw.below {w W W' : World} {q cap U : Nat} {L : List Ev} {B : Nat → Option Obj} (h : Aw w W q cap U L B) (hb : Below W.heap.size W W') : Aw w W' q cap U L B := by
  obtain ⟨G, h1, h2, h3⟩ := h.ex
  exact ⟨⟨G, h1.below hb, h2, fun b o hbo => ⟨(hb.block b (Array.getElem?_eq_some_iff.1 (h3 b o hbo).1).1).trans (h3 b o hbo).1, (h3 b o hbo).2⟩⟩, h.bel.trans (hb.mono h.bel.size)⟩
/-- A block newly laid is one of the boxes. -/
theorem Aw.more {w W : World} {q cap U : Nat} {L : List Ev} {B : Nat → Option Obj} (h : Aw w W q cap U L B) {W' : World} (hb : Below W.heap.size W W') (c : Nat) (o : Obj) (hc : W'.heap[c]? = some o) (hn : W.heap.size ≤ c) : Aw w W' q cap U L (fun b => if b = c then some o else B b) := by
  have h' := h.below hb
  obtain ⟨G, h1, h2, h3⟩ := h.ex
  refine ⟨⟨G, h1.below hb, h2, fun b o' hbo => ?_⟩, h'.bel⟩
  by_cases e : b = c
  · rw [if_pos e] at hbo
    cases hbo
    subst e
    exact ⟨hc, fun hg => by have := h1.lt b hg; omega⟩
  · rw [if_neg e] at hbo
    exact ⟨(hb.block b (Array.getElem?_eq_some_iff.1 (h3 b o' hbo).1).1).trans (h3 b o' hbo).1, (h3 b o' hbo).2⟩
theorem Aw.step {w W W' : World} {q cap U U' : Nat} {L L' : List Ev} {B : Nat → Option Obj} (h : Aw w W q cap U L B) (hs : ∀ G, QA W q G cap U L → QStep W W' q G cap U' L') : Aw w W' q cap U' L' B := by
  obtain ⟨G, h1, h2, h3⟩ := h.ex
  obtain ⟨G', g1, g2, g3⟩ := (hs G h1).ex
  have hs := h.bel.size
  refine ⟨⟨G', g1, fun k hk => ?_, fun b o hbo => ?_⟩, h.bel.trans (g2.below h2 hs)⟩
  · rcases g3 k hk with c | c
    · exact h2 k c
    · omega
  · obtain ⟨a1, a2⟩ := h3 b o hbo
    have hl := (Array.getElem?_eq_some_iff.1 a1).1
    refine ⟨(g2.block b hl a2).trans a1, fun hg => ?_⟩
    rcases g3 b hg with c | c
    · exact a2 c
    · omega
theorem put1_twice {cap : Nat} {L : List Ev} {x : Ev} {c : Int} {L' : List Ev} (h : Put1 cap L x c L') (hr : RightV x) (hn : ∃ y ∈ L, nmV y = nmV x) : c = 101 ∧ L' = L := by
  obtain ⟨y, hy, e⟩ := hn
  rcases h with ⟨_, _, h⟩ | ⟨h1, h2, _⟩ | ⟨_, _, _, h, _⟩ | ⟨_, _, _, h, _⟩
  · exact absurd hr h
  · exact ⟨h1, h2⟩
  · exact absurd e (h y hy)
  · exact absurd e (h y hy)
theorem put1_full {cap : Nat} {L : List Ev} {x : Ev} {c : Int} {L' : List Ev} (h : Put1 cap L x c L') (hr : RightV x) (hn : ∀ y ∈ L, nmV y ≠ nmV x) (hl : cap ≤ L.length) : c = 4 ∧ L' = L := by
  rcases h with ⟨_, _, h⟩ | ⟨_, _, _, y, hy, e⟩ | ⟨h1, h2, _⟩ | ⟨_, _, _, _, h⟩
  · exact absurd hr h
  · exact absurd e (hn y hy)
  · exact ⟨h1, h2⟩
  · omega
theorem awPut {w W : World} {q cap U : Nat} {L : List Ev} {B : Nat → Option Obj} (h : Aw w W q cap U L B) (hU : U + 1000 < 4294967296) (x : Ev) :
    Calls Tryz.prog 27 #[.pointer (some ⟨q, 0, none⟩), .agg #[.int .i64 x.1.1, .int .i64 x.1.2.1, .int .i64 x.1.2.2, .int .i64 x.2.1, .int .i64 x.2.2]] W fun e w' => ∃ c L', e = .returned (.int .i64 c) ∧ Put1 cap L x c L' ∧ Aw w w' q cap (U + 1) L' B := by
  obtain ⟨G, h1, h2, h3⟩ := h.ex
  refine (putQ_calls h1 hU x).mono ?_
  rintro e w' ⟨c, L', a1, a2, a3⟩
  refine ⟨c, L', a1, a2, ?_⟩
  obtain ⟨G', g1, g2, g3⟩ := a3.ex
  have hs := h.bel.size
  refine ⟨⟨G', g1, fun k hk => ?_, fun b o hbo => ?_⟩, h.bel.trans (g2.below h2 hs)⟩
  · rcases g3 k hk with c | c
    · exact h2 k c
    · omega
  · obtain ⟨a1, a2⟩ := h3 b o hbo
    have hl := (Array.getElem?_eq_some_iff.1 a1).1
    refine ⟨(g2.block b hl a2).trans a1, fun hg => ?_⟩
    rcases g3 b hg with c | c
    · exact a2 c
    · omega
theorem awLeast {w W : World} {q cap U : Nat} {x : Ev} {l : List Ev} {B : Nat → Option Obj} (h : Aw w W q cap U (x :: l) B) :
    Calls Tryz.prog 15 #[.pointer (some ⟨q, 0, none⟩)] W fun e w' => e = .returned (.tuple #[.agg #[.int .i64 x.1.1, .int .i64 x.1.2.1, .int .i64 x.1.2.2, .int .i64 x.2.1, .int .i64 x.2.2], .bool true]) ∧ Aw w w' q cap U (x :: l) B := by
  obtain ⟨G, h1, h2, h3⟩ := h.ex
  refine (leastQ_yes h1).mono ?_
  rintro e w' ⟨rfl, b⟩
  exact ⟨rfl, h.below b⟩
theorem awRoom {w W : World} {q cap U : Nat} {L : List Ev} {B : Nat → Option Obj} (h : Aw w W q cap U L B) :
    Calls Tryz.prog 23 #[.pointer (some ⟨q, 0, none⟩)] W fun e w' => e = .returned (.int .i64 ((cap - L.length : Nat) : Int)) ∧ Aw w w' q cap U L B := by
  obtain ⟨G, h1, h2, h3⟩ := h.ex
  refine (roomQ_calls h1).mono ?_
  rintro e w' ⟨rfl, b⟩
  exact ⟨rfl, h.below b⟩
theorem awCancel {w W : World} {q cap U : Nat} {L : List Ev} {B : Nat → Option Obj} (h : Aw w W q cap U L B) {x : Ev} (hx : x ∈ L) :
    Calls Tryz.prog 25 #[.pointer (some ⟨q, 0, none⟩), .int .i64 x.1.2.1, .int .i64 x.1.2.2] W fun e w' => e = .returned (.tuple #[.agg #[.int .i64 x.1.1, .int .i64 x.1.2.1, .int .i64 x.1.2.2, .int .i64 x.2.1, .int .i64 x.2.2], .int .i64 0]) ∧ Aw w w' q cap U (L.filter fun y => decide (nmV y ≠ nmV x)) B := by
  obtain ⟨G, h1, h2, h3⟩ := h.ex
  refine (cancelQ_yes h1 hx).mono ?_
  rintro e w' ⟨rfl, b⟩
  obtain ⟨G', g1, g2, g3⟩ := b.ex
  have hs := h.bel.size
  refine ⟨rfl, ⟨G', g1, fun k hk => ?_, fun b o hbo => ?_⟩, h.bel.trans (g2.below h2 hs)⟩
  · rcases g3 k hk with c | c
    · exact h2 k c
    · omega
  · obtain ⟨a1, a2⟩ := h3 b o hbo
    have hl := (Array.getElem?_eq_some_iff.1 a1).1
    refine ⟨(g2.block b hl a2).trans a1, fun hg => ?_⟩
    rcases g3 b hg with c | c
    · exact a2 c
    · omega
theorem awTakeNo {w W : World} {q cap U : Nat} {B : Nat → Option Obj} (h : Aw w W q cap U [] B) :
    Calls Tryz.prog 16 #[.pointer (some ⟨q, 0, none⟩)] W fun e w' => e = .returned (.tuple #[.agg #[.int .i64 0, .int .i64 0, .int .i64 0, .int .i64 0, .int .i64 0], .int .i64 6]) ∧ Aw w w' q cap U [] B := by
  obtain ⟨G, h1, h2, h3⟩ := h.ex
  refine (takeQ_no h1).mono ?_
  rintro e w' ⟨rfl, b⟩
  obtain ⟨G', g1, g2, g3⟩ := b.ex
  have hs := h.bel.size
  refine ⟨rfl, ⟨G', g1, fun k hk => ?_, fun b o hbo => ?_⟩, h.bel.trans (g2.below h2 hs)⟩
  · rcases g3 k hk with c | c
    · exact h2 k c
    · omega
  · obtain ⟨a1, a2⟩ := h3 b o hbo
    have hl := (Array.getElem?_eq_some_iff.1 a1).1
    refine ⟨(g2.block b hl a2).trans a1, fun hg => ?_⟩
    rcases g3 b hg with c | c
    · exact a2 c
    · omega
theorem awPutAll {w W : World} {q cap U : Nat} {L : List Ev} {B : Nat → Option Obj} (h : Aw w W q cap U L B) (hU : U + 1000 < 4294967296) (lv : Value) (l : List Ev) (hv : LV W lv l) (hB : ∀ k, lv.ownBlock = some k → ∃ o, B k = some o) (hlen : l.length ≤ 1000) :
    Calls Tryz.prog 12 #[.pointer (some ⟨q, 0, none⟩), lv] W fun e w' => ∃ r c L', e = .returned (.tuple #[.int .i64 r, .int .i64 c]) ∧ PutIs cap L l r c L' ∧ Aw w w' q cap (U + l.length) L' B := by
  obtain ⟨G, h1, h2, h3⟩ := h.ex
  refine (putAllQ_calls h1 hU lv l hv (fun k hk => by obtain ⟨o, ho⟩ := hB k hk; exact (h3 k o ho).2) hlen).mono ?_
  rintro e w' ⟨r, c, L', a0, a1, b⟩
  obtain ⟨G', g1, g2, g3⟩ := b.ex
  have hs := h.bel.size
  refine ⟨r, c, L', a0, a1, ⟨G', g1, fun k hk => ?_, fun b o hbo => ?_⟩, h.bel.trans (g2.below h2 hs)⟩
  · rcases g3 k hk with c | c
    · exact h2 k c
    · omega
  · obtain ⟨a1, a2⟩ := h3 b o hbo
    have hl := (Array.getElem?_eq_some_iff.1 a1).1
    refine ⟨(g2.block b hl a2).trans a1, fun hg => ?_⟩
    rcases g3 b hg with c | c
    · exact a2 c
    · omega
theorem awTakeBefore {w W : World} {q cap U : Nat} {L : List Ev} {B : Nat → Option Obj} (h : Aw w W q cap U L B) (t : Int) :
    Calls Tryz.prog 22 #[.pointer (some ⟨q, 0, none⟩), .int .i64 t] W fun e w' => ∃ v n, e = .returned v ∧ CutAt L t n ∧ LV w' v (L.take n) ∧ (∀ k, v.ownBlock = some k → W.heap.size ≤ k) ∧ ∀ g o, v.ownBlock = some g → w'.heap[g]? = some o → Aw w w' q cap U (L.drop n) (fun b => if b = g then some o else B b) := by
  obtain ⟨G, h1, h2, h3⟩ := h.ex
  refine (takeBeforeQ_calls h1 t).mono ?_
  rintro e w' ⟨v, n, a0, a1, b⟩
  obtain ⟨G', g1, g2, g3, g4, g5⟩ := b.ex
  have hs := h.bel.size
  refine ⟨v, n, a0, a1, g4, fun k hk => (g5 k hk).1, fun g o hg ho => ⟨⟨G', g1, fun k hk => ?_, fun b o hbo => ?_⟩, h.bel.trans (g2.below h2 hs)⟩⟩
  · rcases g3 k hk with c | c
    · exact h2 k c
    · omega
  · by_cases e : b = g
    · rw [if_pos e] at hbo
      cases hbo
      subst e
      exact ⟨ho, (g5 _ hg).2⟩
    · rw [if_neg e] at hbo
      obtain ⟨a1, a2⟩ := h3 b o hbo
      have hl := (Array.getElem?_eq_some_iff.1 a1).1
      refine ⟨(g2.block b hl a2).trans a1, fun hg => ?_⟩
      rcases g3 b hg with c | c
      · exact a2 c
      · omega
/-- A list of two events, newly laid. -/
theorem LV.two {W : World} {b : Nat} (x y : Ev) (hb : W.heap[b]? = some (.cells #[.int .i64 x.1.1, .int .i64 x.1.2.1, .int .i64 x.1.2.2, .int .i64 x.2.1, .int .i64 x.2.2, .int .i64 y.1.1, .int .i64 y.1.2.1, .int .i64 y.1.2.2, .int .i64 y.2.1, .int .i64 y.2.2] 33 (0, 0))) : LV W (.slice (some ⟨b, 0, none⟩) 2 2) [x, y] := by
  refine .inr ⟨b, 2, rfl, ⟨⟨_, hb, rfl⟩, Nat.le_refl _, fun i hi => ?_⟩, by unfold maxLen; omega⟩
  have h2 : i = 0 ∨ i = 1 := by simp at hi; omega
  unfold VAt
  rcases h2 with rfl | rfl
  · exact ⟨by simp [World.cell?, hb, vn], by simp [World.cell?, hb, vn], by simp [World.cell?, hb, vn], by simp [World.cell?, hb, vn], by simp [World.cell?, hb, vn]⟩
  · exact ⟨by simp [World.cell?, hb, vn], by simp [World.cell?, hb, vn], by simp [World.cell?, hb, vn], by simp [World.cell?, hb, vn], by simp [World.cell?, hb, vn]⟩
theorem putIs_twice {cap : Nat} {L l : List Ev} {r c : Int} {L' : List Ev} (h : PutIs cap L l r c L') (hr : ∀ x ∈ l, RightV x) (h1 : TwiceAt L l 1) (h0 : ¬ TwiceAt L l 0) (hl : 1 < l.length) : c = 101 ∧ r = 1 ∧ L' = L := by
  rcases h with ⟨_, _, k, _, hk, h, _⟩ | ⟨a, b, _, k, rfl, hk, h2, h3⟩ | ⟨_, _, _, _, h, _⟩ | ⟨_, _, _, _, h, _⟩
  · exact absurd (hr _ (vn_mem hk)) h
  · rcases Nat.lt_trichotomy k 1 with e | e | e
    · obtain rfl : k = 0 := by omega
      exact absurd h2 h0
    · subst e; exact ⟨a, rfl, b⟩
    · exact absurd h1 (h3 1 e)
  · exact absurd h1 (h 1 hl)
  · exact absurd h1 (h 1 hl)
theorem putIs_full {cap : Nat} {L l : List Ev} {r c : Int} {L' : List Ev} (h : PutIs cap L l r c L') (hr : ∀ x ∈ l, RightV x) (h1 : ∀ k : Nat, k < l.length → ¬ TwiceAt L l k) (hl : cap < L.length + l.length) : c = 4 ∧ r = -1 ∧ L' = L := by
  rcases h with ⟨_, _, k, _, hk, h, _⟩ | ⟨a, b, _, k, rfl, hk, h2, h3⟩ | ⟨a, b, _, c, _, _⟩ | ⟨_, _, _, _, _, h⟩
  · exact absurd (hr _ (vn_mem hk)) h
  · exact absurd h2 (h1 k hk)
  · exact ⟨a, c, b⟩
  · omega
instance (L l : List Ev) (k : Nat) : Decidable (TwiceAt L l k) := by unfold TwiceAt; infer_instance
theorem Aw.less {w W : World} {q cap U : Nat} {L : List Ev} {B B' : Nat → Option Obj} (h : Aw w W q cap U L B') (hB : ∀ b o, B b = some o → B' b = some o) : Aw w W q cap U L B := by
  obtain ⟨G, h1, h2, h3⟩ := h.ex
  exact ⟨⟨G, h1, h2, fun b o hbo => h3 b o (hB b o hbo)⟩, h.bel⟩
theorem awPutTwo {w W : World} {q cap U : Nat} {L : List Ev} {B : Nat → Option Obj} (h : Aw w W q cap U L B) (hU : U + 1000 < 4294967296) (x y : Ev) :
    Calls Tryz.prog 12 #[.pointer (some ⟨q, 0, none⟩), .slice (some ⟨W.heap.size, 0, none⟩) 2 2] (W.alloc (.cells #[.int .i64 x.1.1, .int .i64 x.1.2.1, .int .i64 x.1.2.2, .int .i64 x.2.1, .int .i64 x.2.2, .int .i64 y.1.1, .int .i64 y.1.2.1, .int .i64 y.1.2.2, .int .i64 y.2.1, .int .i64 y.2.2] 33)) fun e w' => ∃ r c L', e = .returned (.tuple #[.int .i64 r, .int .i64 c]) ∧ PutIs cap L [x, y] r c L' ∧ Aw w w' q cap (U + 2) L' B := by
  have hx := h.more ((Below.refl _ W).alloc (Nat.le_refl _) (.cells #[.int .i64 x.1.1, .int .i64 x.1.2.1, .int .i64 x.1.2.2, .int .i64 x.2.1, .int .i64 x.2.2, .int .i64 y.1.1, .int .i64 y.1.2.1, .int .i64 y.1.2.2, .int .i64 y.2.1, .int .i64 y.2.2] 33)) W.heap.size _ (World.alloc_heap_new W _) (Nat.le_refl _)
  refine (awPutAll hx hU _ [x, y] (LV.two x y (World.alloc_heap_new W (.cells #[.int .i64 x.1.1, .int .i64 x.1.2.1, .int .i64 x.1.2.2, .int .i64 x.2.1, .int .i64 x.2.2, .int .i64 y.1.1, .int .i64 y.1.2.1, .int .i64 y.1.2.2, .int .i64 y.2.1, .int .i64 y.2.2] 33))) (fun k hk => ⟨_, if_pos (by simpa [Value.ownBlock] using hk.symm)⟩) (by simp)).mono ?_
  rintro e w' ⟨r, c, L', a1, a2, a3⟩
  refine ⟨r, c, L', a1, a2, Aw.less a3 fun b o hb => ?_⟩
  have := (Array.getElem?_eq_some_iff.1 (h.get hb)).1
  show (if b = W.heap.size then _ else B b) = some o
  rw [if_neg (by omega)]
  exact hb
theorem LV.vb {W : World} {b : Nat} {x : Ev} (h : VB W b x) : LV W (.slice (some ⟨b, 0, none⟩) 1 1) [x] := by
  obtain ⟨x0, x1, x2, x3, x4, -⟩ := h.cells
  refine .inr ⟨b, 1, rfl, ⟨⟨_, h, rfl⟩, Nat.le_refl _, fun i hi => ?_⟩, by unfold maxLen; omega⟩
  obtain rfl : i = 0 := by simpa using hi
  exact ⟨x0, x1, x2, x3, x4⟩
abbrev xA : Ev := ((5, 1, 0), 1, 0)
abbrev xB : Ev := ((3, 2, 0), 1, 0)
abbrev xC : Ev := ((9, 1, 0), 1, 0)
abbrev xD : Ev := ((4, 1, 1), 1, 0)
abbrev xE : Ev := ((4, 1, 2), 1, 0)
set_option maxRecDepth 100000 in
set_option maxHeartbeats 4000000 in
theorem awake10_calls (w : World) :
    Calls Tryz.prog 8 #[] w fun e w' => e = .returned (.bool true) ∧ Below w.heap.size w w' := by
  have HNw := Lib.hid (newQ_ok 2 (by omega) w)
  have HAt := Lib.hid (atV_calls)
  go_enter Tryz.func8, Tryz.ntmps8
  go_wp2_with (first
    | (go_at_call 34; refine HNw.out.mono ?_; rintro e w2 ⟨q, rfl, hq⟩; have HQ0 := Lib.hid hq; clear hq)
    | (go_at_call 38; refine (HAt.out _ _ _ _).mono ?_; rintro e w3 ⟨rfl, b3⟩; have B3 := Lib.hid b3; clear b3)
    | fail)
  have A0 : Aw w w3 q 2 0 [] (fun _ => none) := by
    obtain ⟨G, h1, h2, h3⟩ := HQ0.out.ex
    exact ⟨⟨G, h1.below B3.out, h3, fun b o h => by cases h⟩, h2.trans (B3.out.mono h2.size)⟩
  refine (awPut A0 (by omega) xA).mono ?_
  rintro e w4 ⟨c, L', rfl, h1, A1⟩
  obtain ⟨rfl, rfl⟩ := put1_ok h1 (by decide) (by simp) (by simp)
  clear h1 A0 HQ0 B3
  go_wp2_with (first | (go_at_call 38; refine (HAt.out _ _ _ _).mono ?_; rintro e w5 ⟨rfl, b3⟩; have B3 := Lib.hid b3; clear b3) | fail)
  refine (awPut (A1.below B3.out) (by omega) xB).mono ?_
  rintro e w6 ⟨c, L', rfl, h1, A2⟩
  obtain ⟨rfl, rfl⟩ := put1_ok h1 (by decide) (by decide) (by decide)
  clear h1 A1 B3
  go_wp2_with (first | (go_at_call 38; refine (HAt.out _ _ _ _).mono ?_; rintro e w7 ⟨rfl, b3⟩; have B3 := Lib.hid b3; clear b3) | fail)
  refine (awPut (A2.below B3.out) (by omega) xC).mono ?_
  rintro e w8 ⟨c, L', rfl, h1, A3⟩
  obtain ⟨rfl, rfl⟩ := put1_twice h1 (by decide) ⟨xA, by decide, by decide⟩
  clear h1 A2 B3
  go_wp2_with (first | (go_at_call 38; refine (HAt.out _ _ _ _).mono ?_; rintro e w9 ⟨rfl, b3⟩; have B3 := Lib.hid b3; clear b3) | fail)
  refine (awPut (A3.below B3.out) (by omega) xD).mono ?_
  rintro e w10 ⟨c, L', rfl, h1, A4⟩
  obtain ⟨rfl, rfl⟩ := put1_full h1 (by decide) (by decide) (by decide)
  clear h1 A3 B3
  have hL : insV xB (insV xA []) = [xB, xA] := by decide
  rw [hL] at A4
  clear hL
  go_wp2_with fail
  refine (awLeast A4).mono ?_
  rintro e w11 ⟨rfl, A5⟩
  clear A4
  go_wp2_with fail
  obtain ⟨bX, hbX⟩ : ∃ bX, w11.heap.size = bX := ⟨_, rfl⟩
  have A6 := A5.more ((Below.refl _ w11).alloc (Nat.le_refl _) (.cells #[.int .i64 3, .int .i64 2, .int .i64 0, .int .i64 1, .int .i64 0] 33)) w11.heap.size _ (World.alloc_heap_new w11 _) (Nat.le_refl _)
  rw [hbX] at A6 ⊢
  obtain ⟨W6, hW6⟩ : ∃ W6, w11.alloc (.cells #[.int .i64 3, .int .i64 2, .int .i64 0, .int .i64 1, .int .i64 0] 33) = W6 := ⟨_, rfl⟩
  rw [hW6] at A6 ⊢
  have hbX6 : bX < W6.heap.size := by rw [← hW6, ← hbX]; simp
  clear hW6 hbX A5
  refine (awTakeBefore A6 5).mono ?_
  rintro e w12 ⟨v, n, rfl, hc, hlv, hfr, hA⟩
  obtain rfl : n = 1 := by
    obtain ⟨c1, c2, c3⟩ := hc
    rcases Nat.lt_trichotomy n 1 with c | c | c
    · obtain rfl : n = 0 := by omega
      have := c3 (by simp)
      simp [vn] at this
    · exact c
    · have := c2 1 c
      simp [vn] at this
  have hlv : LV w12 v [xB] := hlv
  rcases hlv with ⟨_, e⟩ | ⟨g, gc, rfl, hvr, hgm⟩
  · cases e
  obtain ⟨cur, hcur, hcs⟩ := hvr.blk
  have A7 := hA g _ rfl hcur
  have hgX : g ≠ bX := fun e => by have := hfr g rfl; omega
  clear hA hc hfr A6
  have A7 : Aw w w12 q 2 (0 + 1 + 1 + 1 + 1) [xA] _ := A7
  go_wp2_with fail
  refine (awRoom A7).mono ?_
  rintro e w13 ⟨rfl, A8⟩
  clear A7
  go_wp2_with (first | (go_at_call 38; refine (HAt.out _ _ _ _).mono ?_; rintro e w14 ⟨rfl, b3⟩; replace A8 := A8.below b3; clear b3) | fail)
  refine (awPutTwo A8 (by omega) xD xD).mono ?_
  rintro e w15 ⟨r, c, L', rfl, h1, A9⟩
  obtain ⟨rfl, rfl, rfl⟩ := putIs_twice h1 (by decide) (by decide) (by decide) (by decide)
  clear h1 A8
  go_wp2_with (first | (go_at_call 38; refine (HAt.out _ _ _ _).mono ?_; rintro e w16 ⟨rfl, b3⟩; replace A9 := A9.below b3; clear b3) | fail)
  refine (awPutTwo A9 (by omega) xD xE).mono ?_
  rintro e w17 ⟨r, c, L', rfl, h1, A10⟩
  obtain ⟨rfl, rfl, rfl⟩ := putIs_full h1 (by decide) (by decide) (by decide)
  clear h1 A9
  go_wp2_with fail
  refine (awCancel A10 (x := xA) (by simp)).mono ?_
  rintro e w18 ⟨rfl, A11⟩
  clear A10
  have hL2 : ([xA].filter fun y => decide (nmV y ≠ nmV xA)) = [] := by decide
  rw [hL2] at A11
  go_wp2_with fail
  have A12 := A11.more ((Below.refl _ w18).alloc (Nat.le_refl _) (.cells #[.int .i64 5, .int .i64 1, .int .i64 0, .int .i64 1, .int .i64 0] 33)) w18.heap.size _ (World.alloc_heap_new w18 _) (Nat.le_refl _)
  have hlt18 := (Array.getElem?_eq_some_iff.1 (A11.get (b := bX) (by rw [if_neg hgX.symm, if_pos rfl]))).1
  have hltg := (Array.getElem?_eq_some_iff.1 (A11.get (b := g) (if_pos rfl))).1
  obtain ⟨bY, hbY⟩ : ∃ bY, w18.heap.size = bY := ⟨_, rfl⟩
  rw [hbY] at A12 hlt18 hltg ⊢
  refine (awTakeNo A12).mono ?_
  rintro e w19 ⟨rfl, A13⟩
  clear A12 A11
  go_wp2_with fail
  have A14 := A13.below ((Below.refl _ w19).alloc (Nat.le_refl _) (.cells #[.int .i64 0, .int .i64 0, .int .i64 0, .int .i64 0, .int .i64 0] 33))
  obtain ⟨b19, hb19⟩ : ∃ b19, w19.heap.size = b19 := ⟨_, rfl⟩
  obtain ⟨W0, hW0⟩ : ∃ W0, w19.alloc (.cells #[.int .i64 0, .int .i64 0, .int .i64 0, .int .i64 0, .int .i64 0] 33) = W0 := ⟨_, rfl⟩
  rw [hW0] at A14 ⊢
  rw [hb19]
  have HX := Lib.hid (A14.get (b := bX) (by rw [if_neg (by omega), if_neg hgX.symm, if_pos rfl]))
  have HY := Lib.hid (A14.get (b := bY) (if_pos rfl))
  have HGc := Lib.hid (show LV W0 (.slice (some ⟨g, 0, none⟩) 1 gc) [xB] from by
    have hg0 := A14.get (b := g) (by rw [if_neg (by omega), if_pos rfl])
    exact .inr ⟨g, gc, rfl, hvr.keep (hg0.trans hcur.symm), hgm⟩)
  have HBl := Lib.hid A14.bel
  have hEqB := fun W => eqlV xB W
  have hEqA := fun W => eqlV xA W
  have HEqB := Lib.hid hEqB
  have HEqA := Lib.hid hEqA
  clear A13 A14 hW0 hb19 hvr hcur hcs hEqA hEqB hL2
  have HLt := Lib.hid (show bX < W0.heap.size ∧ bY < W0.heap.size from ⟨(Array.getElem?_eq_some_iff.1 HX.out).1, (Array.getElem?_eq_some_iff.1 HY.out).1⟩)
  refine (wpIn_wide (n := 5)).1 ?_
  refine wpIn_region_inv (by kernel_rfl) (by kernel_rfl) (fun B a wc => ∃ pe : Nat, a = { tmps := #[bif B 57 then .bool true else Value.bool false, Value.pointer (some { block := q, off := 0 }), Value.int IntKind.i64 0, Value.int IntKind.i64 0, Value.int IntKind.i64 0, Value.int IntKind.i64 101, Value.int IntKind.i64 4, Value.pointer (some { block := bX, off := 0 }), Value.bool true, Value.slice (some { block := g, off := 0 }) 1 gc, Value.int IntKind.i64 1, Value.int IntKind.i64 1, Value.int IntKind.i64 101, Value.int IntKind.i64 (-1), Value.int IntKind.i64 4, Value.pointer (some { block := bY, off := 0 }), Value.int IntKind.i64 0, Value.pointer (some { block := b19, off := 0 }), Value.int IntKind.i64 6, Value.tuple #[Value.pointer (some { block := q, off := 0 }), Value.int IntKind.i64 0], Value.tuple #[Value.pointer (some { block := q, off := 0 }), Value.int IntKind.i64 0], Value.pointer (some { block := q, off := 0 }), Value.int IntKind.i64 0, Value.pointer (some { block := q, off := 0 }), Value.bool false, Value.bool false, Value.int IntKind.i64 0, Value.bool false, Value.bool false, Value.pointer (some { block := q, off := 0 }), Value.agg #[Value.int IntKind.i64 5, Value.int IntKind.i64 1, Value.int IntKind.i64 0, Value.int IntKind.i64 1, Value.int IntKind.i64 0], Value.int IntKind.i64 0, Value.pointer (some { block := q, off := 0 }), Value.agg #[Value.int IntKind.i64 3, Value.int IntKind.i64 2, Value.int IntKind.i64 0, Value.int IntKind.i64 1, Value.int IntKind.i64 0], Value.int IntKind.i64 0, Value.pointer (some { block := q, off := 0 }), Value.agg #[Value.int IntKind.i64 9, Value.int IntKind.i64 1, Value.int IntKind.i64 0, Value.int IntKind.i64 1, Value.int IntKind.i64 0], Value.int IntKind.i64 101, Value.pointer (some { block := q, off := 0 }), Value.agg #[Value.int IntKind.i64 4, Value.int IntKind.i64 1, Value.int IntKind.i64 1, Value.int IntKind.i64 1, Value.int IntKind.i64 0], Value.int IntKind.i64 4, Value.tuple #[Value.agg #[Value.int IntKind.i64 3, Value.int IntKind.i64 2, Value.int IntKind.i64 0, Value.int IntKind.i64 1, Value.int IntKind.i64 0], Value.bool true], Value.pointer (some { block := q, off := 0 }), Value.tuple #[Value.agg #[Value.int IntKind.i64 3, Value.int IntKind.i64 2, Value.int IntKind.i64 0, Value.int IntKind.i64 1, Value.int IntKind.i64 0], Value.bool true], Value.agg #[Value.int IntKind.i64 3, Value.int IntKind.i64 2, Value.int IntKind.i64 0, Value.int IntKind.i64 1, Value.int IntKind.i64 0], Value.bool true, Value.pointer (some { block := q, off := 0 }), Value.slice (some { block := g, off := 0 }) 1 gc, Value.pointer (some { block := q, off := 0 }), Value.int IntKind.i64 1, Value.tuple #[Value.int IntKind.i64 1, Value.int IntKind.i64 101], Value.pointer (some { block := q, off := 0 }), Value.agg #[Value.int IntKind.i64 4, Value.int IntKind.i64 1, Value.int IntKind.i64 1, Value.int IntKind.i64 1, Value.int IntKind.i64 0], Value.agg #[Value.int IntKind.i64 4, Value.int IntKind.i64 1, Value.int IntKind.i64 1, Value.int IntKind.i64 1, Value.int IntKind.i64 0], Value.slice (some { block := w14.heap.size, off := 0 }) 2 2, Value.tuple #[Value.int IntKind.i64 1, Value.int IntKind.i64 101], Value.int IntKind.i64 1, Value.int IntKind.i64 101, Value.tuple #[Value.int IntKind.i64 (-1), Value.int IntKind.i64 4], Value.pointer (some { block := q, off := 0 }), Value.agg #[Value.int IntKind.i64 4, Value.int IntKind.i64 1, Value.int IntKind.i64 1, Value.int IntKind.i64 1, Value.int IntKind.i64 0], Value.agg #[Value.int IntKind.i64 4, Value.int IntKind.i64 1, Value.int IntKind.i64 2, Value.int IntKind.i64 1, Value.int IntKind.i64 0], Value.slice (some { block := w16.heap.size, off := 0 }) 2 2, Value.tuple #[Value.int IntKind.i64 (-1), Value.int IntKind.i64 4], Value.int IntKind.i64 (-1), Value.int IntKind.i64 4, Value.tuple #[Value.agg #[Value.int IntKind.i64 5, Value.int IntKind.i64 1, Value.int IntKind.i64 0, Value.int IntKind.i64 1, Value.int IntKind.i64 0], Value.int IntKind.i64 0], Value.pointer (some { block := q, off := 0 }), Value.tuple #[Value.agg #[Value.int IntKind.i64 5, Value.int IntKind.i64 1, Value.int IntKind.i64 0, Value.int IntKind.i64 1, Value.int IntKind.i64 0], Value.int IntKind.i64 0], Value.agg #[Value.int IntKind.i64 5, Value.int IntKind.i64 1, Value.int IntKind.i64 0, Value.int IntKind.i64 1, Value.int IntKind.i64 0], Value.int IntKind.i64 0, Value.tuple #[Value.agg #[Value.int IntKind.i64 0, Value.int IntKind.i64 0, Value.int IntKind.i64 0, Value.int IntKind.i64 0, Value.int IntKind.i64 0], Value.int IntKind.i64 6], Value.pointer (some { block := q, off := 0 }), Value.tuple #[Value.agg #[Value.int IntKind.i64 0, Value.int IntKind.i64 0, Value.int IntKind.i64 0, Value.int IntKind.i64 0, Value.int IntKind.i64 0], Value.int IntKind.i64 6], Value.agg #[Value.int IntKind.i64 0, Value.int IntKind.i64 0, Value.int IntKind.i64 0, Value.int IntKind.i64 0, Value.int IntKind.i64 0], Value.int IntKind.i64 6, bif B 0 then .int .i64 0 else undef, bif B 1 then .int .i64 0 else undef, bif B 2 then .int .i64 0 else undef, bif B 3 then .int .i64 0 else undef, bif B 4 then .int .i64 0 else undef, bif B 5 then .bool true else undef, bif B 6 then .bool true else undef, bif B 7 then .int .i64 101 else undef, bif B 8 then .bool true else undef, bif B 9 then .bool true else undef, bif B 10 then .bool true else undef, bif B 11 then .int .i64 4 else undef, bif B 12 then .bool true else undef, bif B 13 then .bool true else undef, bif B 14 then .bool true else undef, bif B 15 then .agg #[.int .i64 3, .int .i64 2, .int .i64 0, .int .i64 1, .int .i64 0] else undef, bif B 16 then .agg #[.int .i64 3, .int .i64 2, .int .i64 0, .int .i64 1, .int .i64 0] else undef, bif B 17 then .bool true else undef, bif B 18 then .bool true else undef, bif B 19 then .bool true else undef, bif B 20 then .bool true else undef, bif B 21 then .bool true else undef, bif B 22 then .bool true else undef, bif B 23 then .slice (some ⟨g, 0, none⟩) 1 gc else undef, bif B 24 then .agg #[.int .i64 3, .int .i64 2, .int .i64 0, .int .i64 1, .int .i64 0] else undef, bif B 25 then .slice (some ⟨pe, 0, none⟩) 1 1 else undef, bif B 26 then .bool true else undef, bif B 27 then .bool true else undef, bif B 28 then .bool true else undef, bif B 29 then .int .i64 1 else undef, bif B 30 then .bool true else undef, bif B 31 then .bool true else undef, bif B 32 then .bool true else undef, bif B 33 then .int .i64 1 else undef, bif B 34 then .bool true else undef, bif B 35 then .bool true else undef, bif B 36 then .bool true else undef, bif B 37 then .int .i64 101 else undef, bif B 38 then .bool true else undef, bif B 39 then .bool true else undef, bif B 40 then .bool true else undef, bif B 41 then .int .i64 (-1) else undef, bif B 42 then .bool true else undef, bif B 43 then .bool true else undef, bif B 44 then .bool true else undef, bif B 45 then .int .i64 4 else undef, bif B 46 then .bool true else undef, bif B 47 then .bool true else undef, bif B 48 then .bool true else undef, bif B 49 then .agg #[.int .i64 5, .int .i64 1, .int .i64 0, .int .i64 1, .int .i64 0] else undef, bif B 50 then .agg #[.int .i64 5, .int .i64 1, .int .i64 0, .int .i64 1, .int .i64 0] else undef, bif B 51 then .bool true else undef, bif B 52 then .bool true else undef, bif B 53 then .bool true else undef, bif B 54 then .int .i64 6 else undef, bif B 55 then .bool true else undef, bif B 56 then .bool true else undef], defers := [] } ∧ Below W0.heap.size W0 wc ∧ (B 25 = true → VB wc pe xB)) ?init ?step ?fin
  case init => exact ⟨0, rfl, (Below.refl _ _).drew, fun h => by simp at h⟩
  case step =>
    intro B j a wc hj hbj hcl hw hI K' hK
    obtain ⟨pe, rfl, hB, hL⟩ := hI
    have hj : j < 58 := hj
    have hc26 : j = 26 → B 25 = true := by
      rintro rfl
      simp [waits, Region.binds] at hw
      first | exact hw.1 | exact hw.2 | exact hw.2.1 | exact hw.2.2 | exact hw.1.1 | exact hw.1.2 | exact hw.2.1.1 | exact hw.2.2.1 | exact hw
    clear hcl
    obtain rfl | rfl | rfl | rfl | rfl | rfl | rfl | rfl | rfl | rfl | rfl | rfl | rfl | rfl | rfl | rfl | rfl | rfl | rfl | rfl | rfl | rfl | rfl | rfl | rfl | rfl | rfl | rfl | rfl | rfl | rfl | rfl | rfl | rfl | rfl | rfl | rfl | rfl | rfl | rfl | rfl | rfl | rfl | rfl | rfl | rfl | rfl | rfl | rfl | rfl | rfl | rfl | rfl | rfl | rfl | rfl | rfl | rfl : j = 0 ∨ j = 1 ∨ j = 2 ∨ j = 3 ∨ j = 4 ∨ j = 5 ∨ j = 6 ∨ j = 7 ∨ j = 8 ∨ j = 9 ∨ j = 10 ∨ j = 11 ∨ j = 12 ∨ j = 13 ∨ j = 14 ∨ j = 15 ∨ j = 16 ∨ j = 17 ∨ j = 18 ∨ j = 19 ∨ j = 20 ∨ j = 21 ∨ j = 22 ∨ j = 23 ∨ j = 24 ∨ j = 25 ∨ j = 26 ∨ j = 27 ∨ j = 28 ∨ j = 29 ∨ j = 30 ∨ j = 31 ∨ j = 32 ∨ j = 33 ∨ j = 34 ∨ j = 35 ∨ j = 36 ∨ j = 37 ∨ j = 38 ∨ j = 39 ∨ j = 40 ∨ j = 41 ∨ j = 42 ∨ j = 43 ∨ j = 44 ∨ j = 45 ∨ j = 46 ∨ j = 47 ∨ j = 48 ∨ j = 49 ∨ j = 50 ∨ j = 51 ∨ j = 52 ∨ j = 53 ∨ j = 54 ∨ j = 55 ∨ j = 56 ∨ j = 57 := by omega
    all_goals (simp [waits, Region.binds] at hw)
    · simp only [hbj, cond_false]
      refine wpOpIn_step rfl ?_
      intro K'' hK'
      go_simp
      exact hK' _ _ (hK _ _ ⟨pe, by simp [upd], hB, fun h => hL (by simpa [upd] using h)⟩)
    · simp only [hbj, cond_false]
      refine wpOpIn_step rfl ?_
      intro K'' hK'
      go_simp
      exact hK' _ _ (hK _ _ ⟨pe, by simp [upd], hB, fun h => hL (by simpa [upd] using h)⟩)
    · first | simp only [hbj, hw, cond_true, cond_false] | simp only [hbj, cond_true, cond_false]
      refine wpOpIn_step rfl ?_
      intro K'' hK'
      go_simp
      exact hK' _ _ (hK _ _ ⟨pe, by simp [upd, hw, show IntKind.i64.wrap 0 = 0 by decide], hB, fun h => hL (by simpa [upd] using h)⟩)
    · simp only [hbj, cond_false]
      refine wpOpIn_step rfl ?_
      intro K'' hK'
      go_simp
      exact hK' _ _ (hK _ _ ⟨pe, by simp [upd], hB, fun h => hL (by simpa [upd] using h)⟩)
    · first | simp only [hbj, hw, cond_true, cond_false] | simp only [hbj, cond_true, cond_false]
      refine wpOpIn_step rfl ?_
      intro K'' hK'
      go_simp
      exact hK' _ _ (hK _ _ ⟨pe, by simp [upd, hw, show IntKind.i64.wrap 0 = 0 by decide], hB, fun h => hL (by simpa [upd] using h)⟩)
    · first | simp only [hbj, hw, cond_true, cond_false] | simp only [hbj, cond_true, cond_false]
      refine wpOpIn_step rfl ?_
      intro K'' hK'
      go_simp
      exact hK' _ _ (hK _ _ ⟨pe, by simp [upd, hw], hB, fun h => hL (by simpa [upd] using h)⟩)
    · first | simp only [hbj, hw, cond_true, cond_false] | simp only [hbj, cond_true, cond_false]
      refine wpOpIn_step rfl ?_
      intro K'' hK'
      go_simp
      exact hK' _ _ (hK _ _ ⟨pe, by simp [upd, hw], hB, fun h => hL (by simpa [upd] using h)⟩)
    · first | simp only [hbj, hw, cond_true, cond_false] | simp only [hbj, cond_true, cond_false]
      refine wpOpIn_step rfl ?_
      intro K'' hK'
      go_simp
      exact hK' _ _ (hK _ _ ⟨pe, by simp [upd, hw], hB, fun h => hL (by simpa [upd] using h)⟩)
    · first | simp only [hbj, hw, cond_true, cond_false] | simp only [hbj, cond_true, cond_false]
      refine wpOpIn_step rfl ?_
      intro K'' hK'
      go_simp
      exact hK' _ _ (hK _ _ ⟨pe, by simp [upd, hw], hB, fun h => hL (by simpa [upd] using h)⟩)
    · first | simp only [hbj, hw, cond_true, cond_false] | simp only [hbj, cond_true, cond_false]
      refine wpOpIn_step rfl ?_
      intro K'' hK'
      go_simp
      exact hK' _ _ (hK _ _ ⟨pe, by simp [upd, hw], hB, fun h => hL (by simpa [upd] using h)⟩)
    · first | simp only [hbj, hw, cond_true, cond_false] | simp only [hbj, cond_true, cond_false]
      refine wpOpIn_step rfl ?_
      intro K'' hK'
      go_simp
      exact hK' _ _ (hK _ _ ⟨pe, by simp [upd, hw], hB, fun h => hL (by simpa [upd] using h)⟩)
    · first | simp only [hbj, hw, cond_true, cond_false] | simp only [hbj, cond_true, cond_false]
      refine wpOpIn_step rfl ?_
      intro K'' hK'
      go_simp
      exact hK' _ _ (hK _ _ ⟨pe, by simp [upd, hw], hB, fun h => hL (by simpa [upd] using h)⟩)
    · first | simp only [hbj, hw, cond_true, cond_false] | simp only [hbj, cond_true, cond_false]
      refine wpOpIn_step rfl ?_
      intro K'' hK'
      go_simp
      exact hK' _ _ (hK _ _ ⟨pe, by simp [upd, hw], hB, fun h => hL (by simpa [upd] using h)⟩)
    · first | simp only [hbj, hw, cond_true, cond_false] | simp only [hbj, cond_true, cond_false]
      refine wpOpIn_step rfl ?_
      intro K'' hK'
      go_simp
      exact hK' _ _ (hK _ _ ⟨pe, by simp [upd, hw], hB, fun h => hL (by simpa [upd] using h)⟩)
    · first | simp only [hbj, hw, cond_true, cond_false] | simp only [hbj, cond_true, cond_false]
      refine wpOpIn_step rfl ?_
      intro K'' hK'
      go_simp
      exact hK' _ _ (hK _ _ ⟨pe, by simp [upd, hw], hB, fun h => hL (by simpa [upd] using h)⟩)
    · obtain ⟨x0, x1, x2, x3, x4, -⟩ := (show VB wc bX xB from (hB.block _ HLt.out.1).trans HX.out).cells
      first | simp only [hbj, hw, cond_true, cond_false] | simp only [hbj, cond_true, cond_false]
      refine wpOpIn_step rfl ?_
      intro K'' hK'
      go_simp
      exact hK' _ _ (hK _ _ ⟨pe, by simp [upd, hw], hB, fun h => hL (by simpa [upd] using h)⟩)
    · first | simp only [hbj, hw, cond_true, cond_false] | simp only [hbj, cond_true, cond_false]
      refine wpOpIn_step rfl ?_
      intro K'' hK'
      go_simp
      refine ⟨trivial, (callsIn_wide.2 (atV_calls _ _ _ wc)).mono ?_⟩
      rintro e w' ⟨rfl, hb⟩
      exact hK' _ _ (hK _ _ ⟨pe, by simp [upd, hw], hB.trans (hb.mono hB.size), fun h => (hL (by simpa [upd] using h)).below hb⟩)
    · have hEq := HEqB.out
      first | simp only [hbj, hw, cond_true, cond_false] | simp only [hbj, cond_true, cond_false]
      refine wpOpIn_step rfl ?_
      intro K'' hK'
      go_simp
      exact hK' _ _ (hK _ _ ⟨pe, by simp [upd, hw], hB, fun h => hL (by simpa [upd] using h)⟩)
    · first | simp only [hbj, hw, cond_true, cond_false] | simp only [hbj, cond_true, cond_false]
      refine wpOpIn_step rfl ?_
      intro K'' hK'
      go_simp
      exact hK' _ _ (hK _ _ ⟨pe, by simp [upd, hw], hB, fun h => hL (by simpa [upd] using h)⟩)
    · first | simp only [hbj, hw, cond_true, cond_false] | simp only [hbj, cond_true, cond_false]
      refine wpOpIn_step rfl ?_
      intro K'' hK'
      go_simp
      exact hK' _ _ (hK _ _ ⟨pe, by simp [upd, hw], hB, fun h => hL (by simpa [upd] using h)⟩)
    · first | simp only [hbj, hw, cond_true, cond_false] | simp only [hbj, cond_true, cond_false]
      refine wpOpIn_step rfl ?_
      intro K'' hK'
      go_simp
      exact hK' _ _ (hK _ _ ⟨pe, by simp [upd, hw], hB, fun h => hL (by simpa [upd] using h)⟩)
    · first | simp only [hbj, hw, cond_true, cond_false] | simp only [hbj, cond_true, cond_false]
      refine wpOpIn_step rfl ?_
      intro K'' hK'
      go_simp
      exact hK' _ _ (hK _ _ ⟨pe, by simp [upd, hw], hB, fun h => hL (by simpa [upd] using h)⟩)
    · first | simp only [hbj, hw, cond_true, cond_false] | simp only [hbj, cond_true, cond_false]
      refine wpOpIn_step rfl ?_
      intro K'' hK'
      go_simp
      exact hK' _ _ (hK _ _ ⟨pe, by simp [upd, hw], hB, fun h => hL (by simpa [upd] using h)⟩)
    · first | simp only [hbj, hw, cond_true, cond_false] | simp only [hbj, cond_true, cond_false]
      refine wpOpIn_step rfl ?_
      intro K'' hK'
      go_simp
      exact hK' _ _ (hK _ _ ⟨pe, by simp [upd, hw], hB, fun h => hL (by simpa [upd] using h)⟩)
    · first | simp only [hbj, hw, cond_true, cond_false] | simp only [hbj, cond_true, cond_false]
      refine wpOpIn_step rfl ?_
      intro K'' hK'
      go_simp
      refine ⟨trivial, (callsIn_wide.2 (atV_calls _ _ _ wc)).mono ?_⟩
      rintro e w' ⟨rfl, hb⟩
      exact hK' _ _ (hK _ _ ⟨pe, by simp [upd, hw], hB.trans (hb.mono hB.size), fun h => (hL (by simpa [upd] using h)).below hb⟩)
    · first | simp only [hbj, hw, cond_true, cond_false] | simp only [hbj, cond_true, cond_false]
      refine wpOpIn_step rfl ?_
      intro K'' hK'
      go_simp
      exact hK' _ _ (hK _ _ ⟨wc.heap.size, by simp [upd, hw], hB.alloc hB.size _, fun _ => VB.new wc xB⟩)
    · first | simp only [hbj, hw, cond_true, cond_false] | simp only [hbj, cond_true, cond_false]
      refine wpOpIn_step rfl ?_
      intro K'' hK'
      go_simp
      have hvb := hL (hc26 rfl)
      refine ⟨trivial, (callsIn_wide.2 (equalVs_calls (.slice (some ⟨g, 0, none⟩) 1 gc) (.slice (some ⟨pe, 0, none⟩) 1 1) [xB] wc (HGc.out.below hB) (LV.vb hvb) (by simp))).mono ?_⟩
      rintro e w' ⟨rfl, hb⟩
      exact hK' _ _ (hK _ _ ⟨pe, by simp [upd, hw], hB.trans (hb.mono hB.size), fun h => (hL (by simpa [upd] using h)).below hb⟩)
    · first | simp only [hbj, hw, cond_true, cond_false] | simp only [hbj, cond_true, cond_false]
      refine wpOpIn_step rfl ?_
      intro K'' hK'
      go_simp
      exact hK' _ _ (hK _ _ ⟨pe, by simp [upd, hw], hB, fun h => hL (by simpa [upd] using h)⟩)
    · first | simp only [hbj, hw, cond_true, cond_false] | simp only [hbj, cond_true, cond_false]
      refine wpOpIn_step rfl ?_
      intro K'' hK'
      go_simp
      exact hK' _ _ (hK _ _ ⟨pe, by simp [upd, hw], hB, fun h => hL (by simpa [upd] using h)⟩)
    · first | simp only [hbj, hw, cond_true, cond_false] | simp only [hbj, cond_true, cond_false]
      refine wpOpIn_step rfl ?_
      intro K'' hK'
      go_simp
      exact hK' _ _ (hK _ _ ⟨pe, by simp [upd, hw], hB, fun h => hL (by simpa [upd] using h)⟩)
    · first | simp only [hbj, hw, cond_true, cond_false] | simp only [hbj, cond_true, cond_false]
      refine wpOpIn_step rfl ?_
      intro K'' hK'
      go_simp
      exact hK' _ _ (hK _ _ ⟨pe, by simp [upd, hw], hB, fun h => hL (by simpa [upd] using h)⟩)
    · first | simp only [hbj, hw, cond_true, cond_false] | simp only [hbj, cond_true, cond_false]
      refine wpOpIn_step rfl ?_
      intro K'' hK'
      go_simp
      exact hK' _ _ (hK _ _ ⟨pe, by simp [upd, hw], hB, fun h => hL (by simpa [upd] using h)⟩)
    · first | simp only [hbj, hw, cond_true, cond_false] | simp only [hbj, cond_true, cond_false]
      refine wpOpIn_step rfl ?_
      intro K'' hK'
      go_simp
      exact hK' _ _ (hK _ _ ⟨pe, by simp [upd, hw], hB, fun h => hL (by simpa [upd] using h)⟩)
    · first | simp only [hbj, hw, cond_true, cond_false] | simp only [hbj, cond_true, cond_false]
      refine wpOpIn_step rfl ?_
      intro K'' hK'
      go_simp
      exact hK' _ _ (hK _ _ ⟨pe, by simp [upd, hw], hB, fun h => hL (by simpa [upd] using h)⟩)
    · first | simp only [hbj, hw, cond_true, cond_false] | simp only [hbj, cond_true, cond_false]
      refine wpOpIn_step rfl ?_
      intro K'' hK'
      go_simp
      exact hK' _ _ (hK _ _ ⟨pe, by simp [upd, hw], hB, fun h => hL (by simpa [upd] using h)⟩)
    · first | simp only [hbj, hw, cond_true, cond_false] | simp only [hbj, cond_true, cond_false]
      refine wpOpIn_step rfl ?_
      intro K'' hK'
      go_simp
      exact hK' _ _ (hK _ _ ⟨pe, by simp [upd, hw], hB, fun h => hL (by simpa [upd] using h)⟩)
    · first | simp only [hbj, hw, cond_true, cond_false] | simp only [hbj, cond_true, cond_false]
      refine wpOpIn_step rfl ?_
      intro K'' hK'
      go_simp
      exact hK' _ _ (hK _ _ ⟨pe, by simp [upd, hw], hB, fun h => hL (by simpa [upd] using h)⟩)
    · first | simp only [hbj, hw, cond_true, cond_false] | simp only [hbj, cond_true, cond_false]
      refine wpOpIn_step rfl ?_
      intro K'' hK'
      go_simp
      exact hK' _ _ (hK _ _ ⟨pe, by simp [upd, hw], hB, fun h => hL (by simpa [upd] using h)⟩)
    · first | simp only [hbj, hw, cond_true, cond_false] | simp only [hbj, cond_true, cond_false]
      refine wpOpIn_step rfl ?_
      intro K'' hK'
      go_simp
      exact hK' _ _ (hK _ _ ⟨pe, by simp [upd, hw], hB, fun h => hL (by simpa [upd] using h)⟩)
    · first | simp only [hbj, hw, cond_true, cond_false] | simp only [hbj, cond_true, cond_false]
      refine wpOpIn_step rfl ?_
      intro K'' hK'
      go_simp
      exact hK' _ _ (hK _ _ ⟨pe, by simp [upd, hw], hB, fun h => hL (by simpa [upd] using h)⟩)
    · first | simp only [hbj, hw, cond_true, cond_false] | simp only [hbj, cond_true, cond_false]
      refine wpOpIn_step rfl ?_
      intro K'' hK'
      go_simp
      exact hK' _ _ (hK _ _ ⟨pe, by simp [upd, hw], hB, fun h => hL (by simpa [upd] using h)⟩)
    · first | simp only [hbj, hw, cond_true, cond_false] | simp only [hbj, cond_true, cond_false]
      refine wpOpIn_step rfl ?_
      intro K'' hK'
      go_simp
      exact hK' _ _ (hK _ _ ⟨pe, by simp [upd, hw], hB, fun h => hL (by simpa [upd] using h)⟩)
    · first | simp only [hbj, hw, cond_true, cond_false] | simp only [hbj, cond_true, cond_false]
      refine wpOpIn_step rfl ?_
      intro K'' hK'
      go_simp
      exact hK' _ _ (hK _ _ ⟨pe, by simp [upd, hw], hB, fun h => hL (by simpa [upd] using h)⟩)
    · first | simp only [hbj, hw, cond_true, cond_false] | simp only [hbj, cond_true, cond_false]
      refine wpOpIn_step rfl ?_
      intro K'' hK'
      go_simp
      exact hK' _ _ (hK _ _ ⟨pe, by simp [upd, hw], hB, fun h => hL (by simpa [upd] using h)⟩)
    · first | simp only [hbj, hw, cond_true, cond_false] | simp only [hbj, cond_true, cond_false]
      refine wpOpIn_step rfl ?_
      intro K'' hK'
      go_simp
      exact hK' _ _ (hK _ _ ⟨pe, by simp [upd, hw], hB, fun h => hL (by simpa [upd] using h)⟩)
    · first | simp only [hbj, hw, cond_true, cond_false] | simp only [hbj, cond_true, cond_false]
      refine wpOpIn_step rfl ?_
      intro K'' hK'
      go_simp
      exact hK' _ _ (hK _ _ ⟨pe, by simp [upd, hw], hB, fun h => hL (by simpa [upd] using h)⟩)
    · first | simp only [hbj, hw, cond_true, cond_false] | simp only [hbj, cond_true, cond_false]
      refine wpOpIn_step rfl ?_
      intro K'' hK'
      go_simp
      exact hK' _ _ (hK _ _ ⟨pe, by simp [upd, hw], hB, fun h => hL (by simpa [upd] using h)⟩)
    · first | simp only [hbj, hw, cond_true, cond_false] | simp only [hbj, cond_true, cond_false]
      refine wpOpIn_step rfl ?_
      intro K'' hK'
      go_simp
      exact hK' _ _ (hK _ _ ⟨pe, by simp [upd, hw], hB, fun h => hL (by simpa [upd] using h)⟩)
    · first | simp only [hbj, hw, cond_true, cond_false] | simp only [hbj, cond_true, cond_false]
      refine wpOpIn_step rfl ?_
      intro K'' hK'
      go_simp
      exact hK' _ _ (hK _ _ ⟨pe, by simp [upd, hw], hB, fun h => hL (by simpa [upd] using h)⟩)
    · obtain ⟨x0, x1, x2, x3, x4, -⟩ := (show VB wc bY xA from (hB.block _ HLt.out.2).trans HY.out).cells
      first | simp only [hbj, hw, cond_true, cond_false] | simp only [hbj, cond_true, cond_false]
      refine wpOpIn_step rfl ?_
      intro K'' hK'
      go_simp
      exact hK' _ _ (hK _ _ ⟨pe, by simp [upd, hw], hB, fun h => hL (by simpa [upd] using h)⟩)
    · first | simp only [hbj, hw, cond_true, cond_false] | simp only [hbj, cond_true, cond_false]
      refine wpOpIn_step rfl ?_
      intro K'' hK'
      go_simp
      refine ⟨trivial, (callsIn_wide.2 (atV_calls _ _ _ wc)).mono ?_⟩
      rintro e w' ⟨rfl, hb⟩
      exact hK' _ _ (hK _ _ ⟨pe, by simp [upd, hw], hB.trans (hb.mono hB.size), fun h => (hL (by simpa [upd] using h)).below hb⟩)
    · have hEq := HEqA.out
      first | simp only [hbj, hw, cond_true, cond_false] | simp only [hbj, cond_true, cond_false]
      refine wpOpIn_step rfl ?_
      intro K'' hK'
      go_simp
      exact hK' _ _ (hK _ _ ⟨pe, by simp [upd, hw], hB, fun h => hL (by simpa [upd] using h)⟩)
    · first | simp only [hbj, hw, cond_true, cond_false] | simp only [hbj, cond_true, cond_false]
      refine wpOpIn_step rfl ?_
      intro K'' hK'
      go_simp
      exact hK' _ _ (hK _ _ ⟨pe, by simp [upd, hw], hB, fun h => hL (by simpa [upd] using h)⟩)
    · first | simp only [hbj, hw, cond_true, cond_false] | simp only [hbj, cond_true, cond_false]
      refine wpOpIn_step rfl ?_
      intro K'' hK'
      go_simp
      exact hK' _ _ (hK _ _ ⟨pe, by simp [upd, hw], hB, fun h => hL (by simpa [upd] using h)⟩)
    · first | simp only [hbj, hw, cond_true, cond_false] | simp only [hbj, cond_true, cond_false]
      refine wpOpIn_step rfl ?_
      intro K'' hK'
      go_simp
      exact hK' _ _ (hK _ _ ⟨pe, by simp [upd, hw], hB, fun h => hL (by simpa [upd] using h)⟩)
    · first | simp only [hbj, hw, cond_true, cond_false] | simp only [hbj, cond_true, cond_false]
      refine wpOpIn_step rfl ?_
      intro K'' hK'
      go_simp
      exact hK' _ _ (hK _ _ ⟨pe, by simp [upd, hw], hB, fun h => hL (by simpa [upd] using h)⟩)
    · first | simp only [hbj, hw, cond_true, cond_false] | simp only [hbj, cond_true, cond_false]
      refine wpOpIn_step rfl ?_
      intro K'' hK'
      go_simp
      exact hK' _ _ (hK _ _ ⟨pe, by simp [upd, hw], hB, fun h => hL (by simpa [upd] using h)⟩)
    · first | simp only [hbj, hw, cond_true, cond_false] | simp only [hbj, cond_true, cond_false]
      refine wpOpIn_step rfl ?_
      intro K'' hK'
      go_simp
      exact hK' _ _ (hK _ _ ⟨pe, by simp [upd, hw], hB, fun h => hL (by simpa [upd] using h)⟩)
  case fin =>
    intro B a wV hall hI
    obtain ⟨pe, rfl, hB, -⟩ := hI
    simp only [hall 57 (by decide), cond_true]
    have HE := Lib.hid (HBl.out.trans (hB.mono HBl.out.size))
    clear hall hB
    go_wp2
    go_ret
    exact ⟨rfl, HE.out⟩
end Go.Proofs.YtcjkeobjojmpfaaGreat
