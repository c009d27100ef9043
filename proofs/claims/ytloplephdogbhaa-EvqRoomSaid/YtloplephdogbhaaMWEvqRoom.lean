import Derived.Test.YtloplephdogbhaaMEvqIns
import Derived.Test.YtloplephdogbhaaMEvqI
import Derived.Test.YtloplephdogbhaaMEvqU
import Derived.Test.YtloplephdogbhaaMEvqOne
import Derived.ArgAppend
import Derived.Test.YtloplephdogbhaaMEvqR
import Derived.Test.YtloplephdogbhaaMEvqAw
section
/-
  CONTRACT of slices.Delete at events, where one is taken out.
-/
namespace Go.Proofs.Ytloplephdogbhaa
open Go.RowKit Go.Shelf Go.Lib

theorem blkV_sets {g n : Nat} : ∀ (vs : List Value) (o : Nat) (w : World), (∃ cur, w.heap[g]? = some (.cells cur 34 (0, 0)) ∧ cur.size = n * 5) → ∃ cur, (w.setCells g o vs).heap[g]? = some (.cells cur 34 (0, 0)) ∧ cur.size = n * 5
  | [], _, _, h => h
  | v :: r, o, _, h => blkV_sets r (o + 1) _ (blkV_set h o v)
theorem Off.setCells {F : Nat → Prop} {g : Nat} (hg : F g) : ∀ (vs : List Value) (o : Nat) (a w : World), Off F a w → Off F a (w.setCells g o vs)
  | [], _, _, _, h => h
  | v :: r, o, a, _, h => Off.setCells hg r (o + 1) a _ (h.set (.inl hg) o v)
/-- What append leaves of the row: the events behind the one that is gone lie one place further ahead. -/
theorem cellsV_drop_get (t : List Ev) (k : Nat) {j : Nat} {u : Value} (h : (cellsV (t.drop k))[j]? = some u) : (cellsV t)[k * 5 + j]? = some u := by
  rw [cellsV_dp, List.getElem?_drop] at h
  exact h
theorem VR.cellsOf {w : World} {g cap : Nat} {t : List Ev} (h : VR w g cap t) {j : Nat} {u : Value} (hj : (cellsV t)[j]? = some u) : w.cell? ⟨g, j, none⟩ = some u := by
  have hjl : j < (cellsV t).length := (List.getElem?_eq_some_iff.1 hj).1
  rw [cellsV_len] at hjl
  obtain ⟨i, r, rfl, hr5⟩ : ∃ i r, j = i * 5 + r ∧ r < 5 := ⟨j / 5, j % 5, by omega, by omega⟩
  have hi : i < t.length := by omega
  obtain ⟨a0, a1, a2, a3, a4⟩ := cellsV_get t i hi
  obtain ⟨b0, b1, b2, b3, b4⟩ := h.cell i hi
  rcases (by omega : r = 0 ∨ r = 1 ∨ r = 2 ∨ r = 3 ∨ r = 4) with rfl | rfl | rfl | rfl | rfl
  · rw [Nat.add_zero] at hj ⊢
    rw [a0] at hj; rw [b0]; exact hj
  · rw [a1] at hj; rw [b1]; exact hj
  · rw [a2] at hj; rw [b2]; exact hj
  · rw [a3] at hj; rw [b3]; exact hj
  · rw [a4] at hj; rw [b4]; exact hj
theorem VR.of_cells {w : World} {g cap : Nat} {t : List Ev} (hb : ∃ cur, w.heap[g]? = some (.cells cur 34 (0, 0)) ∧ cur.size = cap * 5) (hl : t.length ≤ cap) (h : ∀ j u, (cellsV t)[j]? = some u → w.cell? ⟨g, j, none⟩ = some u) : VR w g cap t := by
  refine ⟨hb, hl, fun i hi => ?_⟩
  obtain ⟨a0, a1, a2, a3, a4⟩ := cellsV_get t i hi
  exact ⟨h _ _ a0, h _ _ a1, h _ _ a2, h _ _ a3, h _ _ a4⟩
theorem VR.some {w : World} {g cap : Nat} {t : List Ev} (h : VR w g cap t) {j : Nat} (hj : j < cap * 5) : (w.cell? ⟨g, j, none⟩).isSome = true := by
  obtain ⟨cur, hc, hs⟩ := h.blk
  simp only [World.cell?, hc]
  simp [hs, hj]
theorem run_clear_one (w : World) (ty : TypeId) (g o c : Nat) (hc : ∀ j, j < 5 → (w.cell? ⟨g, o + j, none⟩).isSome = true) (hf : ∀ j, j < 5 → w.frozen? ⟨g, o + j, none⟩ = false) :
    (Builtin.clear_ #[28] ty #[.slice (some ⟨g, o, none⟩) 1 c]).run Try.prog w = .ok (.tuple #[]) (w.setCells g o [.int .i64 0, .int .i64 0, .int .i64 0, .int .i64 0, .int .i64 0]) := by
  have hv : ∀ w, (zeroValue 34).run Try.prog w = .ok (.agg #[.int .i64 0, .int .i64 0, .int .i64 0, .int .i64 0, .int .i64 0]) w := fun w => by kernel_rfl
  have hzc : (Builtin.zeroCells (Value.agg #[.int .i64 0, .int .i64 0, .int .i64 0, .int .i64 0, .int .i64 0]).cells 1).toList = [.int .i64 0, .int .i64 0, .int .i64 0, .int .i64 0, .int .i64 0] := by kernel_rfl
  have hst := run_storeCells_cells (P := Try.prog) g o [.int .i64 0, .int .i64 0, .int .i64 0, .int .i64 0, .int .i64 0] 0 w (by simpa using hc) (by simpa using hf) (by intro v hv'; simp at hv'; subst hv'; rfl)
  simp only [Nat.add_zero] at hst
  simp [Builtin.clear_, run_underlying Try.underlying28, hv, hzc, hst]
/-- What the row holds when one event is taken out of it. -/
theorem VR.delete {w W1 W2 : World} {g cap i : Nat} {t : List Ev} (h : VR w g cap t) (hi : i < t.length) (h1 : W1 = w.setCells g (i * 5) (cellsV (t.drop (i + 1)))) {z : List Value} (h2 : W2 = W1.setCells g ((t.length - 1) * 5) z) : VR W2 g cap (t.take i ++ t.drop (i + 1)) ∧ Off (fun k => k = g) w W2 := by
  have hle := h.le
  have hn : (cellsV (t.drop (i + 1))).length = (t.length - (i + 1)) * 5 := by rw [cellsV_len, List.length_drop]
  have hlen : (t.take i ++ t.drop (i + 1)).length = t.length - 1 := by rw [List.length_append, List.length_take, List.length_drop]; omega
  refine ⟨VR.of_cells ?_ (by omega) (fun j u hj => ?_), ?_⟩
  · rw [h2, h1]; exact blkV_sets _ _ _ (blkV_sets _ _ _ h.blk)
  · have hjl : j < (cellsV (t.take i ++ t.drop (i + 1))).length := (List.getElem?_eq_some_iff.1 hj).1
    rw [cellsV_len, hlen] at hjl
    rw [h2, World.cell?_setCells_out g z _ _ _ (fun _ _ => .inl hjl), h1]
    rw [cellsV_append] at hj
    have hti : (cellsV (t.take i)).length = i * 5 := by rw [cellsV_len, List.length_take]; omega
    rcases Nat.lt_or_ge j (i * 5) with c | c
    · rw [World.cell?_setCells_out g _ _ _ _ (fun _ _ => .inl c)]
      rw [List.getElem?_append_left (by omega), cellsV_tk, List.getElem?_take_of_lt c] at hj
      exact h.cellsOf hj
    · rw [List.getElem?_append_right (by omega), hti] at hj
      have hk : j - i * 5 < (cellsV (t.drop (i + 1))).length := (List.getElem?_eq_some_iff.1 hj).1
      have := World.cell?_setCells_in g (cellsV (t.drop (i + 1))) (i * 5) w (fun k hk2 => h.some (by omega)) (j - i * 5) hk
      rw [show i * 5 + (j - i * 5) = j by omega] at this
      rw [this, ← hj, List.getElem?_eq_getElem hk]
  · rw [h2, h1]
    exact Off.setCells (F := fun k => k = g) rfl _ _ _ _ (Off.setCells (F := fun k => k = g) rfl _ _ _ _ (Off.refl _ _))
end Go.Proofs.Ytloplephdogbhaa
end

section
/-
  slices.Concat of two lists of events that begin anywhere.
-/
namespace Go.Proofs.Ytloplephdogbhaa
open Go.RowKit Go.Shelf

theorem LO.cells {w : World} {g o n cap : Nat} {t : List Ev} (h : LO w (.slice (some ⟨g, o, none⟩) n cap) t) : n = t.length ∧ g < w.heap.size ∧ ∀ j u, (cellsV t)[j]? = some u → w.cell? ⟨g, o + j, none⟩ = some u := by
  rcases h with ⟨h, _⟩ | ⟨g', o', c', e, hl, hle, hr, hm⟩
  · cases h
  · simp at e
    obtain ⟨⟨rfl, rfl⟩, rfl, rfl⟩ := e
    refine ⟨rfl, hl, fun j u hj => ?_⟩
    have hjl : j < (cellsV t).length := (List.getElem?_eq_some_iff.1 hj).1
    rw [cellsV_len] at hjl
    obtain ⟨i, r, rfl, hr5⟩ : ∃ i r, j = i * 5 + r ∧ r < 5 := ⟨j / 5, j % 5, by omega, by omega⟩
    have hi : i < t.length := by omega
    obtain ⟨a0, a1, a2, a3, a4⟩ := cellsV_get t i hi
    obtain ⟨b0, b1, b2, b3, b4⟩ := hr i hi
    rcases (by omega : r = 0 ∨ r = 1 ∨ r = 2 ∨ r = 3 ∨ r = 4) with rfl | rfl | rfl | rfl | rfl
    · rw [Nat.add_zero] at hj ⊢
      rw [a0] at hj; rw [b0]; exact hj
    · rw [a1] at hj; rw [← Nat.add_assoc, b1]; exact hj
    · rw [a2] at hj; rw [← Nat.add_assoc, b2]; exact hj
    · rw [a3] at hj; rw [← Nat.add_assoc, b3]; exact hj
    · rw [a4] at hj; rw [← Nat.add_assoc, b4]; exact hj
theorem concat2_calls {w : World} (b c : Nat) (v1 v2 : Value) (t1 t2 : List Ev) (hc : 2 ≤ c) (hb : b < w.heap.size) (c0 : w.cell? ⟨b, 0, none⟩ = some v1) (c1 : w.cell? ⟨b, 1, none⟩ = some v2) (h1 : LO w v1 t1) (h2 : LO w v2 t2) (hn : (v1 = .slice none 0 0 ∧ v2 = .slice none 0 0 ∧ t1 = [] ∧ t2 = []) ∨ ∃ g1 o1 c1 g2 o2 c2, v1 = .slice (some ⟨g1, o1, none⟩) t1.length c1 ∧ v2 = .slice (some ⟨g2, o2, none⟩) t2.length c2) (hlen : t1.length + t2.length ≤ 1000) :
    Calls Try.prog 96 #[.slice (some ⟨b, 0, none⟩) 2 c] w fun e w' => ∃ v, e = .returned v ∧ w'.ownsRow w.heap.size 34 5 v (t1 ++ t2).length (cellsV (t1 ++ t2)) ∧ Below w.heap.size w w' := by
  rcases hn with ⟨rfl, rfl, rfl, rfl⟩ | ⟨g1, o1, k1, g2, o2, k2, rfl, rfl⟩
  · refine (concatV_none b 2 c w hc (by omega) (fun i hi => ?_)).mono ?_
    · rcases (by omega : i = 0 ∨ i = 1) with rfl | rfl
      · exact c0
      · exact c1
    · rintro e w' ⟨rfl, h⟩
      exact ⟨_, rfl, World.ownsRow_nil _ _ _ _, h⟩
  · have hcat : catV (fun i => if i = 0 then t1 else t2) 2 = t1 ++ t2 := by simp [catV]
    obtain ⟨-, a1, a2⟩ := h1.cells
    obtain ⟨-, a3, a4⟩ := h2.cells
    have h := concatV_calls b 2 c (fun i => if i = 0 then (g1, o1, k1) else (g2, o2, k2)) (fun i => if i = 0 then t1 else t2) w hc (by omega) hb (fun i hi => ?_) (fun i hi => ?_) (by rw [hcat, List.length_append]; exact hlen)
    · rw [hcat] at h
      exact h
    · rcases (by omega : i = 0 ∨ i = 1) with rfl | rfl
      · exact c0
      · exact c1
    · rcases (by omega : i = 0 ∨ i = 1) with rfl | rfl
      · exact ⟨a1, a2⟩
      · exact ⟨a3, a4⟩
end Go.Proofs.Ytloplephdogbhaa
end

section
/-
  ONE QUEUE, of whatever capacity, and lists beside it.
-/
namespace Go.Proofs.Ytloplephdogbhaa
open Go.RowKit Go.Shelf

structure Oc (cap : Nat) (w W : World) (q U : Nat) (L : List Ev) (R : List (Value × List Ev)) (K : List (Nat × Obj)) : Prop where
  ex : ∃ G, QA W q G cap U L ∧ (∀ k, G k → w.heap.size ≤ k) ∧ (∀ x ∈ R, LO W x.1 x.2 ∧ ∀ k, x.1.ownBlock = some k → ¬ G k) ∧ ∀ y ∈ K, W.heap[y.1]? = some y.2 ∧ ¬ G y.1
  bel : Below w.heap.size w W
section
variable {cap : Nat} {w W W' : World} {q U : Nat} {L : List Ev} {R : List (Value × List Ev)} {K : List (Nat × Obj)}
theorem Oc.below (h : Oc cap w W q U L R K) (hb : Below W.heap.size W W') : Oc cap w W' q U L R K := by
  obtain ⟨G, h1, h2, h3, h4⟩ := h.ex
  exact ⟨⟨G, h1.below hb, h2, fun x hx => ⟨(h3 x hx).1.below hb, (h3 x hx).2⟩, fun y hy => ⟨(hb.block _ (Array.getElem?_eq_some_iff.1 (h4 y hy).1).1).trans (h4 y hy).1, (h4 y hy).2⟩⟩, h.bel.trans (hb.mono h.bel.size)⟩
theorem Oc.row (h : Oc cap w W q U L R K) {v : Value} {l : List Ev} (hx : (v, l) ∈ R) : LO W v l := by
  obtain ⟨G, h1, h2, h3, h4⟩ := h.ex
  exact (h3 _ hx).1
theorem Oc.kept (h : Oc cap w W q U L R K) {b : Nat} {o : Obj} (hx : (b, o) ∈ K) : W.heap[b]? = some o := by
  obtain ⟨G, h1, h2, h3, h4⟩ := h.ex
  exact (h4 _ hx).1
theorem Oc.facts (h : Oc cap w W q U L R K) : AscV L ∧ DistV L ∧ L.length ≤ cap ∧ ∀ x ∈ L, RightV x := by
  obtain ⟨G, h1, -⟩ := h.ex
  obtain ⟨a, b, c, -, d⟩ := h1.facts
  exact ⟨a, b, c, d⟩
/-- A new list, beside the others. -/
theorem Oc.addO (h : Oc cap w W q U L R K) (hb : Below W.heap.size W W') {v : Value} {l : List Ev} (ho : LO W' v l) (hf : ∀ k, v.ownBlock = some k → W.heap.size ≤ k) : Oc cap w W' q U L ((v, l) :: R) K := by
  have h' := h.below hb
  obtain ⟨G, h1, h2, h3, h4⟩ := h.ex
  refine ⟨⟨G, h1.below hb, h2, fun x hx => ?_, fun y hy => ⟨(hb.block _ (Array.getElem?_eq_some_iff.1 (h4 y hy).1).1).trans (h4 y hy).1, (h4 y hy).2⟩⟩, h'.bel⟩
  rcases List.mem_cons.1 hx with e | e
  · subst e
    exact ⟨ho, fun k hk hg => by have := hf k hk; have := h1.lt k hg; omega⟩
  · exact ⟨(h3 x e).1.below hb, (h3 x e).2⟩
theorem Oc.add (h : Oc cap w W q U L R K) (hb : Below W.heap.size W W') {v : Value} {l : List Ev} (ho : W'.ownsRow W.heap.size 34 5 v l.length (cellsV l)) : Oc cap w W' q U L ((v, l) :: R) K := by
  obtain ⟨hv, hf⟩ := LV.of_owns ho
  exact h.addO hb hv.lo hf
/-- A new block, beside all. -/
theorem Oc.box (h : Oc cap w W q U L R K) (o : Obj) : Oc cap w (W.alloc o) q U L R ((W.heap.size, o) :: K) := by
  have hb : Below W.heap.size W (W.alloc o) := (Below.refl _ W).alloc (Nat.le_refl _) o
  have h' := h.below hb
  obtain ⟨G, h1, h2, h3, h4⟩ := h.ex
  refine ⟨⟨G, h1.below hb, h2, fun x hx => ⟨(h3 x hx).1.below hb, (h3 x hx).2⟩, fun y hy => ?_⟩, h'.bel⟩
  rcases List.mem_cons.1 hy with e | e
  · subst e
    exact ⟨World.alloc_heap_new W o, fun hg => by have := h1.lt _ hg; simp at this⟩
  · exact ⟨(hb.block _ (Array.getElem?_eq_some_iff.1 (h4 y e).1).1).trans (h4 y e).1, (h4 y e).2⟩
/-- A part of a list that is there. -/
theorem Oc.part (h : Oc cap w W q U L R K) {v v' : Value} {l l' : List Ev} (hx : (v, l) ∈ R) (hp : LO W v' l') (he : ∀ k, v'.ownBlock = some k → v.ownBlock = some k) : Oc cap w W q U L ((v', l') :: R) K := by
  obtain ⟨G, h1, h2, h3, h4⟩ := h.ex
  refine ⟨⟨G, h1, h2, fun x hx2 => ?_, h4⟩, h.bel⟩
  rcases List.mem_cons.1 hx2 with e | e
  · subst e
    exact ⟨hp, fun k hk => (h3 _ hx).2 k (he k hk)⟩
  · exact h3 x e
theorem Oc.sub (h : Oc cap w W q U L R K) {R' : List (Value × List Ev)} (hs : ∀ x ∈ R', x ∈ R) : Oc cap w W q U L R' K := by
  obtain ⟨G, h1, h2, h3, h4⟩ := h.ex
  exact ⟨⟨G, h1, h2, fun x hx => h3 x (hs x hx), h4⟩, h.bel⟩
theorem Oc.step (h : Oc cap w W q U L R K) {G : Nat → Prop} (hq : ∀ k, G k → w.heap.size ≤ k) (h3 : ∀ x ∈ R, LO W x.1 x.2 ∧ ∀ k, x.1.ownBlock = some k → ¬ G k) (h4 : ∀ y ∈ K, W.heap[y.1]? = some y.2 ∧ ¬ G y.1) {U' : Nat} {L' : List Ev} (hs : QStep W W' q G cap U' L') : Oc cap w W' q U' L' R K := by
  obtain ⟨G', g1, g2, g3⟩ := hs.ex
  have hsz := h.bel.size
  refine ⟨⟨G', g1, fun k hk => ?_, fun x hx => ?_, fun y hy => ?_⟩, h.bel.trans (g2.below (fun k hk => hq k hk) hsz)⟩
  · rcases g3 k hk with e | e
    · exact hq k e
    · omega
  · obtain ⟨a1, a2⟩ := h3 x hx
    refine ⟨a1.keep g2.size fun k hk => g2.block k (a1.lt k hk) (a2 k hk), fun k hk hg => ?_⟩
    rcases g3 k hg with e | e
    · exact a2 k hk e
    · have := a1.lt k hk; omega
  · obtain ⟨a1, a2⟩ := h4 y hy
    have hlt := (Array.getElem?_eq_some_iff.1 a1).1
    refine ⟨(g2.block _ hlt a2).trans a1, fun hg => ?_⟩
    rcases g3 _ hg with e | e
    · exact a2 e
    · omega
theorem Oc.call (h : Oc cap w W q U L R K) {f : FuncId} {args : Array Value} {U' : Nat} {P : Ending → List Ev → Prop} (hc : ∀ G, QA W q G cap U L → Calls Try.prog f args W fun e w' => ∃ L', P e L' ∧ QStep W w' q G cap U' L') : Calls Try.prog f args W fun e w' => ∃ L', P e L' ∧ Oc cap w w' q U' L' R K := by
  obtain ⟨G, h1, h2, h3, h4⟩ := h.ex
  refine (hc G h1).mono ?_
  rintro e w' ⟨L', p1, p2⟩
  exact ⟨L', p1, h.step h2 h3 h4 p2⟩
theorem ocRoom (h : Oc cap w W q U L R K) :
    Calls Try.prog 10 #[.pointer (some ⟨q, 0, none⟩)] W fun e w' => e = .returned (.int .i64 ((cap - L.length : Nat) : Int)) ∧ Oc cap w w' q U L R K := by
  obtain ⟨G, h1, -⟩ := h.ex
  refine (roomQ_calls h1).mono ?_
  rintro e w' ⟨h2, h4⟩
  exact ⟨h2, h.below h4⟩
theorem ocLen (h : Oc cap w W q U L R K) :
    Calls Try.prog 12 #[.pointer (some ⟨q, 0, none⟩)] W fun e w' => e = .returned (.int .i64 (L.length : Int)) ∧ Oc cap w w' q U L R K := by
  obtain ⟨G, h1, -⟩ := h.ex
  refine (lenQ_calls h1).mono ?_
  rintro e w' ⟨h2, rfl⟩
  exact ⟨h2, h⟩
theorem ocPut (h : Oc cap w W q U L R K) (hU : U + 1000 < 4294967296) (x : Ev) :
    Calls Try.prog 11 #[.pointer (some ⟨q, 0, none⟩), .agg #[.int .i64 x.1.1, .int .i64 x.1.2.1, .int .i64 x.1.2.2, .int .i64 x.2.1, .int .i64 x.2.2]] W fun e w' => ∃ L' r, e = .returned (.int .i64 r) ∧ Put1 cap L x r L' ∧ Oc cap w w' q (U + 1) L' R K := by
  refine (h.call (P := fun e L' => ∃ r, e = .returned (.int .i64 r) ∧ Put1 cap L x r L') fun G hG => (putQ_calls hG hU x).mono (by
    rintro e w' ⟨r, L', h1, h2, h3⟩
    exact ⟨L', ⟨r, h1, h2⟩, h3⟩)).mono ?_
  rintro e w' ⟨L', ⟨r, h1, h2⟩, h3⟩
  exact ⟨L', r, h1, h2, h3⟩
theorem ocPutAll (h : Oc cap w W q U L R K) (hU : U + 1000 < 4294967296) {v : Value} {l : List Ev} (hx : (v, l) ∈ R) (hlen : l.length ≤ 1000) :
    Calls Try.prog 22 #[.pointer (some ⟨q, 0, none⟩), v] W fun e w' => ∃ L' r c, e = .returned (.tuple #[.int .i64 r, .int .i64 c]) ∧ PutIs cap L l r c L' ∧ Oc cap w w' q (U + l.length) L' R K := by
  obtain ⟨G, h1, h2, h3, h4⟩ := h.ex
  refine (putAllO_calls h1 hU v l (h3 _ hx).1 (h3 _ hx).2 hlen).mono ?_
  rintro e w' ⟨r, c, L', k1, k2, k3⟩
  exact ⟨L', r, c, k1, k2, h.step h2 h3 h4 k3⟩
theorem ocTake (h : Oc cap w W q U L R K) {x : Ev} {l : List Ev} (hL : L = x :: l) :
    Calls Try.prog 14 #[.pointer (some ⟨q, 0, none⟩)] W fun e w' => e = .returned (.tuple #[vV x, .int .i64 0]) ∧ Oc cap w w' q U l R K := by
  subst hL
  refine (h.call (P := fun e L' => e = .returned (.tuple #[vV x, .int .i64 0]) ∧ L' = l) fun G hG => (takeQ_yes hG).mono (by
    rintro e w' ⟨h1, h2⟩
    exact ⟨l, ⟨h1, rfl⟩, h2⟩)).mono ?_
  rintro e w' ⟨L', ⟨h1, rfl⟩, h2⟩
  exact ⟨h1, h2⟩
theorem ocTakeNo (h : Oc cap w W q U L R K) (hL : L = []) :
    Calls Try.prog 14 #[.pointer (some ⟨q, 0, none⟩)] W fun e w' => e = .returned (.tuple #[.agg #[.int .i64 0, .int .i64 0, .int .i64 0, .int .i64 0, .int .i64 0], .int .i64 6]) ∧ Oc cap w w' q U [] R K := by
  subst hL
  refine (h.call (P := fun e L' => e = .returned (.tuple #[.agg #[.int .i64 0, .int .i64 0, .int .i64 0, .int .i64 0, .int .i64 0], .int .i64 6]) ∧ L' = []) fun G hG => (takeQ_no hG).mono (by
    rintro e w' ⟨h1, h2⟩
    exact ⟨[], ⟨h1, rfl⟩, h2⟩)).mono ?_
  rintro e w' ⟨L', ⟨h1, rfl⟩, h2⟩
  exact ⟨h1, h2⟩
theorem ocLeast (h : Oc cap w W q U L R K) {x : Ev} {l : List Ev} (hL : L = x :: l) :
    Calls Try.prog 20 #[.pointer (some ⟨q, 0, none⟩)] W fun e w' => e = .returned (.tuple #[vV x, .bool true]) ∧ Oc cap w w' q U L R K := by
  subst hL
  obtain ⟨G, h1, -⟩ := h.ex
  refine (leastQ_yes h1).mono ?_
  rintro e w' ⟨h2, h4⟩
  exact ⟨h2, h.below h4⟩
theorem ocFind (h : Oc cap w W q U L R K) {x : Ev} (hx : x ∈ L) (hs : wfI x.1.2.1) (hq : wfI x.1.2.2) :
    Calls Try.prog 60 #[.pointer (some ⟨q, 0, none⟩), .int .i64 x.1.2.1, .int .i64 x.1.2.2] W fun e w' => e = .returned (.tuple #[vV x, .bool true]) ∧ Oc cap w w' q U L R K := by
  obtain ⟨G, h1, -⟩ := h.ex
  refine (findQ_yes h1 hx hs hq).mono ?_
  rintro e w' ⟨h2, h4⟩
  exact ⟨h2, h.below h4⟩
theorem ocCancel (h : Oc cap w W q U L R K) {x : Ev} (hx : x ∈ L) :
    Calls Try.prog 23 #[.pointer (some ⟨q, 0, none⟩), .int .i64 x.1.2.1, .int .i64 x.1.2.2] W fun e w' => e = .returned (.tuple #[vV x, .int .i64 0]) ∧ Oc cap w w' q U (L.filter fun y => decide (nmV y ≠ nmV x)) R K := by
  refine (h.call (P := fun e L' => e = .returned (.tuple #[vV x, .int .i64 0]) ∧ L' = L.filter fun y => decide (nmV y ≠ nmV x)) fun G hG => (cancelQ_yes hG hx).mono (by
    rintro e w' ⟨h1, h2⟩
    exact ⟨_, ⟨h1, rfl⟩, h2⟩)).mono ?_
  rintro e w' ⟨L', ⟨h1, rfl⟩, h2⟩
  exact ⟨h1, h2⟩
theorem ocCancelNo (h : Oc cap w W q U L R K) {s n : Int} (hx : ∀ x ∈ L, nmV x ≠ (s, n)) (hs : wfI s) (hn : wfI n) :
    Calls Try.prog 23 #[.pointer (some ⟨q, 0, none⟩), .int .i64 s, .int .i64 n] W fun e w' => e = .returned (.tuple #[.agg #[.int .i64 0, .int .i64 0, .int .i64 0, .int .i64 0, .int .i64 0], .int .i64 6]) ∧ Oc cap w w' q U L R K := by
  refine (h.call (P := fun e L' => e = .returned (.tuple #[.agg #[.int .i64 0, .int .i64 0, .int .i64 0, .int .i64 0, .int .i64 0], .int .i64 6]) ∧ L' = L) fun G hG => (cancelQ_no hG hx hs hn).mono (by
    rintro e w' ⟨h1, h2⟩
    exact ⟨_, ⟨h1, rfl⟩, h2⟩)).mono ?_
  rintro e w' ⟨L', ⟨h1, rfl⟩, h2⟩
  exact ⟨h1, h2⟩
theorem ocEqual (h : Oc cap w W q U L R K) {v v' : Value} {l : List Ev} (h1 : (v, l) ∈ R) (h2 : (v', l) ∈ R) (hn : l.length ≤ 100000) :
    Calls Try.prog 24 #[v, v'] W fun e w' => e = .returned (.bool true) ∧ Oc cap w w' q U L R K := by
  refine (equalOs_calls v v' l W (h.row h1) (h.row h2) hn).mono ?_
  rintro e w' ⟨h3, h4⟩
  exact ⟨h3, h.below h4⟩
theorem Oc.subK (h : Oc cap w W q U L R K) {K' : List (Nat × Obj)} (hs : ∀ y ∈ K', y ∈ K) : Oc cap w W q U L R K' := by
  obtain ⟨G, h1, h2, h3, h4⟩ := h.ex
  exact ⟨⟨G, h1, h2, h3, fun y hy => h4 y (hs y hy)⟩, h.bel⟩
/-- What the lists' blocks hold is kept, too, if one asks for it. -/
theorem Oc.hold (h : Oc cap w W q U L R K) : ∃ K', (∀ y ∈ K, y ∈ K') ∧ (∀ x ∈ R, ∀ b, x.1.ownBlock = some b → ∃ o, (b, o) ∈ K' ∧ W.heap[b]? = some o) ∧ Oc cap w W q U L R K' := by
  obtain ⟨G, h1, h2, h3, h4⟩ := h.ex
  refine ⟨K ++ R.filterMap (fun x => x.1.ownBlock.bind fun b => (W.heap[b]?).map fun o => (b, o)), fun y hy => List.mem_append_left _ hy, fun x hx b hb => ?_, ⟨G, h1, h2, h3, fun y hy => ?_⟩, h.bel⟩
  · have hlt := (h3 x hx).1.lt b hb
    refine ⟨W.heap[b], List.mem_append_right _ (List.mem_filterMap.2 ⟨x, hx, ?_⟩), Array.getElem?_eq_getElem hlt⟩
    rw [hb, Option.bind_some, Array.getElem?_eq_getElem hlt, Option.map_some]
  · rcases List.mem_append.1 hy with e | e
    · exact h4 y e
    · obtain ⟨x, hx, hxe⟩ := List.mem_filterMap.1 e
      obtain ⟨b, hb, hbe⟩ := Option.bind_eq_some_iff.1 hxe
      obtain ⟨o, ho, rfl⟩ := Option.map_eq_some_iff.1 hbe
      exact ⟨ho, (h3 x hx).2 b hb⟩
/-- Where blocks of the lists are written into, or new ones made. -/
theorem Oc.touch (h : Oc cap w W q U L R K) {F : Nat → Prop} (ho : Off F W W') (hF : ∀ k, F k → w.heap.size ≤ k ∧ ∃ x ∈ R, x.1.ownBlock = some k) {R' : List (Value × List Ev)} (hR : ∀ x ∈ R', LO W' x.1 x.2 ∧ ∀ k, x.1.ownBlock = some k → (∃ y ∈ R, y.1.ownBlock = some k) ∨ W.heap.size ≤ k) (hK : ∀ y ∈ K, ¬ F y.1) : Oc cap w W' q U L R' K := by
  obtain ⟨G, h1, h2, h3, h4⟩ := h.ex
  have hGF : ∀ k, G k → ¬ F k := fun k hk hf => by
    obtain ⟨-, x, hx, hxb⟩ := hF k hf
    exact (h3 x hx).2 k hxb hk
  refine ⟨⟨G, h1.off ho hGF, h2, fun x hx => ⟨(hR x hx).1, fun k hk hg => ?_⟩, fun y hy => ⟨(ho.block _ (Array.getElem?_eq_some_iff.1 (h4 y hy).1).1 (hK y hy)).trans (h4 y hy).1, (h4 y hy).2⟩⟩, h.bel.trans (ho.below (fun k hk => (hF k hk).1) h.bel.size)⟩
  rcases (hR x hx).2 k hk with ⟨y, hy, hyb⟩ | e
  · exact (h3 y hy).2 k hyb hg
  · have := h1.lt k hg; omega
end
end Go.Proofs.Ytloplephdogbhaa
end

section
/-
  LISTS OF ONE'S OWN that begin anywhere in their block: append to one; the law's inOrder of one.
-/
namespace Go.Proofs.Ytloplephdogbhaa
open Go.RowKit Go.Shelf

/-- A list that may be written into, wherever it begins. -/
def OO (w : World) (v : Value) (l : List Ev) : Prop := (v = .slice none 0 0 ∧ l = []) ∨ ∃ g o cap cb, v = .slice (some ⟨g, o, none⟩) l.length cap ∧ (∃ cur, w.heap[g]? = some (.cells cur 34 (0, 0)) ∧ cur.size = cb * 5) ∧ o + cap * 5 ≤ cb * 5 ∧ l.length ≤ cap ∧ cap ≤ maxLen ∧ ∀ i, i < l.length → VAt w g (o + i * 5) (vn l i)
theorem OO.lo {w : World} {v : Value} {l : List Ev} (h : OO w v l) : LO w v l := by
  rcases h with h | ⟨g, o, cap, cb, rfl, ⟨cur, hc, hs⟩, h1, h2, h3, h4⟩
  · exact .inl h
  · exact .inr ⟨g, o, cap, rfl, (Array.getElem?_eq_some_iff.1 hc).1, h2, h4, h3⟩
theorem OO.keep {w w' : World} {v : Value} {l : List Ev} (h : OO w v l) (e : ∀ k, v.ownBlock = some k → w'.heap[k]? = w.heap[k]?) : OO w' v l := by
  rcases h with h | ⟨g, o, cap, cb, rfl, hc, h1, h2, h3, h4⟩
  · exact .inl h
  · exact .inr ⟨g, o, cap, cb, rfl, by rw [e g rfl]; exact hc, h1, h2, h3, fun i hi => (h4 i hi).keep (e g rfl)⟩
theorem OO.of_lv {w : World} {v : Value} {l : List Ev} (h : LV w v l) : OO w v l := by
  rcases h with h | ⟨g, cap, rfl, hr, hm⟩
  · exact .inl h
  · exact .inr ⟨g, 0, cap, cap, rfl, hr.blk, by omega, hr.le, hm, fun i hi => by rw [Nat.zero_add]; exact hr.cell i hi⟩
/-- What is left behind the first one. -/
theorem OO.tail {w : World} {a : Option Addr} {n c : Nat} {x : Ev} {l : List Ev} (h : OO w (.slice a n c) (x :: l)) : OO w (.slice (if c = 1 then a else Option.map (fun y => y.add 5) a) (n - 1) (c - 1)) l ∧ ∀ k, (Value.slice (if c = 1 then a else Option.map (fun y => y.add 5) a) (n - 1) (c - 1)).ownBlock = some k → (Value.slice a n c).ownBlock = some k := by
  refine ⟨?_, fun k hk => own_dropIf hk⟩
  rcases h with ⟨_, e⟩ | ⟨g, o, cap, cb, e, hc, h1, h2, h3, h4⟩
  · cases e
  · simp at e
    obtain ⟨rfl, rfl, rfl⟩ := e
    simp only [List.length_cons] at h2 h4
    rw [Nat.add_sub_cancel]
    by_cases c1 : c = 1
    · rw [if_pos c1]
      have hl : l = [] := List.eq_nil_of_length_eq_zero (by omega)
      subst hl
      exact .inr ⟨g, o, c - 1, cb, rfl, hc, by omega, by simp, by omega, fun i hi => absurd hi (Nat.not_lt_zero i)⟩
    · rw [if_neg c1, Option.map_some, Addr.add_lit]
      refine .inr ⟨g, o + 5, c - 1, cb, rfl, hc, by omega, by omega, by omega, fun i hi => ?_⟩
      have := h4 (i + 1) (by omega)
      rw [vn_cons, show o + (i + 1) * 5 = o + 5 + i * 5 by omega] at this
      exact this
theorem grown_of_off {w w' : World} {g : Nat} (h : Off (fun k => k = g) w w') : w.grownBy w' (some g) := ⟨h.os, h.tape, h.output, h.size, fun k hk hne => h.block k hk (fun e => hne (by rw [e]))⟩
theorem wpList_appO {ops : Array Oper} {rest : List Oper} {p : Oper} {a : Act} {w : World} {Q : Exit → Act → World → Prop} (hgd : p.guard = none) (s x : Operand)
    (hop : p.op = .call { callee := .builtin .append, args := #[s, x], argTypes := #[28, 28] })
    (v : Value) (l : List Ev) (hs : a.eval s = v) (hv : OO w v l) (gx c : Nat) (y : Ev) (hx : a.eval x = .slice (some ⟨gx, 0, none⟩) 1 c) (hV : ∀ j u, (encV y)[j]? = some u → w.cell? ((⟨gx, 0, none⟩ : Addr).add j) = some u) (hn : l.length ≤ 1000)
    (h : ∀ v' w', OO w' v' (l ++ [y]) → w.grownBy w' v.ownBlock → (∀ k, v'.ownBlock = some k → v.ownBlock = some k ∨ w.heap.size ≤ k) → wpList Try.prog ops Q rest (a.put p.dst v') w') : wpList Try.prog ops Q (p :: rest) a w := by
  obtain ⟨i0, hi, hz0, hz1, hz2⟩ := info_parts info_ev
  have hy1 : ∀ u ∈ encV y, u.oneCell' = true := by intro u hu; simp [encV] at hu; rcases hu with rfl | rfl | rfl | rfl | rfl <;> rfl
  have hfresh : ∀ v' w', w'.ownsRow w.heap.size 34 5 v' (l.length + 1) (cellsV l ++ encV y) → OO w' v' (l ++ [y]) ∧ ∀ k, v'.ownBlock = some k → w.heap.size ≤ k := fun v' w' hr => by
    have hr' : w'.ownsRow w.heap.size 34 5 v' (l ++ [y]).length (cellsV (l ++ [y])) := by
      rw [List.length_append, cellsV_append, show cellsV [y] = encV y from List.append_nil _]; exact hr
    exact ⟨.of_lv (LV.of_owns hr').1, (LV.of_owns hr').2⟩
  rcases hv with ⟨rfl, rfl⟩ | ⟨g, o, cap, cb, rfl, hc, h1, h2, h3, h4⟩
  · refine wpList_append_grows w hgd s x 28 hop 34 i0 _ 5 40 Try.underlying28 hi hz0 hz1 hz2 rfl (by decide) none 0 0 [] hs (fun _ => ⟨rfl, rfl⟩) rfl (fun b hb => by cases hb) ⟨gx, 0, none⟩ 1 c (encV y) hx rfl hV hy1 (by omega) (by unfold maxLen; omega) (by omega) fun v' w' r1 r2 => ?_
    obtain ⟨f1, f2⟩ := hfresh v' w' r1
    exact h v' w' f1 r2 (fun k hk => .inr (f2 k hk))
  · have hlo : LO w (.slice (some ⟨g, o, none⟩) l.length cap) l := .inr ⟨g, o, cap, rfl, by obtain ⟨cur, hcc, _⟩ := hc; exact (Array.getElem?_eq_some_iff.1 hcc).1, h2, h4, h3⟩
    have hsome : ∀ j, j < cb * 5 → (w.cell? ⟨g, j, none⟩).isSome = true ∧ w.frozen? ⟨g, j, none⟩ = false := fun j hj => by
      obtain ⟨cur, hcc, hcs⟩ := hc
      constructor
      · simp only [World.cell?, hcc]; simp [hcs, hj]
      · simp [World.frozen?, hcc]
    refine wpList_append_arg w hgd s x 28 hop 34 i0 _ 5 40 Try.underlying28 hi hz0 hz1 hz2 rfl (by decide) g o l.length cap (cellsV l) hs (cellsV_len l) (hlo.cells).2.2 ⟨gx, 0, none⟩ 1 c (encV y) hx rfl hV hy1 (fun hr j hj => ?_) (by unfold maxLen; omega) (by omega) (fun hr => ?_) (fun _ v' w' r1 r2 => ?_)
    · have hj5 : j < 5 := hj
      exact hsome _ (by omega)
    · have hoff : Off (fun k => k = g) w (w.setCells g (o + l.length * 5) (encV y)) := Off.setCells (F := fun k => k = g) rfl _ _ _ _ (Off.refl _ _)
      refine h _ _ (.inr ⟨g, o, cap, cb, by rw [List.length_append]; rfl, blkV_sets _ _ _ hc, h1, by rw [List.length_append]; exact hr, h3, fun i hi2 => ?_⟩) (grown_of_off hoff) (fun k hk => .inl hk)
      rw [List.length_append, List.length_singleton] at hi2
      rcases Nat.lt_or_ge i l.length with c2 | c2
      · have e : vn (l ++ [y]) i = vn l i := by unfold vn; rw [List.getD_eq_getElem?_getD, List.getD_eq_getElem?_getD, List.getElem?_append_left c2]
        rw [e]
        obtain ⟨b0, b1, b2, b3, b4⟩ := h4 i c2
        refine ⟨?_, ?_, ?_, ?_, ?_⟩
        · rw [World.cell?_setCells_out g _ _ _ _ (fun _ _ => .inl (by simp only; omega))]; exact b0
        · rw [World.cell?_setCells_out g _ _ _ _ (fun _ _ => .inl (by simp only; omega))]; exact b1
        · rw [World.cell?_setCells_out g _ _ _ _ (fun _ _ => .inl (by simp only; omega))]; exact b2
        · rw [World.cell?_setCells_out g _ _ _ _ (fun _ _ => .inl (by simp only; omega))]; exact b3
        · rw [World.cell?_setCells_out g _ _ _ _ (fun _ _ => .inl (by simp only; omega))]; exact b4
      · obtain rfl : i = l.length := by omega
        have e : vn (l ++ [y]) l.length = y := by unfold vn; rw [List.getD_eq_getElem?_getD, List.getElem?_append_right (Nat.le_refl _), Nat.sub_self]; rfl
        rw [e]
        have hin := fun j (hj : j < 5) => World.cell?_setCells_in g (encV y) (o + l.length * 5) w (fun k hk => (hsome _ (by have hk5 : k < 5 := hk; omega)).1) j hj
        exact ⟨hin 0 (by omega), hin 1 (by omega), hin 2 (by omega), hin 3 (by omega), hin 4 (by omega)⟩
    · obtain ⟨f1, f2⟩ := hfresh v' w' r1
      refine h v' w' f1 ⟨r2.os, r2.tape, r2.output, r2.size, fun k hk _ => r2.block k hk (fun e => by cases e)⟩ (fun k hk => .inr (f2 k hk))
set_option maxRecDepth 100000 in
set_option maxHeartbeats 4000000 in
theorem inOrderO_calls {w : World} (lv : Value) (l : List Ev) (hv : LO w lv l) (hlen : l.length ≤ 200) :
    Calls Try.prog 13 #[lv] w fun e w' => ∃ v, e = .returned v ∧ w'.ownsRow w.heap.size 34 5 v l.length (cellsV (inOrd l)) ∧ Below w.heap.size w w' := by
  have mixed : Try.prog.follows .mixedOrders = true := by kernel_rfl
  obtain ⟨la, lc, rfl, hlc, hle⟩ := hv.shape
  have HV := Lib.hid hv
  clear hv
  go_enter Try.func13, Try.ntmps13
  go_wp2_with fail
  go_loopw [3, 9] (fun s3 s9 wr => ∃ k : Nat, k ≤ l.length ∧ s9 = .int .i64 (k : Int) ∧ wr.ownsRow w.heap.size 34 5 s3 k (cellsV (inOrd (l.take k))) ∧ Below w.heap.size w wr) (fun _ s9 _ => l.length - (intOf s9).toNat)
  case atStart => exact ⟨0, Nat.zero_le _, by simp, World.ownsRow_nil _ _ _ _, Below.refl _ _⟩
  case round =>
    obtain ⟨k, hk, rfl, ho, hbw⟩ := hrel
    by_cases hlt : k < l.length
    · have e1 : (k : Int) < (l.length : Int) := by omega
      have hrow : ∃ g o, la = some ⟨g, o, none⟩ ∧ VAt wr g (o + k * 5) (vn l k) := by
        obtain ⟨g, o, e, hl, hr⟩ := HV.out.at hlt
        exact ⟨g, o, e, hr.keep (hbw.block g hl)⟩
      obtain ⟨g, o, rfl, v0, v1, v2, v3, v4⟩ := hrow
      obtain ⟨x, hxe⟩ : ∃ x, vn l k = x := ⟨_, rfl⟩
      rw [hxe] at v0 v1 v2 v3 v4
      have HXe := Lib.hid (show inOrd (l.take (k + 1)) = insV x (inOrd (l.take k)) by rw [take_vn _ _ hlt, inOrd_snoc, hxe])
      obtain ⟨O, hO⟩ : ∃ O, inOrd (l.take k) = O := ⟨_, rfl⟩
      have hOl : O.length = k := by rw [← hO, inOrd_len, List.length_take]; omega
      rw [hO] at ho HXe
      obtain ⟨hlv, hof⟩ := LV.of_owns (t := O) (base := w.heap.size) (w := wr) (tv := u3) (by rw [hOl]; exact ho)
      obtain ⟨oa, oc, rfl, -, -⟩ := hlv.shape
      rw [hOl] at hlv hof ho ⊢
      have HOw := Lib.hid ho
      have HLv := Lib.hid hlv
      have HBW := Lib.hid hbw
      have HOl := Lib.hid hOl
      clear ho hlv hof hxe hO
      go_wp2_with fail
      have hVB := VB.new wr x
      have hBa : Below wr.heap.size wr (wr.alloc (.cells #[.int .i64 x.1.1, .int .i64 x.1.2.1, .int .i64 x.1.2.2, .int .i64 x.2.1, .int .i64 x.2.2] 34)) := (Below.refl _ wr).alloc (Nat.le_refl _) _
      have hlv2 := HLv.out.below hBa
      have ho2 := ownsRow_keep HOw.out (fun k hk => hBa.block k ((HOw.out.lt k hk).2))
      have hBW2 := HBW.out.trans (hBa.mono HBW.out.size)
      obtain ⟨wa, hwa⟩ : ∃ wa, wr.alloc (.cells #[.int .i64 x.1.1, .int .i64 x.1.2.1, .int .i64 x.1.2.2, .int .i64 x.2.1, .int .i64 x.2.2] 34) = wa := ⟨_, rfl⟩
      rw [hwa] at hVB hlv2 ho2 hBW2 ⊢
      obtain ⟨bx, hbx⟩ : ∃ bx, wr.heap.size = bx := ⟨_, rfl⟩
      rw [hbx] at hVB ⊢
      have HVB := Lib.hid hVB
      have HLv2 := Lib.hid hlv2
      have HOw2 := Lib.hid ho2
      have HBW2 := Lib.hid hBW2
      have HIn := Lib.hid (show ∀ W (n : Nat), Below wa.heap.size wa W → n ≤ k → (∀ j : Nat, j < n → LtV (vn O j) x) → (n < k → ¬ LtV (vn O n) x) → Calls Try.prog 30 #[.slice oa k oc, .int .i64 (n : Int), .slice (some ⟨W.heap.size, 0, none⟩) 1 1] (W.alloc (.cells #[.int .i64 x.1.1, .int .i64 x.1.2.1, .int .i64 x.1.2.2, .int .i64 x.2.1, .int .i64 x.2.2] 34)) fun e w' => ∃ v', e = .returned v' ∧ w'.ownsRow w.heap.size 34 5 v' (k + 1) (cellsV (inOrd (l.take (k + 1)))) ∧ Below w.heap.size w w' from fun W n hb hn h1 h2 => by
        have hbW := HBW2.out.trans (hb.mono HBW2.out.size)
        have hbE : Below W.heap.size W (W.alloc (.cells #[.int .i64 x.1.1, .int .i64 x.1.2.1, .int .i64 x.1.2.2, .int .i64 x.2.1, .int .i64 x.2.2] 34)) := (Below.refl _ W).alloc (Nat.le_refl _) _
        have hoW := ownsRow_keep HOw2.out (fun k hk => hb.block k ((HOw2.out.lt k hk).2))
        have hoE := ownsRow_keep hoW (fun k hk => hbE.block k ((hoW.lt k hk).2))
        have hins := insertV_calls w.heap.size k n W.heap.size (.slice oa k oc) x O (W.alloc (.cells #[.int .i64 x.1.1, .int .i64 x.1.2.1, .int .i64 x.1.2.2, .int .i64 x.2.1, .int .i64 x.2.2] 34)) (Nat.le_trans hbW.size hbE.size) hoE (VB.new W x) (fun e => by have := (hoW.lt _ e).2; omega) hn (by omega)
        refine hins.mono ?_
        rintro e w' ⟨v', q1, q2, q3⟩
        rw [insV_at O n (by rw [HOl.out]; exact hn) h1 (by rw [HOl.out]; exact h2), ← HXe.out] at q2
        exact ⟨v', q1, q2, (hbW.trans (hbE.mono hbW.size)).trans q3⟩)
      have HLe := Lib.hid (less_calls)
      unfold vV at HLe
      clear hwa hbx hVB hBa hlv2 ho2 hBW2 v0 v1 v2 v3 v4 hbw
      go_loopw [6] (fun jv wr => ∃ n : Nat, n ≤ k ∧ jv = .int .i64 (n : Int) ∧ Below wa.heap.size wa wr ∧ ∀ j : Nat, j < n → LtV (vn O j) x) (fun jv _ => k - (intOf jv).toNat)
      case atStart => exact ⟨0, Nat.zero_le _, by simp, Below.refl _ _, fun j hj => absurd hj (Nat.not_lt_zero j)⟩
      case round =>
        obtain ⟨n, hn, rfl, hb, hno⟩ := hrel
        have HNo := Lib.hid hno
        have HB := Lib.hid hb
        by_cases hlt2 : n < k
        · have e2 : (n : Int) < (k : Int) := by omega
          have hrow2 : ∃ g2, oa = some ⟨g2, 0, none⟩ ∧ VAt wr g2 (n * 5) (vn O n) := by
            rcases HLv2.out with ⟨_, e⟩ | ⟨g, c, e, hr, _⟩
            · have := HOl.out; rw [e] at this; simp at this; omega
            · simp at e
              exact ⟨g, e.1, (hr.cell n (by rw [HOl.out]; exact hlt2)).keep (hb.block g hr.lt)⟩
          obtain ⟨g2, rfl, y0, y1, y2, y3, y4⟩ := hrow2
          have hxb := HVB.out.below hb
          obtain ⟨x0, x1, x2, x3, x4, -⟩ := hxb.cells
          have lx := hxb.lt
          have lg : g2 < wr.heap.size := by
            rcases HLv2.out with ⟨e, _⟩ | ⟨g, c, e, hr, _⟩
            · cases e
            · simp at e
              have := hr.lt
              have := hb.size
              omega
          obtain ⟨y, hy⟩ : ∃ y, vn O n = y := ⟨_, rfl⟩
          rw [hy] at y0 y1 y2 y3 y4
          have HY := Lib.hid hy
          have Gy0 := fun m os => Go.cell_grown (n := m) (os := os) (w := wr) (a := ⟨g2, n * 5, none⟩) lg y0
          have Gy1 := fun m os => Go.cell_grown (n := m) (os := os) (w := wr) (a := ⟨g2, n * 5 + 1, none⟩) lg y1
          have Gy2 := fun m os => Go.cell_grown (n := m) (os := os) (w := wr) (a := ⟨g2, n * 5 + 2, none⟩) lg y2
          have Gy3 := fun m os => Go.cell_grown (n := m) (os := os) (w := wr) (a := ⟨g2, n * 5 + 3, none⟩) lg y3
          have Gy4 := fun m os => Go.cell_grown (n := m) (os := os) (w := wr) (a := ⟨g2, n * 5 + 4, none⟩) lg y4
          have Gx0 := fun m os => Go.cell_grown (n := m) (os := os) (w := wr) (a := ⟨bx, 0, none⟩) lx x0
          have Gx1 := fun m os => Go.cell_grown (n := m) (os := os) (w := wr) (a := ⟨bx, 1, none⟩) lx x1
          have Gx2 := fun m os => Go.cell_grown (n := m) (os := os) (w := wr) (a := ⟨bx, 2, none⟩) lx x2
          have Gx3 := fun m os => Go.cell_grown (n := m) (os := os) (w := wr) (a := ⟨bx, 3, none⟩) lx x3
          have Gx4 := fun m os => Go.cell_grown (n := m) (os := os) (w := wr) (a := ⟨bx, 4, none⟩) lx x4
          have o0 := fun m os => Drawn.calls_grow (less_calls y x (Go.Sort.grow (wr.drewN m) os))
          unfold vV at o0
          clear hno hb hy hxb y0 y1 y2 y3 y4 x0 x1 x2 x3 x4
          by_cases hl : LtV y x
          · rw [show decide (LtV y x) = true by simp [hl]] at o0
            have O0 := Lib.hid o0
            have HLt := Lib.hid hl
            clear hl o0
            go_wp2_with fail
            go_quiet_grown (first | (with_reducible exact Calls.grown_of (O0.out _ _)))
            go_wp2_with fail
            go_roundw
            case rel =>
              refine ⟨n + 1, hlt2, by go_num, HB.out.trans ((below_grow wr nq osq).mono HB.out.size), fun j hj => ?_⟩
              rcases Nat.lt_or_ge j n with c | c
              · exact HNo.out j c
              · obtain rfl : j = n := by omega
                rw [HY.out]; exact HLt.out
            case measure => simp [intOf]; omega
          · rw [show decide (LtV y x) = false by simp [hl]] at o0
            have O0 := Lib.hid o0
            have HLt := Lib.hid hl
            have HEnd := Lib.hid (fun m os => HIn.out (Go.Sort.grow (wr.drewN m) os) n (HB.out.trans ((below_grow wr m os).mono HB.out.size)) (by omega) HNo.out (fun _ => by rw [HY.out]; exact hl))
            have hbx5 := HB.out
            clear hl o0
            go_wp2_with fail
            go_quiet_grown (first | (with_reducible exact Calls.grown_of (O0.out _ _)))
            have hE5 := HEnd.out nq osq
            have hb5 := hbx5.trans ((below_grow wr nq osq).mono hbx5.size)
            obtain ⟨W5, hW5⟩ : ∃ W5, Go.Sort.grow (wr.drewN nq) osq = W5 := ⟨_, rfl⟩
            rw [hW5] at hE5 hb5 ⊢
            obtain ⟨r0, r1, r2, r3, r4, -⟩ := (HVB.out.below hb5).cells
            have HE5 := Lib.hid hE5
            clear hE5 hb5 hW5 Gx0 Gx1 Gx2 Gx3 Gx4 Gy0 Gy1 Gy2 Gy3 Gy4 HEnd hbx5
            go_wp2_with (first | (go_at_call 30; refine HE5.out.mono ?_; rintro e w6 ⟨v', rfl, q2, q3⟩; have Q2 := Lib.hid q2; have Q3 := Lib.hid q3; clear q2 q3) | fail)
            go_roundw
            case rel => exact ⟨k + 1, hlt, by go_num, Q2.out, Q3.out⟩
            case measure => simp [intOf]; omega
        · obtain rfl : n = k := by omega
          have HEnd := Lib.hid (fun m os => HIn.out (Go.Sort.grow (wr.drewN m) os) n (HB.out.trans ((below_grow wr m os).mono HB.out.size)) (Nat.le_refl _) HNo.out (fun h => absurd h (Nat.lt_irrefl _)))
          have hxb := HVB.out.below hb
          obtain ⟨x0, x1, x2, x3, x4, -⟩ := hxb.cells
          have lx := hxb.lt
          have Gx0 := fun m os => Go.cell_grown (n := m) (os := os) (w := wr) (a := ⟨bx, 0, none⟩) lx x0
          have Gx1 := fun m os => Go.cell_grown (n := m) (os := os) (w := wr) (a := ⟨bx, 1, none⟩) lx x1
          have Gx2 := fun m os => Go.cell_grown (n := m) (os := os) (w := wr) (a := ⟨bx, 2, none⟩) lx x2
          have Gx3 := fun m os => Go.cell_grown (n := m) (os := os) (w := wr) (a := ⟨bx, 3, none⟩) lx x3
          have Gx4 := fun m os => Go.cell_grown (n := m) (os := os) (w := wr) (a := ⟨bx, 4, none⟩) lx x4
          have hbx5 := HB.out
          clear hno hb hxb x0 x1 x2 x3 x4
          go_wp2_with fail
          go_quiet_grown (fail)
          have hE5 := HEnd.out nq osq
          have hb5 := hbx5.trans ((below_grow wr nq osq).mono hbx5.size)
          obtain ⟨W5, hW5⟩ : ∃ W5, Go.Sort.grow (wr.drewN nq) osq = W5 := ⟨_, rfl⟩
          rw [hW5] at hE5 hb5 ⊢
          obtain ⟨r0, r1, r2, r3, r4, -⟩ := (HVB.out.below hb5).cells
          have HE5 := Lib.hid hE5
          clear hE5 hb5 hW5 Gx0 Gx1 Gx2 Gx3 Gx4 HEnd hbx5
          go_wp2_with (first | (go_at_call 30; refine HE5.out.mono ?_; rintro e w6 ⟨v', rfl, q2, q3⟩; have Q2 := Lib.hid q2; have Q3 := Lib.hid q3; clear q2 q3) | fail)
          go_roundw
          case rel => exact ⟨n + 1, hlt, by go_num, Q2.out, Q3.out⟩
          case measure => simp [intOf]; omega
    · obtain rfl : k = l.length := by omega
      rw [List.take_length] at ho
      have e : ∃ a c, u3 = .slice a l.length c := by
        rcases ho.2 with ⟨rfl, e⟩ | ⟨g, cap', cur, rfl, _⟩
        · exact ⟨none, 0, by rw [← e]⟩
        · exact ⟨_, _, rfl⟩
      obtain ⟨a, c, rfl⟩ := e
      go_wp2_with fail
      go_ret
      exact ⟨_, rfl, ho, hbw⟩
end Go.Proofs.Ytloplephdogbhaa
end

section
/-
  EvqRoom RETURNS TRUE: there are never more events than the capacity, and the room that is given back is there again, however often.
-/
namespace Go.Proofs.Ytloplephdogbhaa
open Go.RowKit Go.Shelf

theorem evs_facts (l : List Sv) (m : Nat) : (evsS ((l.take m).map madeV)).length ≤ m ∧ DistV (evsS ((l.take m).map madeV)) ∧ ∀ x ∈ evsS ((l.take m).map madeV), RightV x := by
  refine ⟨?_, evsS_dist _, fun x hx => ?_⟩
  · have := evsS_len ((l.take m).map madeV)
    rw [List.length_map, List.length_take] at this
    omega
  · obtain ⟨y, _, rfl⟩ := List.mem_map.1 (evsS_sub _ x hx)
    exact madeV_right y
set_option maxHeartbeats 2000000 in
theorem roomQ_quiet {w : World} {q : Nat} {G : Nat → Prop} {cap U : Nat} {L : List Ev} (h : QA w q G cap U L) :
    Calls Try.prog 10 #[.pointer (some ⟨q, 0, none⟩)] w fun e w' => e = .returned (.int .i64 ((cap - L.length : Nat) : Int)) ∧ ∃ m, w' = w.drewN m := by
  have hle := h.facts.2.2.1
  have hcap := h.facts.2.2.2.1
  obtain ⟨p, ev, M, S, f, hb, rfl, -⟩ := h.ex
  have HI := Lib.hid (isQ_calls hb.own)
  have hlen : ∀ n ty, (Builtin.len_ #[58] ty #[.map (some p.mb)]).run Try.prog (w.drewN n) = .ok (.int .i64 ((lsQ cap ev M).length : Int)) (w.drewN n) := fun n ty => (hb.nam.keep (w' := w.drewN n) rfl).len ty
  obtain ⟨c0, -, -, c3, -, -⟩ := ownQ_cells hb.own
  generalize (lsQ cap ev M).length = m at *
  clear h hb
  have hsub : IntKind.i64.wrap ((cap : Int) - (m : Int)) = ((cap - m : Nat) : Int) := by rw [IntWalk.i64_in _ (by omega)]; omega
  go_enter Try.func10, Try.ntmps10
  go_wp2_with (first | (go_at_call 28; refine HI.out.mono ?_; rintro e w2 ⟨rfl, rfl⟩) | fail)
  go_quiet (fail)
  go_wp2
  go_ret
  exact ⟨rfl, _, rfl⟩
/-- A new queue. -/
theorem Oc.new {w0 w W : World} {q N : Nat} (h : QNew w W q N 0 []) (hw : Below w0.heap.size w0 w) : Oc N w0 W q 0 [] [] [] := by
  obtain ⟨G, h1, h2, h3⟩ := h.ex
  have hs := hw.size
  exact ⟨⟨G, h1, fun k hk => by have := h3 k hk; omega, fun x hx => absurd hx List.not_mem_nil, fun y hy => absurd hy List.not_mem_nil⟩, hw.trans (h2.mono hs)⟩
/-- Where the queue stands, what it ought to hold, and the events that are put again and again. -/
structure Rm (w W : World) (q N i : Nat) (L : List Ev) (sv : Value) (some : List Ev) (v : Value) (wl : List Ev) : Prop where
  oc : Oc N w W q i L [(v, wl), (sv, some)] []
  oo : OO W v wl
  lo : ∀ k, v.ownBlock = Option.some k → w.heap.size ≤ k
  ne : ∀ k, v.ownBlock = Option.some k → sv.ownBlock ≠ Option.some k
  pm : wl.Perm L
  sq : ∀ y ∈ wl, y.1.2.2 < (i : Int)
theorem OO.alloc {w : World} {v : Value} {l : List Ev} (h : OO w v l) (o : Obj) : OO (w.alloc o) v l := h.keep fun k hk => Below.block ((Below.refl _ w).alloc (Nat.le_refl _) o) k (h.lo.lt k hk)
theorem Oc.callO {cap : Nat} {w W : World} {q U : Nat} {L : List Ev} {R : List (Value × List Ev)} {K : List (Nat × Obj)} (h : Oc cap w W q U L R K) {v : Value} {l : List Ev} (hx : (v, l) ∈ R) (ho : OO W v l) {f : FuncId} {args : Array Value} {U' : Nat} {P : Ending → List Ev → Prop} (hc : ∀ K', Oc cap w W q U L R K' → Calls Try.prog f args W fun e w' => ∃ L', P e L' ∧ Oc cap w w' q U' L' R K') : Calls Try.prog f args W fun e w' => ∃ L', P e L' ∧ Oc cap w w' q U' L' R K ∧ OO w' v l := by
  obtain ⟨K', k1, k2, k3⟩ := h.hold
  refine (hc K' k3).mono ?_
  rintro e w' ⟨L', p1, p2⟩
  refine ⟨L', p1, p2.subK k1, ho.keep fun b hb => ?_⟩
  obtain ⟨o, h1, h2⟩ := k2 _ hx b hb
  rw [p2.kept h1, h2]
theorem ocLenE {cap : Nat} {w W : World} {q U : Nat} {L : List Ev} {R : List (Value × List Ev)} {K : List (Nat × Obj)} (h : Oc cap w W q U L R K) :
    Calls Try.prog 12 #[.pointer (some ⟨q, 0, none⟩)] W fun e w' => e = .returned (.int .i64 (L.length : Int)) ∧ W = w' := by
  obtain ⟨G, h1, -⟩ := h.ex
  exact lenQ_calls h1
theorem Oc.app {N : Nat} {w W W' : World} {q U : Nat} {L : List Ev} {K : List (Nat × Obj)} {v sv v' : Value} {wl S : List Ev} {Y : Ev} (h : Oc N w W q U L [(v, wl), (sv, S)] K) (hlo : ∀ k, v.ownBlock = some k → w.heap.size ≤ k) (hne : ∀ k, v.ownBlock = some k → sv.ownBlock ≠ some k) (ho : OO W' v' (wl ++ [Y])) (hg : W.grownBy W' v.ownBlock) (hf : ∀ k, v'.ownBlock = some k → v.ownBlock = some k ∨ W.heap.size ≤ k) : Oc N w W' q U L [(v', wl ++ [Y]), (sv, S)] [] ∧ (∀ k, v'.ownBlock = some k → w.heap.size ≤ k) ∧ ∀ k, v'.ownBlock = some k → sv.ownBlock ≠ some k := by
  have hoff : Off (fun k => v.ownBlock = some k) W W' := Off.of_grown hg (fun k hk => hk)
  have hsv : LO W sv S := h.row (List.mem_cons_of_mem _ (List.mem_cons_self ..))
  refine ⟨(h.subK (K' := []) (fun y hy => absurd hy List.not_mem_nil)).touch hoff (fun k hk => ⟨hlo k hk, _, List.mem_cons_self .., hk⟩) (fun y hy => ?_) (fun y hy => absurd hy List.not_mem_nil), fun k hk => ?_, fun k hk e => ?_⟩
  · rcases List.mem_cons.1 hy with e | e
    · subst e
      refine ⟨ho.lo, fun k hk => ?_⟩
      rcases hf k hk with e | e
      · exact .inl ⟨_, List.mem_cons_self .., e⟩
      · exact .inr e
    · rw [List.mem_singleton.1 e]
      exact ⟨hsv.keep hoff.size fun k hk => hoff.block k (hsv.lt k hk) (fun e => hne k e hk), fun k hk => .inl ⟨_, List.mem_cons_of_mem _ (List.mem_cons_self ..), hk⟩⟩
  · rcases hf k hk with e | e
    · exact hlo k e
    · exact Nat.le_trans h.bel.size e
  · rcases hf k hk with e2 | e2
    · exact hne k e2 e
    · have := hsv.lt k e; omega
theorem room_put {N : Nat} {L wl : List Ev} {X : Ev} {r : Int} {L' : List Ev} (hp : Put1 N L X r L') (hr : RightV X) (hpm : wl.Perm L) (hs : ∀ y ∈ wl, y.1.2.2 < X.1.2.2) : (wl.length < N ∧ r = 0 ∧ L' = insV X L) ∨ (N ≤ wl.length ∧ r = 4 ∧ L' = L) := by
  rcases hp with ⟨_, _, h⟩ | ⟨_, _, _, y, hy, e⟩ | ⟨h1, h2, _, _, h⟩ | ⟨h1, h2, _, _, h⟩
  · exact absurd hr h
  · have := hs y (hpm.mem_iff.2 hy)
    have e2 : y.1.2.2 = X.1.2.2 := congrArg Prod.snd e
    omega
  · exact .inr ⟨by rw [hpm.length_eq]; exact h, h1, h2⟩
  · exact .inl ⟨by rw [hpm.length_eq]; exact h, h1, h2⟩
theorem inOrd_perm_eq {L wl : List Ev} (hp : wl.Perm L) (ha : AscV L) (hd : DistV L) : inOrd wl = L := by
  have hdw : DistV wl := (hp.pairwise_iff (fun {_ _} e c => e c.symm)).2 hd
  exact ascV_unique _ _ (inOrd_asc hdw) ha fun x => (inOrd_mem wl x).trans hp.mem_iff
set_option maxRecDepth 100000 in
set_option maxHeartbeats 4000000 in
theorem wEvqRoom {w : World} (c : Nat) (hc : c < 256) (lv : Value) (l : List Sv) (hv : SvRow w lv l) :
    Calls Try.prog 3 #[.int .u8 (c : Int), lv] w fun e w' => e = .returned (.bool true) ∧ Below w.heap.size w w' := by
  have HV := Lib.hid hv
  have HA := Lib.hid (awake10_calls w)
  obtain ⟨N, hN⟩ : ∃ N : Nat, N = 1 + c % 20 := ⟨_, rfl⟩
  have hN1 : 1 ≤ N := by omega
  have hN20 : N ≤ 20 := by omega
  have hNi : 1 + (c : Int) % 20 = (N : Int) := by omega
  have hNw : IntKind.i64.wrap (1 + (c : Int) % 20) = (N : Int) := by rw [IntKind.wrap_i64]; omega
  clear hv hN
  go_enter Try.func3, Try.ntmps3
  go_wp2_with (first
    | (go_at_call 7; refine HA.out.mono ?_; rintro e w1 ⟨rfl, b1⟩; have B1 := Lib.hid b1; clear b1)
    | fail)
  refine (newQ_ok N (by omega) w1).mono ?_
  rintro e w2 ⟨q, rfl, hq⟩
  have O2 := Lib.hid (Oc.new hq B1.out)
  clear hq
  go_wp2_with fail
  refine (events_calls lv l (HV.out.below O2.out.bel) 40 (by omega)).mono ?_
  rintro e w3 ⟨sv, rfl, ho, hb⟩
  obtain ⟨hlen, -, hright⟩ := evs_facts l 40
  generalize evsS ((l.take 40).map madeV) = S at ho hlen hright
  obtain ⟨sa, sc, rfl, -, -⟩ := (LV.of_owns ho).1.shape
  have O3 := Lib.hid (O2.out.add hb ho)
  have HR := Lib.hid hright
  clear ho hb O2 B1 HV HA hright
  by_cases h0 : S.length = 0
  · go_wp2_with fail
    refine (ocRoom O3.out).mono ?_
    rintro e w4 ⟨rfl, o4⟩
    have B4 := Lib.hid o4.bel
    clear o4 O3
    go_wp2_with fail
    go_ret
    exact ⟨by simp, B4.out⟩
  · have h0i : ¬ ((S.length : Int) = 0) := by omega
    go_wp2_with fail
    have HR0 := Lib.hid (show Rm w w3 q N 0 [] (.slice sa S.length sc) S (.slice none 0 0) [] from ⟨O3.out.part (List.mem_singleton.2 rfl) (.inl ⟨rfl, rfl⟩) (fun k hk => by cases hk), .inl ⟨rfl, rfl⟩, fun k hk => (by cases hk), fun k hk => (by cases hk), List.Perm.refl _, fun y hy => absurd hy List.not_mem_nil⟩)
    clear O3
    have hb0 : ((S.length : Int) == 0) = false := by rw [beq_eq_false_iff_ne]; omega
    rw [hb0]
    go_loopw [9, 41] (fun s9 jv wr => ∃ i : Nat, i ≤ 300 ∧ jv = .int .i64 (i : Int) ∧ ∃ L wl, Rm w wr q N i L (.slice sa S.length sc) S s9 wl) (fun _ jv _ => 300 - (intOf jv).toNat)
    case atStart => exact ⟨0, by omega, by simp, [], [], HR0.out⟩
    case round =>
      obtain ⟨i, hi, rfl, L, wl, hR⟩ := hrel
      by_cases hlt : i < 300
      · have e1 : (i : Int) < 300 := by omega
        obtain ⟨a, ha⟩ : ∃ a : Nat, a = i % S.length := ⟨_, rfl⟩
        have hal : a < S.length := by rw [ha]; exact Nat.mod_lt _ (by omega)
        have ham : (i : Int) % (S.length : Int) = (a : Int) := by rw [ha]; simp
        have ham2 : (i : Int).tmod (S.length : Int) = (a : Int) := by rw [Int.tmod_eq_emod_of_nonneg (by omega)]; exact ham
        obtain ⟨g, o, rfl, hg, u0, u1, u2, u3, u4⟩ := (hR.oc.row (List.mem_cons_of_mem _ (List.mem_cons_self ..))).at hal
        have hrt := HR.out _ (vn_mem hal)
        generalize vn S a = X at *
        obtain ⟨va, vc, rfl, -, -⟩ := hR.oo.lo.shape
        have HRm := Lib.hid hR
        clear hR ha HR0
        go_wp2_with fail
        have hrY : RightV ((X.1.1, X.1.2.1, (i : Int)), X.2.1, X.2.2) := by
          obtain ⟨⟨h1, h2, h3⟩, h4⟩ := hrt
          exact ⟨⟨h1, h2, by simp only; omega⟩, h4⟩
        have hP := Oc.callO (HRm.out.oc.box (.cells #[.int .i64 X.1.1, .int .i64 X.1.2.1, .int .i64 (i : Int), .int .i64 X.2.1, .int .i64 X.2.2] 34)) (v := .slice va wl.length vc) (l := wl) (List.mem_cons_self ..) (HRm.out.oo.keep fun k hk => Below.block ((Below.refl _ wr).alloc (Nat.le_refl _) (.cells #[.int .i64 X.1.1, .int .i64 X.1.2.1, .int .i64 (i : Int), .int .i64 X.2.1, .int .i64 X.2.2] 34)) k (HRm.out.oo.lo.lt k hk)) (P := fun e L' => ∃ r, e = .returned (.int .i64 r) ∧ Put1 N L ((X.1.1, X.1.2.1, (i : Int)), X.2.1, X.2.2) r L') (fun K' h' => (ocPut h' (by omega) ((X.1.1, X.1.2.1, (i : Int)), X.2.1, X.2.2)).mono (by
          rintro e w' ⟨L', r, h1, h2, h3⟩
          exact ⟨L', ⟨r, h1, h2⟩, h3⟩))
        refine hP.mono ?_
        rintro e w4 ⟨L', ⟨r, rfl, hp⟩, o4, oo4⟩
        have hcase := room_put hp hrY HRm.out.pm HRm.out.sq
        have O4 := Lib.hid o4
        have OO4 := Lib.hid oo4
        have hLN : L'.length ≤ N := o4.facts.2.2.1
        clear hP hp o4 oo4 hrt u0 u1 u2 u3 u4
        rcases hcase with ⟨hl, rfl, rfl⟩ | ⟨hl, rfl, rfl⟩
        · have e2 : (wl.length : Int) < (N : Int) := by omega
          have hgt : ¬ ((N : Int) < ((insV ((X.1.1, X.1.2.1, (i : Int)), X.2.1, X.2.2) L).length : Int)) := by omega
          obtain ⟨LI, hLI⟩ : ∃ LI, insV ((X.1.1, X.1.2.1, (i : Int)), X.2.1, X.2.2) L = LI := ⟨_, rfl⟩
          have hpm2 : (wl ++ [((X.1.1, X.1.2.1, (i : Int)), X.2.1, X.2.2)]).Perm LI := by
            rw [← hLI]
            exact List.perm_append_comm.trans ((HRm.out.pm.cons _).trans (insV_perm _ _).symm)
          rw [hLI] at O4 hLN hgt
          have HPm := Lib.hid hpm2
          have hwl : wl.length ≤ 1000 := by omega
          clear hLI hpm2
          go_wp2_with fail
          refine (ocLenE O4.out).mono ?_
          rintro e w5 ⟨rfl, hw⟩
          have hw := hw.symm
          subst hw
          obtain ⟨p0, p1, p2, p3, p4, -⟩ := VB.cells (x := ((X.1.1, X.1.2.1, (i : Int)), X.2.1, X.2.2)) (O4.out.kept (b := wr.heap.size) (List.mem_cons_self ..))
          simp only at p0 p1 p2 p3 p4
          go_wp2_with (at_builtin; go_must (refine wpList_appO rfl (.tmp 80) (.tmp 82) (by rfl) (.slice va wl.length vc) wl (by first | rfl | simp [Act.eval]) (OO4.out.alloc _) w5.heap.size 1 ((X.1.1, X.1.2.1, (i : Int)), X.2.1, X.2.2) (by first | rfl | simp [Act.eval]) (vcells_new _ _ _ _ _ _ _) hwl ?_; intro v6 w6 ho6 hg6 hf6; have H6 := Lib.hid (And.intro ho6 (And.intro hg6 hf6)); clear ho6 hg6 hf6))
          obtain ⟨a1, a2, a3⟩ := H6.out
          obtain ⟨b1, b2, b3⟩ := (O4.out.box (.cells #[.int .i64 X.1.1, .int .i64 X.1.2.1, .int .i64 (i : Int), .int .i64 X.2.1, .int .i64 X.2.2] 34)).app HRm.out.lo HRm.out.ne a1 a2 a3
          have HRn := Lib.hid (show Rm w w6 q N (i + 1) LI (.slice (some ⟨g, o, none⟩) S.length sc) S v6 (wl ++ [((X.1.1, X.1.2.1, (i : Int)), X.2.1, X.2.2)]) from ⟨b1, a1, b2, b3, HPm.out, fun y hy => by
            rcases List.mem_append.1 hy with e | e
            · have := HRm.out.sq y e; omega
            · rw [List.mem_singleton.1 e]; simp only; omega⟩)
          clear a1 a2 a3 b1 b2 b3 H6 O4 OO4 HPm HRm
          go_roundw
          case rel => first | exact ⟨i + 1, hlt, by go_num, LI, _, HRn.out⟩ | ((repeat apply Exists.intro); exact ⟨⟨i + 1, hlt, by go_num, LI, _, HRn.out⟩, rfl⟩)
          case measure => simp [intOf]; omega
        · have e2 : ¬ ((wl.length : Int) < (N : Int)) := by omega
          have hLw : L'.length = wl.length := HRm.out.pm.length_eq.symm
          have hLe : L'.length = N := by omega
          have hgt : ¬ ((N : Int) < (L'.length : Int)) := by omega
          obtain ⟨y, L2, rfl⟩ : ∃ y L2, L' = y :: L2 := by
            cases L' with
            | nil => simp at hLe; omega
            | cons y L2 => exact ⟨y, L2, rfl⟩
          have hin : inOrd wl = y :: L2 := inOrd_perm_eq HRm.out.pm O4.out.facts.1 O4.out.facts.2.1
          have hwl : wl.length ≤ 200 := by omega
          have HIn := Lib.hid (inOrderO_calls (.slice va wl.length vc) wl OO4.out.lo hwl)
          rw [hin] at HIn
          have HLw := Lib.hid hLw
          have HLe := Lib.hid hLe
          clear hin hLw hLe
          obtain ⟨ll, hge⟩ : ∃ ll, (y :: L2).length = ll := ⟨_, rfl⟩
          have hLen := ocLenE O4.out
          rw [hge] at hLen hgt hLN
          have HGe := Lib.hid hge
          clear hge
          go_wp2_with fail
          refine hLen.mono ?_
          rintro e w5 ⟨rfl, hw⟩
          have hw := hw.symm
          subst hw
          clear hLen
          go_wp2_with fail
          refine HIn.out.mono ?_
          rintro e w7 ⟨v7, rfl, ho7, hb7⟩
          rw [← HLw.out] at ho7
          obtain ⟨hv7, hf7⟩ := LV.of_owns ho7
          have o7 := O4.out.add hb7 ho7
          obtain ⟨a7, c7, rfl, hcm7, hc7⟩ := hv7.shape
          rw [HGe.out] at hv7 o7 hf7 hc7
          have hT := Oc.callO o7 (v := .slice a7 ll c7) (l := y :: L2) (List.mem_cons_self ..) (.of_lv hv7) (P := fun e L'' => e = .returned (.tuple #[vV y, .int .i64 0]) ∧ L'' = L2) (fun K' h' => (ocTake h' rfl).mono (by
            rintro e w' ⟨h1, h2⟩
            exact ⟨L2, ⟨h1, rfl⟩, h2⟩))
          unfold vV at hT
          have HF7 := Lib.hid (show ∀ k, (Value.slice a7 ll c7).ownBlock = some k → w.heap.size ≤ k ∧ (Value.slice (some ⟨g, o, none⟩) S.length sc).ownBlock ≠ some k from fun k hk => by
            have h1 := hf7 k hk
            refine ⟨Nat.le_trans O4.out.bel.size h1, fun e => ?_⟩
            have := (O4.out.row (List.mem_cons_of_mem _ (List.mem_cons_self ..))).lt k e
            omega)
          rw [HGe.out]
          clear ho7 hb7 hf7 hv7 o7 OO4 O4 HIn hcm7
          go_wp2_with fail
          refine hT.mono ?_
          rintro e w8 ⟨L'', ⟨rfl, hL⟩, o8, oo8⟩
          rw [hL] at o8
          have O9 := Lib.hid (o8.box (.cells #[.int .i64 y.1.1, .int .i64 y.1.2.1, .int .i64 y.1.2.2, .int .i64 y.2.1, .int .i64 y.2.2] 34))
          have OO9 := Lib.hid (oo8.alloc (.cells #[.int .i64 y.1.1, .int .i64 y.1.2.1, .int .i64 y.1.2.2, .int .i64 y.2.1, .int .i64 y.2.2] 34))
          clear hL o8 oo8 hT
          have hl1 : 1 ≤ ll := by have := HGe.out; simp at this; omega
          have hc1 : 1 ≤ c7 := by omega
          obtain ⟨l2, rfl⟩ : ∃ l2, ll = l2 + 1 := ⟨ll - 1, by omega⟩
          obtain ⟨g7, o7, rfl, -, y0, y1, y2, y3, y4⟩ := OO9.out.lo.at (k := 0) (by simp)
          rw [vn_zero, Nat.zero_mul, Nat.add_zero] at y0 y1 y2 y3 y4
          have hn := neqV y
          have hrm : N - L2.length = 1 := by have := HGe.out; have := HLe.out; simp at *; omega
          obtain ⟨x0, x1, x2, x3, x4, -⟩ := VB.cells (x := y) (O9.out.kept (b := w8.heap.size) (List.mem_cons_self ..))
          go_wp2_with fail
          generalize hW9 : w8.alloc (.cells #[.int .i64 y.1.1, .int .i64 y.1.2.1, .int .i64 y.1.2.2, .int .i64 y.2.1, .int .i64 y.2.2] 34) = W9 at *
          generalize hb8 : w8.heap.size = b8 at *
          have x0d : W9.drew.cell? ⟨b8, 0, none⟩ = some (.int .i64 y.1.1) := x0
          have x1d : W9.drew.cell? ⟨b8, 1, none⟩ = some (.int .i64 y.1.2.1) := x1
          have x2d : W9.drew.cell? ⟨b8, 2, none⟩ = some (.int .i64 y.1.2.2) := x2
          have x3d : W9.drew.cell? ⟨b8, 3, none⟩ = some (.int .i64 y.2.1) := x3
          have x4d : W9.drew.cell? ⟨b8, 4, none⟩ = some (.int .i64 y.2.2) := x4
          have y0d : W9.drew.cell? ⟨g7, o7, none⟩ = some (.int .i64 y.1.1) := y0
          have y1d : W9.drew.cell? ⟨g7, o7 + 1, none⟩ = some (.int .i64 y.1.2.1) := y1
          have y2d : W9.drew.cell? ⟨g7, o7 + 2, none⟩ = some (.int .i64 y.1.2.2) := y2
          have y3d : W9.drew.cell? ⟨g7, o7 + 3, none⟩ = some (.int .i64 y.2.1) := y3
          have y4d : W9.drew.cell? ⟨g7, o7 + 4, none⟩ = some (.int .i64 y.2.2) := y4
          have HRo := Lib.hid (show ∀ n, Calls Try.prog 10 #[.pointer (some ⟨q, 0, none⟩)] (W9.drewN n) fun e w' => e = .returned (.int .i64 1) ∧ ∃ m, w' = (W9.drewN n).drewN m from fun n => by
            obtain ⟨G, h1, -⟩ := O9.out.ex
            have h2 := roomQ_quiet (h1.below (below_drV (Below.refl _ _) n))
            rw [hrm] at h2
            exact h2)
          clear hrm x0d x1d x2d x3d x4d y0d y1d y2d y3d y4d hW9 hb8
          go_quiet ((go_at_call 10; exact Calls.quiet_of (HRo.out _)))
          go_wp2_with fail
          have hW := below_drV (Below.refl W9.heap.size W9) nq
          obtain ⟨t1, t2⟩ := (OO9.out.keep (w' := W9.drewN nq) fun _ _ => rfl).tail
          rw [show Option.map (fun y : Addr => y.add 5) (some (⟨g7, o7, none⟩ : Addr)) = some ⟨g7, o7 + 5, none⟩ by rw [Option.map_some, Addr.add_lit], Nat.add_sub_cancel] at t1 t2
          have o11 := (((O9.out.below hW).part (List.mem_cons_self ..) t1.lo t2).sub (R' := [(_, L2), (.slice (some ⟨g, o, none⟩) S.length sc, S)]) (fun z hz => by
            rcases List.mem_cons.1 hz with e | e
            · rw [e]; exact List.mem_cons_self ..
            · rw [List.mem_singleton.1 e]; simp)).subK (K' := []) (fun z hz => absurd hz List.not_mem_nil)
          exact ⟨⟨i + 1, hlt, by go_num, L2, L2, o11, t1, fun k hk => (HF7.out k (t2 k hk)).1, fun k hk => (HF7.out k (t2 k hk)).2, List.Perm.refl _, fun z hz => by
            have := HRm.out.sq z (HRm.out.pm.mem_iff.2 (List.mem_cons_of_mem _ hz)); omega⟩, by simp [intOf]; omega⟩
      · obtain rfl : i = 300 := by omega
        have hlen2 := hR.pm.length_eq
        obtain ⟨va, vc, rfl, -, -⟩ := hR.oo.lo.shape
        have HLn := Lib.hid (ocLenE hR.oc)
        rw [← hlen2] at HLn
        have HB := Lib.hid hR.oc.bel
        clear hR HR0 hlen2
        go_wp2_with fail
        refine HLn.out.mono ?_
        rintro e w5 ⟨rfl, hw⟩
        have hw := hw.symm
        subst hw
        go_wp2_with fail
        go_ret
        exact ⟨by first | rfl | simp, HB.out⟩
end Go.Proofs.Ytloplephdogbhaa
end
