import Derived.Test.YtcjkeobjojmpfaaGreatMEvqEq
import Derived.Test.YtcjkeobjojmpfaaGreatMEvqG
import Derived.Test.YtcjkeobjojmpfaaGreatMEvqU
import Derived.Test.YtcjkeobjojmpfaaGreatMEvqK
section
/-
  CONTRACTS of evq's Clear and Copy; what PutAll does where all is right.
-/
namespace Go.Proofs.YtcjkeobjojmpfaaGreat
open Go.RowKit Go.Shelf

theorem notTwice {L l : List Ev} (h : DistV (L ++ l)) : ∀ k : Nat, k < l.length → ¬ TwiceAt L l k := by
  obtain ⟨_, h2, h3⟩ := List.pairwise_append.1 h
  rintro k hk (⟨y, hy, e⟩ | hm)
  · exact h3 y hy _ (vn_mem hk) e
  · obtain ⟨y, hy, e⟩ := List.any_eq_true.1 hm
    obtain ⟨j, hj, rfl⟩ := List.mem_take_iff_getElem.1 hy
    have hd := List.pairwise_iff_getElem.1 h2 j k (by omega) hk (by omega)
    have e2 := vn_get hk
    rw [List.getElem?_eq_getElem hk] at e2
    rw [Option.some.inj e2] at hd
    exact hd (by simpa using e)
theorem putIs_ok {cap : Nat} {L l : List Ev} {r c : Int} {L' : List Ev} (h : PutIs cap L l r c L') (hr : ∀ x ∈ l, RightV x) (hd : DistV (L ++ l)) (hl : L.length + l.length ≤ cap) : c = 0 ∧ r = -1 ∧ L' = l.foldl (fun acc x => insV x acc) L := by
  rcases h with ⟨_, _, k, _, hk, h, _⟩ | ⟨_, _, _, k, _, hk, h2, _⟩ | ⟨_, _, _, _, _, h⟩ | ⟨h1, h2, _, h3, _⟩
  · exact absurd (hr _ (vn_mem hk)) h
  · exact absurd h2 (notTwice hd k hk)
  · omega
  · exact ⟨h1, h3, h2⟩
theorem inOrd_self {L : List Ev} (ha : AscV L) (hd : DistV L) : inOrd L = L := ascV_unique _ _ (inOrd_asc hd) ha fun x => inOrd_mem L x
theorem cutsV_all {L : List Ev} (ha : AscV L) (hd : DistV L) : cutsV L L = [] := by
  have h := cutsV_take ha hd L.length
  rw [List.take_length, List.drop_length] at h
  exact h
end Go.Proofs.YtcjkeobjojmpfaaGreat
end

section
/-
  ONE QUEUE and lists beside it: how calls at the queue leave them.
-/
namespace Go.Proofs.YtcjkeobjojmpfaaGreat
open Go.RowKit Go.Shelf

theorem LO.drop {w : World} {g o n cap : Nat} {t : List Ev} (h : LO w (.slice (some ⟨g, o, none⟩) n cap) t) (k : Nat) (hk : k ≤ n) : LO w (.slice (some ⟨g, o + k * 5, none⟩) (n - k) (cap - k)) (t.drop k) := by
  rcases h with ⟨h, _⟩ | ⟨g', o', c', e, hl, hle, hr, hm⟩
  · cases h
  · simp at e
    obtain ⟨⟨rfl, rfl⟩, rfl, rfl⟩ := e
    refine .inr ⟨g, o + k * 5, cap - k, by rw [List.length_drop], hl, by rw [List.length_drop]; omega, fun i hi => ?_, by omega⟩
    rw [List.length_drop] at hi
    rw [vn_drop, Nat.add_assoc, ← Nat.add_mul]
    exact hr (k + i) (by omega)
theorem LO.take {w : World} {g o n cap : Nat} {t : List Ev} (h : LO w (.slice (some ⟨g, o, none⟩) n cap) t) (k : Nat) (hk : k ≤ n) : LO w (.slice (some ⟨g, o, none⟩) k cap) (t.take k) := by
  rcases h with ⟨h, _⟩ | ⟨g', o', c', e, hl, hle, hr, hm⟩
  · cases h
  · simp at e
    obtain ⟨⟨rfl, rfl⟩, rfl, rfl⟩ := e
    have hlk : (t.take k).length = k := by rw [List.length_take]; omega
    refine .inr ⟨g, o, cap, by rw [hlk], hl, by omega, fun i hi => ?_, hm⟩
    rw [hlk] at hi
    rw [vn_takeI hi]
    exact hr i (by omega)
theorem LO.take' {w : World} {a : Option Addr} {n cap : Nat} {t : List Ev} (h : LO w (.slice a n cap) t) (k : Nat) (hk : k ≤ n) : LO w (.slice a k cap) (t.take k) := by
  rcases h with ⟨h, rfl⟩ | ⟨g, o, c, e, hl, hle, hr, hm⟩
  · simp at h
    obtain ⟨rfl, rfl, rfl⟩ := h
    obtain rfl : k = 0 := by omega
    exact .inl ⟨rfl, rfl⟩
  · simp at e
    obtain ⟨rfl, rfl, rfl⟩ := e
    exact LO.take (o := o) (.inr ⟨g, o, cap, rfl, hl, hle, hr, hm⟩) k hk
theorem LO.drop' {w : World} {a : Option Addr} {n cap : Nat} {t : List Ev} (h : LO w (.slice a n cap) t) (k : Nat) (hk : k ≤ n) : LO w (.slice (Option.map (fun x => x.add (k * 5)) a) (n - k) (cap - k)) (t.drop k) := by
  rcases h with ⟨h, rfl⟩ | ⟨g, o, c, e, hl, hle, hr, hm⟩
  · simp at h
    obtain ⟨rfl, rfl, rfl⟩ := h
    obtain rfl : k = 0 := by omega
    exact .inl ⟨rfl, rfl⟩
  · simp at e
    obtain ⟨rfl, rfl, rfl⟩ := e
    have := LO.drop (o := o) (.inr ⟨g, o, cap, rfl, hl, hle, hr, hm⟩) k hk
    rw [Option.map_some, Addr.add_lit]
    exact this
/-- Where nothing is left, any place of the block will do. -/
theorem LO.end' {w : World} {a : Option Addr} {n : Nat} {t : List Ev} (h : LO w (.slice a n n) t) : LO w (.slice a 0 0) (t.drop n) := by
  rcases h with ⟨h, rfl⟩ | ⟨g, o, c, e, hl, hle, hr, hm⟩
  · simp at h
    obtain ⟨rfl, rfl⟩ := h
    exact .inl ⟨rfl, rfl⟩
  · simp at e
    obtain ⟨rfl, rfl, rfl⟩ := e
    rw [List.drop_length]
    exact .inr ⟨g, o, 0, rfl, hl, Nat.le_refl _, fun i hi => absurd hi (Nat.not_lt_zero i), Nat.zero_le _⟩
theorem own_drop {a : Option Addr} {n cap k d m c : Nat} (h : (Value.slice (Option.map (fun x => x.add d) a) m c).ownBlock = some k) : (Value.slice a n cap).ownBlock = some k := by
  cases a with
  | none => cases h
  | some x =>
    simp only [Option.map_some, Addr.add] at h
    split at h
    · exact h
    · exact h
/-- What is left behind the first k of a list, as the model cuts it. -/
theorem LO.dropIf {w : World} {a : Option Addr} {n cap : Nat} {t : List Ev} (h : LO w (.slice a n cap) t) (k : Nat) (hk : k ≤ n) (hc : n ≤ cap) : LO w (.slice (if cap = k then a else Option.map (fun x => x.add (k * 5)) a) (n - k) (cap - k)) (t.drop k) := by
  by_cases e : cap = k
  · rw [if_pos e]
    obtain rfl : n = k := by omega
    subst e
    rw [Nat.sub_self]
    exact h.end'
  · rw [if_neg e]
    exact h.drop' k hk
theorem own_dropIf {a : Option Addr} {n cap k d m c : Nat} {p : Prop} [Decidable p] (h : (Value.slice (if p then a else Option.map (fun x => x.add d) a) m c).ownBlock = some k) : (Value.slice a n cap).ownBlock = some k := by
  by_cases e : p
  · rw [if_pos e] at h
    cases a with
    | none => cases h
    | some x => exact h
  · rw [if_neg e] at h
    exact own_drop h
structure Oq (w W : World) (q U : Nat) (L : List Ev) (R : List (Value × List Ev)) (K : List (Nat × Obj)) : Prop where
  ex : ∃ G, QA W q G 60 U L ∧ (∀ k, G k → w.heap.size ≤ k) ∧ (∀ x ∈ R, LO W x.1 x.2 ∧ ∀ k, x.1.ownBlock = some k → ¬ G k) ∧ ∀ y ∈ K, W.heap[y.1]? = some y.2 ∧ ¬ G y.1
  bel : Below w.heap.size w W
section
variable {w W W' : World} {q U : Nat} {L : List Ev} {R : List (Value × List Ev)} {K : List (Nat × Obj)}
theorem own_cap {a : Option Addr} {n cap k m c : Nat} (h : (Value.slice a m c).ownBlock = some k) : (Value.slice a n cap).ownBlock = some k := by
  cases a with
  | none => cases h
  | some x => exact h
theorem Oq.below (h : Oq w W q U L R K) (hb : Below W.heap.size W W') : Oq w W' q U L R K := by
  obtain ⟨G, h1, h2, h3, h4⟩ := h.ex
  exact ⟨⟨G, h1.below hb, h2, fun x hx => ⟨(h3 x hx).1.below hb, (h3 x hx).2⟩, fun y hy => ⟨(hb.block _ (Array.getElem?_eq_some_iff.1 (h4 y hy).1).1).trans (h4 y hy).1, (h4 y hy).2⟩⟩, h.bel.trans (hb.mono h.bel.size)⟩
theorem Oq.row (h : Oq w W q U L R K) {v : Value} {l : List Ev} (hx : (v, l) ∈ R) : LO W v l := by
  obtain ⟨G, h1, h2, h3, h4⟩ := h.ex
  exact (h3 _ hx).1
theorem Oq.kept (h : Oq w W q U L R K) {b : Nat} {o : Obj} (hx : (b, o) ∈ K) : W.heap[b]? = some o := by
  obtain ⟨G, h1, h2, h3, h4⟩ := h.ex
  exact (h4 _ hx).1
theorem Oq.facts (h : Oq w W q U L R K) : AscV L ∧ DistV L ∧ L.length ≤ 60 ∧ ∀ x ∈ L, RightV x := by
  obtain ⟨G, h1, -⟩ := h.ex
  obtain ⟨a, b, c, -, d⟩ := h1.facts
  exact ⟨a, b, c, d⟩
/-- A new list, beside the others. -/
theorem Oq.addO (h : Oq w W q U L R K) (hb : Below W.heap.size W W') {v : Value} {l : List Ev} (ho : LO W' v l) (hf : ∀ k, v.ownBlock = some k → W.heap.size ≤ k) : Oq w W' q U L ((v, l) :: R) K := by
  have h' := h.below hb
  obtain ⟨G, h1, h2, h3, h4⟩ := h.ex
  refine ⟨⟨G, h1.below hb, h2, fun x hx => ?_, fun y hy => ⟨(hb.block _ (Array.getElem?_eq_some_iff.1 (h4 y hy).1).1).trans (h4 y hy).1, (h4 y hy).2⟩⟩, h'.bel⟩
  rcases List.mem_cons.1 hx with e | e
  · subst e
    exact ⟨ho, fun k hk hg => by have := hf k hk; have := h1.lt k hg; omega⟩
  · exact ⟨(h3 x e).1.below hb, (h3 x e).2⟩
theorem Oq.add (h : Oq w W q U L R K) (hb : Below W.heap.size W W') {v : Value} {l : List Ev} (ho : W'.ownsRow W.heap.size 33 5 v l.length (cellsV l)) : Oq w W' q U L ((v, l) :: R) K := by
  obtain ⟨hv, hf⟩ := LV.of_owns ho
  exact h.addO hb hv.lo hf
/-- A new block, beside all. -/
theorem Oq.box (h : Oq w W q U L R K) (o : Obj) : Oq w (W.alloc o) q U L R ((W.heap.size, o) :: K) := by
  have hb : Below W.heap.size W (W.alloc o) := (Below.refl _ W).alloc (Nat.le_refl _) o
  have h' := h.below hb
  obtain ⟨G, h1, h2, h3, h4⟩ := h.ex
  refine ⟨⟨G, h1.below hb, h2, fun x hx => ⟨(h3 x hx).1.below hb, (h3 x hx).2⟩, fun y hy => ?_⟩, h'.bel⟩
  rcases List.mem_cons.1 hy with e | e
  · subst e
    exact ⟨World.alloc_heap_new W o, fun hg => by have := h1.lt _ hg; simp at this⟩
  · exact ⟨(hb.block _ (Array.getElem?_eq_some_iff.1 (h4 y e).1).1).trans (h4 y e).1, (h4 y e).2⟩
/-- A part of a list that is there. -/
theorem Oq.part (h : Oq w W q U L R K) {v v' : Value} {l l' : List Ev} (hx : (v, l) ∈ R) (hp : LO W v' l') (he : ∀ k, v'.ownBlock = some k → v.ownBlock = some k) : Oq w W q U L ((v', l') :: R) K := by
  obtain ⟨G, h1, h2, h3, h4⟩ := h.ex
  refine ⟨⟨G, h1, h2, fun x hx2 => ?_, h4⟩, h.bel⟩
  rcases List.mem_cons.1 hx2 with e | e
  · subst e
    exact ⟨hp, fun k hk => (h3 _ hx).2 k (he k hk)⟩
  · exact h3 x e
theorem Oq.sub (h : Oq w W q U L R K) {R' : List (Value × List Ev)} (hs : ∀ x ∈ R', x ∈ R) : Oq w W q U L R' K := by
  obtain ⟨G, h1, h2, h3, h4⟩ := h.ex
  exact ⟨⟨G, h1, h2, fun x hx => h3 x (hs x hx), h4⟩, h.bel⟩
theorem Oq.step (h : Oq w W q U L R K) {G : Nat → Prop} (hq : ∀ k, G k → w.heap.size ≤ k) (h3 : ∀ x ∈ R, LO W x.1 x.2 ∧ ∀ k, x.1.ownBlock = some k → ¬ G k) (h4 : ∀ y ∈ K, W.heap[y.1]? = some y.2 ∧ ¬ G y.1) {U' : Nat} {L' : List Ev} (hs : QStep W W' q G 60 U' L') : Oq w W' q U' L' R K := by
  obtain ⟨G', g1, g2, g3⟩ := hs.ex
  have hsz := h.bel.size
  refine ⟨⟨G', g1, fun k hk => ?_, fun x hx => ?_, fun y hy => ?_⟩, h.bel.trans (g2.below (fun k hk => hq k hk) hsz)⟩
  · rcases g3 k hk with e | e
    · exact hq k e
    · omega
  · obtain ⟨a1, a2⟩ := h3 x hx
    refine ⟨a1.keep g2.size fun k hk => g2.block k (a1.lt k hk) (a2 k hk), fun k hk hg => ?_⟩
    rcases g3 k hg with e | e
    · exact a2 k hk e
    · have := a1.lt k hk; omega
  · obtain ⟨a1, a2⟩ := h4 y hy
    have hlt := (Array.getElem?_eq_some_iff.1 a1).1
    refine ⟨(g2.block _ hlt a2).trans a1, fun hg => ?_⟩
    rcases g3 _ hg with e | e
    · exact a2 e
    · omega
theorem Oq.call (h : Oq w W q U L R K) {f : FuncId} {args : Array Value} {U' : Nat} {P : Ending → List Ev → Prop} (hc : ∀ G, QA W q G 60 U L → Calls Tryz.prog f args W fun e w' => ∃ L', P e L' ∧ QStep W w' q G 60 U' L') : Calls Tryz.prog f args W fun e w' => ∃ L', P e L' ∧ Oq w w' q U' L' R K := by
  obtain ⟨G, h1, h2, h3, h4⟩ := h.ex
  refine (hc G h1).mono ?_
  rintro e w' ⟨L', p1, p2⟩
  exact ⟨L', p1, h.step h2 h3 h4 p2⟩
theorem oqAll (h : Oq w W q U L R K) :
    Calls Tryz.prog 14 #[.pointer (some ⟨q, 0, none⟩)] W fun e w' => ∃ v, e = .returned v ∧ Oq w w' q U L ((v, L) :: R) K := by
  obtain ⟨G, h1, -⟩ := h.ex
  refine (allQ_calls h1).mono ?_
  rintro e w' ⟨v, h2, h3, h4⟩
  exact ⟨v, h2, h.add h4 h3⟩
theorem oqRoom (h : Oq w W q U L R K) :
    Calls Tryz.prog 23 #[.pointer (some ⟨q, 0, none⟩)] W fun e w' => e = .returned (.int .i64 ((60 - L.length : Nat) : Int)) ∧ Oq w w' q U L R K := by
  obtain ⟨G, h1, -⟩ := h.ex
  refine (roomQ_calls h1).mono ?_
  rintro e w' ⟨h2, h4⟩
  exact ⟨h2, h.below h4⟩
theorem oqLen (h : Oq w W q U L R K) :
    Calls Tryz.prog 17 #[.pointer (some ⟨q, 0, none⟩)] W fun e w' => e = .returned (.int .i64 (L.length : Int)) ∧ Oq w w' q U L R K := by
  obtain ⟨G, h1, -⟩ := h.ex
  refine (lenQ_calls h1).mono ?_
  rintro e w' ⟨h2, rfl⟩
  exact ⟨h2, h⟩
theorem oqPut (h : Oq w W q U L R K) (hU : U + 1000 < 4294967296) (x : Ev) :
    Calls Tryz.prog 27 #[.pointer (some ⟨q, 0, none⟩), .agg #[.int .i64 x.1.1, .int .i64 x.1.2.1, .int .i64 x.1.2.2, .int .i64 x.2.1, .int .i64 x.2.2]] W fun e w' => ∃ L' r, e = .returned (.int .i64 r) ∧ Put1 60 L x r L' ∧ Oq w w' q (U + 1) L' R K := by
  refine (h.call (P := fun e L' => ∃ r, e = .returned (.int .i64 r) ∧ Put1 60 L x r L') fun G hG => (putQ_calls hG hU x).mono (by
    rintro e w' ⟨r, L', h1, h2, h3⟩
    exact ⟨L', ⟨r, h1, h2⟩, h3⟩)).mono ?_
  rintro e w' ⟨L', ⟨r, h1, h2⟩, h3⟩
  exact ⟨L', r, h1, h2, h3⟩
theorem oqPutAll (h : Oq w W q U L R K) (hU : U + 1000 < 4294967296) {v : Value} {l : List Ev} (hx : (v, l) ∈ R) (hlen : l.length ≤ 1000) :
    Calls Tryz.prog 12 #[.pointer (some ⟨q, 0, none⟩), v] W fun e w' => ∃ L' r c, e = .returned (.tuple #[.int .i64 r, .int .i64 c]) ∧ PutIs 60 L l r c L' ∧ Oq w w' q (U + l.length) L' R K := by
  obtain ⟨G, h1, h2, h3, h4⟩ := h.ex
  refine (putAllO_calls h1 hU v l (h3 _ hx).1 (h3 _ hx).2 hlen).mono ?_
  rintro e w' ⟨r, c, L', k1, k2, k3⟩
  exact ⟨L', r, c, k1, k2, h.step h2 h3 h4 k3⟩
theorem oqTakeBefore (h : Oq w W q U L R K) (t : Int) :
    Calls Tryz.prog 22 #[.pointer (some ⟨q, 0, none⟩), .int .i64 t] W fun e w' => ∃ v n, e = .returned v ∧ CutAt L t n ∧ Oq w w' q U (L.drop n) ((v, L.take n) :: R) K := by
  obtain ⟨G, h1, h2, h3, h4⟩ := h.ex
  refine (takeBeforeQ_calls h1 t).mono ?_
  rintro e w' ⟨v, n, k1, k2, k3⟩
  obtain ⟨G', g1, g2, g3, g4, g5⟩ := k3.ex
  have hO := h.step h2 h3 h4 ⟨G', g1, g2, g3⟩
  refine ⟨v, n, k1, k2, ⟨⟨G', g1, fun k hk => ?_, fun x hx => ?_, fun y hy => ?_⟩, hO.bel⟩⟩
  · rcases g3 k hk with e | e
    · exact h2 k e
    · have := h.bel.size; omega
  · rcases List.mem_cons.1 hx with e | e
    · subst e
      exact ⟨g4.lo, fun k hk => (g5 k hk).2⟩
    · obtain ⟨a1, a2⟩ := h3 x e
      refine ⟨a1.keep g2.size fun k hk => g2.block k (a1.lt k hk) (a2 k hk), fun k hk hg => ?_⟩
      rcases g3 k hg with c | c
      · exact a2 k hk c
      · have := a1.lt k hk; omega
  · obtain ⟨a1, a2⟩ := h4 y hy
    have hlt := (Array.getElem?_eq_some_iff.1 a1).1
    refine ⟨(g2.block _ hlt a2).trans a1, fun hg => ?_⟩
    rcases g3 _ hg with e | e
    · exact a2 e
    · omega
theorem oqTake (h : Oq w W q U L R K) {x : Ev} {l : List Ev} (hL : L = x :: l) :
    Calls Tryz.prog 16 #[.pointer (some ⟨q, 0, none⟩)] W fun e w' => e = .returned (.tuple #[vV x, .int .i64 0]) ∧ Oq w w' q U l R K := by
  subst hL
  refine (h.call (P := fun e L' => e = .returned (.tuple #[vV x, .int .i64 0]) ∧ L' = l) fun G hG => (takeQ_yes hG).mono (by
    rintro e w' ⟨h1, h2⟩
    exact ⟨l, ⟨h1, rfl⟩, h2⟩)).mono ?_
  rintro e w' ⟨L', ⟨h1, rfl⟩, h2⟩
  exact ⟨h1, h2⟩
theorem oqTakeNo (h : Oq w W q U L R K) (hL : L = []) :
    Calls Tryz.prog 16 #[.pointer (some ⟨q, 0, none⟩)] W fun e w' => e = .returned (.tuple #[.agg #[.int .i64 0, .int .i64 0, .int .i64 0, .int .i64 0, .int .i64 0], .int .i64 6]) ∧ Oq w w' q U [] R K := by
  subst hL
  refine (h.call (P := fun e L' => e = .returned (.tuple #[.agg #[.int .i64 0, .int .i64 0, .int .i64 0, .int .i64 0, .int .i64 0], .int .i64 6]) ∧ L' = []) fun G hG => (takeQ_no hG).mono (by
    rintro e w' ⟨h1, h2⟩
    exact ⟨[], ⟨h1, rfl⟩, h2⟩)).mono ?_
  rintro e w' ⟨L', ⟨h1, rfl⟩, h2⟩
  exact ⟨h1, h2⟩
theorem oqLeast (h : Oq w W q U L R K) {x : Ev} {l : List Ev} (hL : L = x :: l) :
    Calls Tryz.prog 15 #[.pointer (some ⟨q, 0, none⟩)] W fun e w' => e = .returned (.tuple #[vV x, .bool true]) ∧ Oq w w' q U L R K := by
  subst hL
  obtain ⟨G, h1, -⟩ := h.ex
  refine (leastQ_yes h1).mono ?_
  rintro e w' ⟨h2, h4⟩
  exact ⟨h2, h.below h4⟩
theorem oqFind (h : Oq w W q U L R K) {x : Ev} (hx : x ∈ L) (hs : wfI x.1.2.1) (hq : wfI x.1.2.2) :
    Calls Tryz.prog 24 #[.pointer (some ⟨q, 0, none⟩), .int .i64 x.1.2.1, .int .i64 x.1.2.2] W fun e w' => e = .returned (.tuple #[vV x, .bool true]) ∧ Oq w w' q U L R K := by
  obtain ⟨G, h1, -⟩ := h.ex
  refine (findQ_yes h1 hx hs hq).mono ?_
  rintro e w' ⟨h2, h4⟩
  exact ⟨h2, h.below h4⟩
theorem oqCancel (h : Oq w W q U L R K) {x : Ev} (hx : x ∈ L) :
    Calls Tryz.prog 25 #[.pointer (some ⟨q, 0, none⟩), .int .i64 x.1.2.1, .int .i64 x.1.2.2] W fun e w' => e = .returned (.tuple #[vV x, .int .i64 0]) ∧ Oq w w' q U (L.filter fun y => decide (nmV y ≠ nmV x)) R K := by
  refine (h.call (P := fun e L' => e = .returned (.tuple #[vV x, .int .i64 0]) ∧ L' = L.filter fun y => decide (nmV y ≠ nmV x)) fun G hG => (cancelQ_yes hG hx).mono (by
    rintro e w' ⟨h1, h2⟩
    exact ⟨_, ⟨h1, rfl⟩, h2⟩)).mono ?_
  rintro e w' ⟨L', ⟨h1, rfl⟩, h2⟩
  exact ⟨h1, h2⟩
theorem oqCancelNo (h : Oq w W q U L R K) {s n : Int} (hx : ∀ x ∈ L, nmV x ≠ (s, n)) (hs : wfI s) (hn : wfI n) :
    Calls Tryz.prog 25 #[.pointer (some ⟨q, 0, none⟩), .int .i64 s, .int .i64 n] W fun e w' => e = .returned (.tuple #[.agg #[.int .i64 0, .int .i64 0, .int .i64 0, .int .i64 0, .int .i64 0], .int .i64 6]) ∧ Oq w w' q U L R K := by
  refine (h.call (P := fun e L' => e = .returned (.tuple #[.agg #[.int .i64 0, .int .i64 0, .int .i64 0, .int .i64 0, .int .i64 0], .int .i64 6]) ∧ L' = L) fun G hG => (cancelQ_no hG hx hs hn).mono (by
    rintro e w' ⟨h1, h2⟩
    exact ⟨_, ⟨h1, rfl⟩, h2⟩)).mono ?_
  rintro e w' ⟨L', ⟨h1, rfl⟩, h2⟩
  exact ⟨h1, h2⟩
theorem oqEqual (h : Oq w W q U L R K) {v v' : Value} {l : List Ev} (h1 : (v, l) ∈ R) (h2 : (v', l) ∈ R) (hn : l.length ≤ 100000) :
    Calls Tryz.prog 13 #[v, v'] W fun e w' => e = .returned (.bool true) ∧ Oq w w' q U L R K := by
  refine (equalOs_calls v v' l W (h.row h1) (h.row h2) hn).mono ?_
  rintro e w' ⟨h3, h4⟩
  exact ⟨h3, h.below h4⟩
/-- What filled leaves. -/
theorem Fild.one {w0 w W : World} {q U : Nat} {L : List Ev} {v : Value} {l : List Ev} (h : Fild w W q 60 U L v l) (hw : Below w0.heap.size w0 w) : Oq w0 W q U L [(v, l)] [] := by
  obtain ⟨G, h1, h2, h3, h4, h5⟩ := h.ex
  obtain ⟨hv, hf⟩ := LV.of_owns h3
  have hs := hw.size
  refine ⟨⟨G, h1, fun k hk => by have := h2 k hk; omega, fun x hx => ?_, fun y hy => absurd hy List.not_mem_nil⟩, hw.trans (h5.mono hs)⟩
  rw [List.mem_singleton.1 hx]
  exact ⟨hv.lo, h4⟩
end
end Go.Proofs.YtcjkeobjojmpfaaGreat
end
