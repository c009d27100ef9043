import Derived.Test.YtecbpohkbniadaaGreatEvqEq
import Derived.Test.YtecbpohkbniadaaGreatEvqG
import Derived.Test.YtecbpohkbniadaaGreatEvqU
import Derived.Test.YtecbpohkbniadaaGreatEvqAw
section
/-
  CONTRACTS of evq's Clear and Copy; what PutAll does where all is right.
-/
namespace Go.Proofs.YtecbpohkbniadaaGreat
open Go.RowKit Go.Shelf

theorem notTwice {L l : List Ev} (h : DistV (L ++ l)) : ∀ k : Nat, k < l.length → ¬ TwiceAt L l k := by
  obtain ⟨_, h2, h3⟩ := List.pairwise_append.1 h
  rintro k hk (⟨y, hy, e⟩ | hm)
  · exact h3 y hy _ (vn_mem hk) e
  · obtain ⟨y, hy, e⟩ := List.any_eq_true.1 hm
    obtain ⟨j, hj, rfl⟩ := List.mem_take_iff_getElem.1 hy
    have hd := List.pairwise_iff_getElem.1 h2 j k (by omega) hk (by omega)
    have e2 := vn_get hk
    rw [List.getElem?_eq_getElem hk] at e2
    rw [Option.some.inj e2] at hd
    exact hd (by simpa using e)
theorem putIs_ok {cap : Nat} {L l : List Ev} {r c : Int} {L' : List Ev} (h : PutIs cap L l r c L') (hr : ∀ x ∈ l, RightV x) (hd : DistV (L ++ l)) (hl : L.length + l.length ≤ cap) : c = 0 ∧ r = -1 ∧ L' = l.foldl (fun acc x => insV x acc) L := by
  rcases h with ⟨_, _, k, _, hk, h, _⟩ | ⟨_, _, _, k, _, hk, h2, _⟩ | ⟨_, _, _, _, _, h⟩ | ⟨h1, h2, _, h3, _⟩
  · exact absurd (hr _ (vn_mem hk)) h
  · exact absurd h2 (notTwice hd k hk)
  · omega
  · exact ⟨h1, h3, h2⟩
theorem inOrd_self {L : List Ev} (ha : AscV L) (hd : DistV L) : inOrd L = L := ascV_unique _ _ (inOrd_asc hd) ha fun x => inOrd_mem L x
theorem cutsV_all {L : List Ev} (ha : AscV L) (hd : DistV L) : cutsV L L = [] := by
  have h := cutsV_take ha hd L.length
  rw [List.take_length, List.drop_length] at h
  exact h
set_option maxRecDepth 100000 in
theorem clearQ_calls {w : World} {q : Nat} {G : Nat → Prop} {cap U : Nat} {L : List Ev} (h : QA w q G cap U L) :
    Calls Tryz.prog 42 #[.pointer (some ⟨q, 0, none⟩)] w fun e w' => e = .returned (.tuple #[.int .i64 (L.length : Int), .int .i64 0]) ∧ QStep w w' q G cap U [] := by
  have HI := Lib.hid (by obtain ⟨p, ev, M, S, f, hb, -, -⟩ := h.ex; exact isQ_calls hb.own)
  have HAl := Lib.hid (allQ_calls h)
  have HC := Lib.hid (show ∀ W v, W.ownsRow w.heap.size 28 5 v L.length (cellsV L) → Below w.heap.size w W → Calls Tryz.prog 61 #[.pointer (some ⟨q, 0, none⟩), v] W fun e w' => (∃ v, e = .returned v) ∧ QStep w w' q G cap U [] from fun W v ho hb => by
    obtain ⟨hv, hf⟩ := LV.of_owns ho
    obtain ⟨h1, h2, h3, h4, h5⟩ := h.facts
    have hlt := h.lt
    have hc := cutQ_calls (h.below hb) _ _ hv (fun k hk hg => by have := hf k hk; have := hlt k hg; omega) (fun x hx => hx) h2 (by omega)
    rw [cutsV_all h1 h2] at hc
    refine hc.mono ?_
    rintro e w' ⟨h6, h7⟩
    obtain ⟨G', hq, ho', hg'⟩ := h7.ex
    refine ⟨h6, ⟨G', hq, (Off.of_below hb).to ho', fun k hk => ?_⟩⟩
    rcases hg' k hk with c | c
    · exact .inl c
    · exact .inr (Nat.le_trans hb.size c))
  clear h
  go_enter Tryz.func42, Tryz.ntmps42
  go_wp2_with (first | (go_at_call 52; refine HI.out.mono ?_; rintro e w2 ⟨rfl, rfl⟩) | fail)
  refine HAl.out.mono ?_
  rintro e w1 ⟨v, rfl, ho, hb⟩
  obtain ⟨a, c, rfl, -, -⟩ := (LV.of_owns ho).1.shape
  have HC1 := Lib.hid (HC.out w1 _ ho hb)
  clear ho hb
  go_wp2_with (first | (go_at_call 61; refine HC1.out.mono ?_; rintro e w2 ⟨⟨v, rfl⟩, h2⟩; have H2 := Lib.hid h2; clear h2) | fail)
  go_ret2
  exact ⟨rfl, H2.out⟩
set_option maxRecDepth 100000 in
theorem copyQ_calls {w : World} {q : Nat} {G : Nat → Prop} {cap U : Nat} {L : List Ev} (h : QA w q G cap U L) :
    Calls Tryz.prog 41 #[.pointer (some ⟨q, 0, none⟩)] w fun e w' => ∃ c, e = .returned (.tuple #[.pointer (some ⟨c, 0, none⟩), .int .i64 0]) ∧ ∃ G', QA w' c G' cap L.length L ∧ (∀ k, G' k → w.heap.size ≤ k) ∧ Below w.heap.size w w' := by
  have HI := Lib.hid (by obtain ⟨p, ev, M, S, f, hb, -, -⟩ := h.ex; exact isQ_calls hb.own)
  obtain ⟨h1, h2, h3, h4, h5⟩ := h.facts
  have HN := Lib.hid (newQ_ok cap h4 w)
  have HAl := Lib.hid (show ∀ W, Below w.heap.size w W → Calls Tryz.prog 21 #[.pointer (some ⟨q, 0, none⟩)] W fun e W' => ∃ v, e = .returned v ∧ W'.ownsRow W.heap.size 28 5 v L.length (cellsV L) ∧ Below W.heap.size W W' from fun W hb => allQ_calls (h.below hb))
  have hrow : ∃ g hq sq mb, w.heap[q]? = some (ownQ g cap hq sq mb) := by
    obtain ⟨p, ev, M, S, f, hb, -, -⟩ := h.ex
    exact ⟨_, _, _, _, hb.own⟩
  obtain ⟨g, hq, sq, mb, hown⟩ := hrow
  obtain ⟨o0, -⟩ := ownQ_cells hown
  have HF := Lib.hid (And.intro h1 (And.intro h2 (And.intro h3 h5)))
  clear h h1 h2 h3 h5 hown
  go_enter Tryz.func41, Tryz.ntmps41
  go_wp2_with (first
    | (go_at_call 52; refine HI.out.mono ?_; rintro e w2 ⟨rfl, rfl⟩)
    | (go_at_call 43; refine HN.out.mono ?_; rintro e w3 ⟨c, rfl, h3⟩; have H3 := Lib.hid h3; clear h3)
    | fail)
  refine (HAl.out w3 (by obtain ⟨G3, _, b, _⟩ := H3.out.ex; exact b)).mono ?_
  rintro e w4 ⟨v, rfl, ho, hb⟩
  have HP := Lib.hid (show Calls Tryz.prog 19 #[.pointer (some ⟨c, 0, none⟩), v] w4 fun e w' => e = .returned (.tuple #[.int .i64 (-1), .int .i64 0]) ∧ ∃ G', QA w' c G' cap L.length L ∧ (∀ k, G' k → w.heap.size ≤ k) ∧ Below w.heap.size w w' from by
    obtain ⟨h1, h2, h3, h5⟩ := HF.out
    obtain ⟨G3, q3, b3, f3⟩ := H3.out.ex
    obtain ⟨hv, hf⟩ := LV.of_owns ho
    have hs := b3.size
    refine (putAllQ_calls (q3.below hb) (by omega) v L hv (fun k hk hg => by have := hf k hk; have := q3.lt k hg; omega) (by omega)).mono ?_
    rintro e w' ⟨r, cc, L', rfl, p1, p2⟩
    obtain ⟨rfl, rfl, rfl⟩ := putIs_ok p1 h5 h2 (by simpa using h3)
    have hself : L.foldl (fun acc x => insV x acc) [] = L := inOrd_self h1 h2
    rw [hself, Nat.zero_add] at p2
    obtain ⟨G', g1, g2, g3⟩ := p2.ex
    refine ⟨rfl, G', g1, fun k hk => ?_, (b3.trans (hb.mono hs)).trans (g2.below f3 (Nat.le_trans hs hb.size))⟩
    rcases g3 k hk with c | c
    · exact f3 k c
    · have := hb.size; omega)
  obtain ⟨la, lc, rfl, -, -⟩ := (LV.of_owns ho).1.shape
  clear ho hb
  go_wp2_with (first
    | (go_at_call 19; refine HP.out.mono ?_; rintro e w5 ⟨rfl, h5⟩; have H5 := Lib.hid h5; clear h5)
    | fail)
  go_ret2
  exact ⟨c, rfl, H5.out⟩
end Go.Proofs.YtecbpohkbniadaaGreat
end

section
/-
  TWO QUEUES that share nothing, and lists beside them: how calls at one leave the other.
-/
namespace Go.Proofs.YtecbpohkbniadaaGreat
open Go.RowKit Go.Shelf

structure Tq (w W : World) (q c Uq Uc : Nat) (Lq Lc : List Ev) (R : List (Value × List Ev)) : Prop where
  ex : ∃ G1 G2, QA W q G1 60 Uq Lq ∧ QA W c G2 60 Uc Lc ∧ (∀ k, G1 k → ¬ G2 k) ∧ (∀ k, G1 k ∨ G2 k → w.heap.size ≤ k) ∧ ∀ x ∈ R, LV W x.1 x.2 ∧ ∀ k, x.1.ownBlock = some k → ¬ G1 k ∧ ¬ G2 k
  bel : Below w.heap.size w W
section
variable {w W W' : World} {q c Uq Uc : Nat} {Lq Lc : List Ev} {R : List (Value × List Ev)}
theorem Tq.below (h : Tq w W q c Uq Uc Lq Lc R) (hb : Below W.heap.size W W') : Tq w W' q c Uq Uc Lq Lc R := by
  obtain ⟨G1, G2, h1, h2, h3, h4, h5⟩ := h.ex
  exact ⟨⟨G1, G2, h1.below hb, h2.below hb, h3, h4, fun x hx => ⟨(h5 x hx).1.below hb, (h5 x hx).2⟩⟩, h.bel.trans (hb.mono h.bel.size)⟩
theorem Tq.row (h : Tq w W q c Uq Uc Lq Lc R) {v : Value} {l : List Ev} (hx : (v, l) ∈ R) : LV W v l := by
  obtain ⟨G1, G2, h1, h2, h3, h4, h5⟩ := h.ex
  exact (h5 _ hx).1
theorem Tq.add (h : Tq w W q c Uq Uc Lq Lc R) (hb : Below W.heap.size W W') {v : Value} {l : List Ev} (ho : W'.ownsRow W.heap.size 28 5 v l.length (cellsV l)) : Tq w W' q c Uq Uc Lq Lc ((v, l) :: R) := by
  have h' := h.below hb
  obtain ⟨G1, G2, h1, h2, h3, h4, h5⟩ := h.ex
  obtain ⟨hv, hf⟩ := LV.of_owns ho
  refine ⟨⟨G1, G2, h1.below hb, h2.below hb, h3, h4, fun x hx => ?_⟩, h'.bel⟩
  rcases List.mem_cons.1 hx with e | e
  · subst e
    exact ⟨hv, fun k hk => ⟨fun hg => by have := hf k hk; have := h1.lt k hg; omega, fun hg => by have := hf k hk; have := h2.lt k hg; omega⟩⟩
  · exact ⟨(h5 x e).1.below hb, (h5 x e).2⟩
def TqG (w W : World) (q c Uq Uc : Nat) (Lq Lc : List Ev) (R : List (Value × List Ev)) (G1 : Nat → Prop) : Prop := ∃ G2, QA W q G1 60 Uq Lq ∧ QA W c G2 60 Uc Lc ∧ (∀ k, G1 k → ¬ G2 k) ∧ (∀ k, G1 k ∨ G2 k → w.heap.size ≤ k) ∧ ∀ x ∈ R, LV W x.1 x.2 ∧ ∀ k, x.1.ownBlock = some k → ¬ G1 k ∧ ¬ G2 k
theorem TqG.one {G1 : Nat → Prop} (h : TqG w W q c Uq Uc Lq Lc R G1) (hbl : Below w.heap.size w W) {U' : Nat} {L' : List Ev} (hs : QStep W W' q G1 60 U' L') : Tq w W' q c U' Uc L' Lc R := by
  obtain ⟨G2, h1, h2, h3, h4, h5⟩ := h
  obtain ⟨G', g1, g2, g3⟩ := hs.ex
  have hsz := hbl.size
  have hl2 := h2.lt
  refine ⟨⟨G', G2, g1, h2.off g2 (fun k hk hg => h3 k hg hk), fun k hk hg => ?_, fun k hk => ?_, fun x hx => ?_⟩, hbl.trans (g2.below (fun k hk => h4 k (.inl hk)) hsz)⟩
  · rcases g3 k hk with e | e
    · exact h3 k e hg
    · have := hl2 k hg; omega
  · rcases hk with hk | hk
    · rcases g3 k hk with e | e
      · exact h4 k (.inl e)
      · omega
    · exact h4 k (.inr hk)
  · obtain ⟨a1, a2⟩ := h5 x hx
    refine ⟨a1.keep fun k hk => g2.block k (a1.lt k hk) (a2 k hk).1, fun k hk => ⟨fun hg => ?_, (a2 k hk).2⟩⟩
    rcases g3 k hg with e | e
    · exact (a2 k hk).1 e
    · have := a1.lt k hk; omega
theorem Tq.call (h : Tq w W q c Uq Uc Lq Lc R) {f : FuncId} {args : Array Value} {U' : Nat} {P : Ending → List Ev → Prop} (hc : ∀ G, QA W q G 60 Uq Lq → Calls Tryz.prog f args W fun e w' => ∃ L', P e L' ∧ QStep W w' q G 60 U' L') : Calls Tryz.prog f args W fun e w' => ∃ L', P e L' ∧ Tq w w' q c U' Uc L' Lc R := by
  obtain ⟨G1, G2, h1, h2⟩ := h.ex
  have hG : TqG w W q c Uq Uc Lq Lc R G1 := ⟨G2, h1, h2⟩
  refine (hc G1 h1).mono ?_
  rintro e w' ⟨L', p1, p2⟩
  exact ⟨L', p1, hG.one h.bel p2⟩
theorem Tq.swap (h : Tq w W q c Uq Uc Lq Lc R) : Tq w W c q Uc Uq Lc Lq R := by
  obtain ⟨G1, G2, h1, h2, h3, h4, h5⟩ := h.ex
  exact ⟨⟨G2, G1, h2, h1, fun k hk hg => h3 k hg hk, fun k hk => h4 k hk.symm, fun x hx => ⟨(h5 x hx).1, fun k hk => ((h5 x hx).2 k hk).symm⟩⟩, h.bel⟩
theorem tqAll (h : Tq w W q c Uq Uc Lq Lc R) :
    Calls Tryz.prog 21 #[.pointer (some ⟨q, 0, none⟩)] W fun e w' => ∃ v, e = .returned v ∧ Tq w w' q c Uq Uc Lq Lc ((v, Lq) :: R) := by
  obtain ⟨G1, G2, h1, -⟩ := h.ex
  refine (allQ_calls h1).mono ?_
  rintro e w' ⟨v, h2, h3, h4⟩
  exact ⟨v, h2, h.add h4 h3⟩
theorem tqRoom (h : Tq w W q c Uq Uc Lq Lc R) :
    Calls Tryz.prog 30 #[.pointer (some ⟨q, 0, none⟩)] W fun e w' => e = .returned (.int .i64 ((60 - Lq.length : Nat) : Int)) ∧ Tq w w' q c Uq Uc Lq Lc R := by
  obtain ⟨G1, G2, h1, -⟩ := h.ex
  refine (roomQ_calls h1).mono ?_
  rintro e w' ⟨h2, h4⟩
  exact ⟨h2, h.below h4⟩
theorem tqLen (h : Tq w W q c Uq Uc Lq Lc R) :
    Calls Tryz.prog 24 #[.pointer (some ⟨q, 0, none⟩)] W fun e w' => e = .returned (.int .i64 (Lq.length : Int)) ∧ Tq w w' q c Uq Uc Lq Lc R := by
  obtain ⟨G1, G2, h1, -⟩ := h.ex
  refine (lenQ_calls h1).mono ?_
  rintro e w' ⟨h2, rfl⟩
  exact ⟨h2, h⟩
theorem tqClear (h : Tq w W q c Uq Uc Lq Lc R) :
    Calls Tryz.prog 42 #[.pointer (some ⟨q, 0, none⟩)] W fun e w' => e = .returned (.tuple #[.int .i64 (Lq.length : Int), .int .i64 0]) ∧ Tq w w' q c Uq Uc [] Lc R := by
  refine (h.call (P := fun e L' => e = .returned (.tuple #[.int .i64 (Lq.length : Int), .int .i64 0]) ∧ L' = []) fun G hG => (clearQ_calls hG).mono (by
    rintro e w' ⟨h1, h2⟩
    exact ⟨[], ⟨h1, rfl⟩, h2⟩)).mono ?_
  rintro e w' ⟨L', ⟨h1, rfl⟩, h2⟩
  exact ⟨h1, h2⟩
theorem tqPut (h : Tq w W q c Uq Uc Lq Lc R) (hU : Uq + 1000 < 4294967296) (x : Ev) :
    Calls Tryz.prog 34 #[.pointer (some ⟨q, 0, none⟩), .agg #[.int .i64 x.1.1, .int .i64 x.1.2.1, .int .i64 x.1.2.2, .int .i64 x.2.1, .int .i64 x.2.2]] W fun e w' => ∃ L' r, e = .returned (.int .i64 r) ∧ Tq w w' q c (Uq + 1) Uc L' Lc R := by
  refine (h.call (P := fun e L' => ∃ r, e = .returned (.int .i64 r)) fun G hG => (putQ_calls hG hU x).mono (by
    rintro e w' ⟨r, L', h1, h2, h3⟩
    exact ⟨L', ⟨r, h1⟩, h3⟩)).mono ?_
  rintro e w' ⟨L', ⟨r, h1⟩, h2⟩
  exact ⟨L', r, h1, h2⟩
theorem tqTakeBefore (h : Tq w W q c Uq Uc Lq Lc R) (t : Int) :
    Calls Tryz.prog 29 #[.pointer (some ⟨q, 0, none⟩), .int .i64 t] W fun e w' => ∃ L' v, e = .returned v ∧ Tq w w' q c Uq Uc L' Lc R := by
  refine (h.call (P := fun e L' => ∃ v, e = .returned v) fun G hG => (takeBeforeQ_calls hG t).mono (by
    rintro e w' ⟨v, n, h1, h2, h3⟩
    obtain ⟨G', k1, k2, k3, -, -⟩ := h3.ex
    exact ⟨_, ⟨v, h1⟩, G', k1, k2, k3⟩)).mono ?_
  rintro e w' ⟨L', ⟨v, h1⟩, h2⟩
  exact ⟨L', v, h1, h2⟩
theorem tqEqual (h : Tq w W q c Uq Uc Lq Lc R) {v v' : Value} {l : List Ev} (h1 : (v, l) ∈ R) (h2 : (v', l) ∈ R) (hn : l.length ≤ 100000) :
    Calls Tryz.prog 20 #[v, v'] W fun e w' => e = .returned (.bool true) ∧ Tq w w' q c Uq Uc Lq Lc R := by
  refine (equalVs_calls v v' l W (h.row h1) (h.row h2) hn).mono ?_
  rintro e w' ⟨h3, h4⟩
  exact ⟨h3, h.below h4⟩
/-- What filled leaves, and a copy of it. -/
theorem Fild.copy {w0 w W W' : World} {q U : Nat} {L : List Ev} {v : Value} {l : List Ev} (h : Fild w W q 60 U L v l) (hw : Below w0.heap.size w0 w) {c : Nat} {Uc : Nat} (hc : ∃ G', QA W' c G' 60 Uc L ∧ (∀ k, G' k → W.heap.size ≤ k) ∧ Below W.heap.size W W') : Tq w0 W' q c U Uc L L [(v, l)] := by
  obtain ⟨G1, h1, h2, h3, h4, h5⟩ := h.ex
  obtain ⟨G2, k1, k2, k3⟩ := hc
  obtain ⟨hv, hf⟩ := LV.of_owns h3
  have hs := hw.size
  have hs2 := h5.size
  have hwW := hw.trans (h5.mono hs)
  refine ⟨⟨G1, G2, h1.below k3, k1, fun k hk hg => ?_, fun k hk => ?_, fun x hx => ?_⟩, hwW.trans (k3.mono hwW.size)⟩
  · have := h1.lt k hk; have := k2 k hg; omega
  · rcases hk with hk | hk
    · have := h2 k hk; omega
    · have := k2 k hk; omega
  · rw [List.mem_singleton.1 hx]
    exact ⟨hv.below k3, fun k hk => ⟨h4 k hk, fun hg => by have := hv.lt k hk; have := k2 k hg; omega⟩⟩
end
end Go.Proofs.YtecbpohkbniadaaGreat
end

section
/-
  EvqApart RETURNS TRUE: a copy of a queue has the same events, and the same room; what is done with one of them changes nothing of the other one.
-/
namespace Go.Proofs.YtecbpohkbniadaaGreat
open Go.RowKit Go.Shelf

theorem evs_facts (l : List Sv) (m : Nat) : (evsS ((l.take m).map madeV)).length ≤ m ∧ DistV (evsS ((l.take m).map madeV)) ∧ ∀ x ∈ evsS ((l.take m).map madeV), RightV x := by
  refine ⟨?_, evsS_dist _, fun x hx => ?_⟩
  · have := evsS_len ((l.take m).map madeV)
    rw [List.length_map, List.length_take] at this
    omega
  · obtain ⟨y, _, rfl⟩ := List.mem_map.1 (evsS_sub _ x hx)
    exact madeV_right y
set_option maxRecDepth 100000 in
set_option maxHeartbeats 4000000 in
theorem wEvqApart {w : World} (lv ov : Value) (l other : List Sv) (hv : SvRow w lv l) (hv2 : SvRow w ov other) (t : Nat) (ht : t < 256) :
    Calls Tryz.prog 9 #[lv, ov, .int .u8 (t : Int)] w fun e w' => e = .returned (.bool true) ∧ Below w.heap.size w w' := by
  have HV := Lib.hid hv
  have HV2 := Lib.hid hv2
  have HA := Lib.hid (awake10_calls w)
  clear hv hv2
  go_enter Tryz.func9, Tryz.ntmps9
  go_wp2_with (first
    | (go_at_call 12; refine HA.out.mono ?_; rintro e w1 ⟨rfl, b1⟩; have B1 := Lib.hid b1; clear b1)
    | fail)
  refine (events_calls lv l (HV.out.below B1.out) 40 (by omega)).mono ?_
  rintro e w2 ⟨v, rfl, ho, hb⟩
  obtain ⟨hlen, hdist, hright⟩ := evs_facts l 40
  generalize evsS ((l.take 40).map madeV) = L at ho hlen hdist hright
  obtain ⟨hlv, -⟩ := LV.of_owns ho
  have B2 := Lib.hid (B1.out.trans (hb.mono B1.out.size))
  have HF := Lib.hid (filled_calls v L hlv 60 (by omega) (by omega) (by omega) hdist hright)
  obtain ⟨la, lc, rfl, -, -⟩ := hlv.shape
  have hSl : (inOrd L).length ≤ 40 := by rw [inOrd_len]; exact hlen
  clear ho hb B1 hdist hright HA hlv
  go_wp2_with (first | (go_at_call 17; refine HF.out.mono ?_; rintro e w3 ⟨q, v3, rfl, h3⟩; have H3 := Lib.hid h3; clear h3) | fail)
  have hc : Calls Tryz.prog 41 #[.pointer (some ⟨q, 0, none⟩)] w3 fun e w' => ∃ c, e = .returned (.tuple #[.pointer (some ⟨c, 0, none⟩), .int .i64 0]) ∧ ∃ G', QA w' c G' 60 (inOrd L).length (inOrd L) ∧ (∀ k, G' k → w3.heap.size ≤ k) ∧ Below w3.heap.size w3 w' := by
    obtain ⟨G, h1, -⟩ := H3.out.ex
    exact copyQ_calls h1
  refine hc.mono ?_
  rintro e w4 ⟨c, rfl, h4⟩
  have T4 := H3.out.copy B2.out h4
  have HT4 := Lib.hid T4
  obtain ⟨sa, sc, rfl, -, -⟩ := (T4.row (List.mem_singleton.2 rfl)).shape
  obtain ⟨U, hU⟩ : ∃ U, L.length = U := ⟨_, rfl⟩
  have hU2 : (inOrd L).length ≤ 40 := hSl
  rw [hU] at T4
  have T4 := Lib.hid T4
  clear h4 HT4 hc H3 HF B2
  generalize inOrd L = S at *
  go_wp2_with fail
  refine (tqRoom T4.out.swap).mono ?_
  rintro e w5 ⟨rfl, t5⟩
  have T5 := Lib.hid t5.swap
  clear t5 T4
  go_wp2_with fail
  refine (tqRoom T5.out).mono ?_
  rintro e w6 ⟨rfl, t6⟩
  have T6 := Lib.hid t6
  clear t6 T5
  go_wp2_with fail
  refine (tqAll T6.out.swap).mono ?_
  rintro e w7 ⟨v7, rfl, t7⟩
  obtain ⟨a7, c7, rfl, -, -⟩ := (t7.row (List.mem_cons_self ..)).shape
  have T7 := Lib.hid t7.swap
  clear t7 T6
  go_wp2_with fail
  refine (tqEqual T7.out (v := .slice a7 S.length c7) (v' := .slice sa S.length sc) (l := S) (by simp) (by simp) (by omega)).mono ?_
  rintro e w8 ⟨rfl, t8⟩
  have T8 := Lib.hid t8
  clear t8 T7
  go_wp2_with fail
  refine (events_calls ov other (HV2.out.below T8.out.bel) 20 (by omega)).mono ?_
  rintro e w9 ⟨vm, rfl, ho, hb⟩
  obtain ⟨hml, -, -⟩ := evs_facts other 20
  generalize evsS ((other.take 20).map madeV) = M at ho hml
  obtain ⟨ma, mc, rfl, -, -⟩ := (LV.of_owns ho).1.shape
  have T9 := Lib.hid (T8.out.add hb ho)
  clear ho hb T8 HV HV2
  go_wp2_with fail
  go_loopw [53] (fun jv wr => ∃ k : Nat, k ≤ M.length ∧ jv = .int .i64 (k : Int) ∧ ∃ Lc, Tq w wr q c U (S.length + k) S Lc [(.slice ma M.length mc, M), (.slice a7 S.length c7, S), (.slice sa S.length sc, S)]) (fun jv _ => M.length - (intOf jv).toNat)
  case atStart => exact ⟨0, Nat.zero_le _, by simp, S, T9.out⟩
  case round =>
    obtain ⟨k, hk, rfl, Lc, hT⟩ := hrel
    by_cases hlt : k < M.length
    · have e1 : (k : Int) < (M.length : Int) := by omega
      obtain ⟨g, o, rfl, -, v0, v1, v2, v3, v4⟩ := (hT.row (List.mem_cons_self ..)).lo.at hlt
      have hbox : Below wr.heap.size wr (wr.alloc (.cells #[.int .i64 (vn M k).1.1, .int .i64 (vn M k).1.2.1, .int .i64 (vn M k).1.2.2, .int .i64 (vn M k).2.1, .int .i64 (vn M k).2.2] 28)) := (Below.refl _ wr).alloc (Nat.le_refl _) _
      have HP := Lib.hid (tqPut (hT.below hbox).swap (by omega) (vn M k))
      clear hT hbox T9
      generalize vn M k = x at *
      go_wp2_with (first | (go_at_call 34; refine HP.out.mono ?_; rintro e w5 ⟨L', r, rfl, h5⟩; have H5 := Lib.hid h5.swap; clear h5) | fail)
      go_roundw
      case rel => exact ⟨k + 1, hlt, by go_num, L', H5.out⟩
      case measure => simp [intOf]; omega
    · obtain rfl : k = M.length := by omega
      have T10 := Lib.hid hT
      clear hT T9
      go_wp2_with fail
      refine (tqTakeBefore T10.out.swap _).mono ?_
      rintro e w11 ⟨L', v11, rfl, t11⟩
      have T11 := Lib.hid t11.swap
      clear t11 T10
      go_wp2_with fail
      refine (tqAll T11.out).mono ?_
      rintro e w12 ⟨v12, rfl, t12⟩
      obtain ⟨a12, c12, rfl, -, -⟩ := (t12.row (List.mem_cons_self ..)).shape
      have T12 := Lib.hid t12
      clear t12 T11
      go_wp2_with fail
      refine (tqEqual T12.out (v := .slice a12 S.length c12) (v' := .slice sa S.length sc) (l := S) (by simp) (by simp) (by omega)).mono ?_
      rintro e w13 ⟨rfl, t13⟩
      have T13 := Lib.hid t13
      clear t13 T12
      go_wp2_with fail
      refine (tqAll T13.out.swap).mono ?_
      rintro e w14 ⟨v14, rfl, t14⟩
      obtain ⟨a14, c14, rfl, -, -⟩ := (t14.row (List.mem_cons_self ..)).shape
      have T14 := Lib.hid t14.swap
      clear t14 T13
      go_wp2_with fail
      refine (tqClear T14.out).mono ?_
      rintro e w15 ⟨rfl, t15⟩
      have T15 := Lib.hid t15
      clear t15 T14
      go_wp2_with fail
      refine (tqLen T15.out).mono ?_
      rintro e w16 ⟨rfl, t16⟩
      have T16 := Lib.hid t16
      clear t16 T15
      go_wp2_with fail
      refine (tqRoom T16.out).mono ?_
      rintro e w17 ⟨rfl, t17⟩
      have T17 := Lib.hid t17
      clear t17 T16
      go_wp2_with fail
      refine (tqAll T17.out.swap).mono ?_
      rintro e w18 ⟨v18, rfl, t18⟩
      obtain ⟨a18, c18, rfl, -, -⟩ := (t18.row (List.mem_cons_self ..)).shape
      have hLc : L'.length ≤ 100000 := by
        obtain ⟨G1, G2, h1, -⟩ := t18.ex
        have := h1.facts.2.2.1
        omega
      have T18 := Lib.hid t18.swap
      clear t18 T17
      go_wp2_with fail
      refine (tqEqual T18.out (v := .slice a18 L'.length c18) (v' := .slice a14 L'.length c14) (l := L') (by simp) (by simp) hLc).mono ?_
      rintro e w19 ⟨rfl, t19⟩
      have T19 := Lib.hid t19.bel
      clear t19 T18
      go_wp2_with fail
      go_ret
      exact ⟨rfl, T19.out⟩
end Go.Proofs.YtecbpohkbniadaaGreat
end
