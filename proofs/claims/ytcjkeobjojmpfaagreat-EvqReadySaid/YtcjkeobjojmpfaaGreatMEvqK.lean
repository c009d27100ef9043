import Derived.Test.YtcjkeobjojmpfaaGreatMEvqI
section
/-
  CONTRACTS of evq's Put, Cancel, Take.
-/
namespace Go.Proofs.YtcjkeobjojmpfaaGreat
open Go.RowKit Go.Shelf

/-- What Put tells, and what it leaves. -/
def Put1 (cap : Nat) (L : List Ev) (x : Ev) (c : Int) (L' : List Ev) : Prop :=
  (c = 100 ∧ L' = L ∧ ¬ RightV x) ∨ (c = 101 ∧ L' = L ∧ RightV x ∧ ∃ y ∈ L, nmV y = nmV x) ∨
  (c = 4 ∧ L' = L ∧ RightV x ∧ (∀ y ∈ L, nmV y ≠ nmV x) ∧ cap ≤ L.length) ∨ (c = 0 ∧ L' = insV x L ∧ RightV x ∧ (∀ y ∈ L, nmV y ≠ nmV x) ∧ L.length < cap)
theorem twice_one {L : List Ev} {x : Ev} : TwiceAt L [x] 0 ↔ ∃ y ∈ L, nmV y = nmV x := by
  unfold TwiceAt
  constructor
  · rintro (h | h)
    · exact h
    · simp [metN] at h
  · exact .inl
theorem PutIs.one {cap : Nat} {L : List Ev} {x : Ev} {r c : Int} {L' : List Ev} (h : PutIs cap L [x] r c L') : Put1 cap L x c L' := by
  rcases h with ⟨rfl, rfl, k, _, hk, h1, _⟩ | ⟨rfl, rfl, h0, k, _, hk, h1, _⟩ | ⟨rfl, rfl, h0, _, h1, h2⟩ | ⟨rfl, rfl, h0, _, h1, h2⟩
  · obtain rfl : k = 0 := by simpa using hk
    exact .inl ⟨rfl, rfl, h1⟩
  · obtain rfl : k = 0 := by simpa using hk
    exact .inr (.inl ⟨rfl, rfl, h0 x (by simp), twice_one.1 h1⟩)
  · exact .inr (.inr (.inl ⟨rfl, rfl, h0 x (by simp), fun y hy e => h1 0 (by simp) (twice_one.2 ⟨y, hy, e⟩), by simp at h2; omega⟩))
  · exact .inr (.inr (.inr ⟨rfl, rfl, h0 x (by simp), fun y hy e => h1 0 (by simp) (twice_one.2 ⟨y, hy, e⟩), by simp at h2; omega⟩))
/-- A list of one event, newly laid. -/
theorem LV.one (W : World) (x : Ev) : LV (W.alloc (.cells #[.int .i64 x.1.1, .int .i64 x.1.2.1, .int .i64 x.1.2.2, .int .i64 x.2.1, .int .i64 x.2.2] 33)) (.slice (some ⟨W.heap.size, 0, none⟩) 1 1) [x] := by
  have h := VB.new W x
  obtain ⟨x0, x1, x2, x3, x4, -⟩ := h.cells
  refine .inr ⟨W.heap.size, 1, rfl, ⟨⟨_, World.alloc_heap_new W _, rfl⟩, Nat.le_refl _, fun i hi => ?_⟩, by unfold maxLen; omega⟩
  obtain rfl : i = 0 := by simpa using hi
  exact ⟨x0, x1, x2, x3, x4⟩
set_option maxRecDepth 100000 in
set_option maxHeartbeats 4000000 in
theorem putQ_calls {w : World} {q : Nat} {G : Nat → Prop} {cap U : Nat} {L : List Ev} (h : QA w q G cap U L) (hU : U + 1000 < 4294967296) (x : Ev) :
    Calls Tryz.prog 27 #[.pointer (some ⟨q, 0, none⟩), vV x] w fun e w' => ∃ c L', e = .returned (.int .i64 c) ∧ Put1 cap L x c L' ∧ QStep w w' q G cap (U + 1) L' := by
  have hb1 : Below w.heap.size w (w.alloc (.cells #[.int .i64 x.1.1, .int .i64 x.1.2.1, .int .i64 x.1.2.2, .int .i64 x.2.1, .int .i64 x.2.2] 33)) := (Below.refl _ w).alloc (Nat.le_refl _) _
  have hb2 := hb1.alloc hb1.size (.cells #[.int .i64 x.1.1, .int .i64 x.1.2.1, .int .i64 x.1.2.2, .int .i64 x.2.1, .int .i64 x.2.2] 33)
  have hp0 := (putAllQ_calls (h.below hb2) hU _ [x] (LV.one (w.alloc (.cells #[.int .i64 x.1.1, .int .i64 x.1.2.1, .int .i64 x.1.2.2, .int .i64 x.2.1, .int .i64 x.2.2] 33)) x) (fun k hk hg => by
    have h1 : k = w.heap.size + 1 := by simpa [Value.ownBlock] using hk.symm
    have := h.lt k hg
    omega) (by simp))
  simp only [World.size_alloc] at hp0
  have HP := Lib.hid (hp0.mono (R' := fun e w' => ∃ r c L', e = .returned (.tuple #[.int .i64 r, .int .i64 c]) ∧ Put1 cap L x c L' ∧ QStep w w' q G cap (U + 1) L') (by
    rintro e w' ⟨r, c, L', h1, h2, h3⟩
    have q2 := QStep.trans (Off.of_below hb2) (fun k hk => .inl hk) h3
    rw [show U + [x].length = U + 1 by simp] at q2
    exact ⟨r, c, L', h1, h2.one, q2⟩))
  clear hp0
  unfold vV
  clear hb1 hb2 h
  go_enter Tryz.func27, Tryz.ntmps27
  go_wp2_with fail
  refine HP.out.mono ?_
  rintro e w3 ⟨r, c, L', rfl, h1, h2⟩
  have H1 := Lib.hid h1
  have H2 := Lib.hid h2
  clear h1 h2
  go_wp2_with fail
  go_ret
  exact ⟨c, L', rfl, H1.out, H2.out⟩
set_option maxRecDepth 100000 in
set_option maxHeartbeats 4000000 in
theorem cancelQ_yes {w : World} {q : Nat} {G : Nat → Prop} {cap U : Nat} {L : List Ev} (h : QA w q G cap U L) {x : Ev} (hx : x ∈ L) :
    Calls Tryz.prog 25 #[.pointer (some ⟨q, 0, none⟩), .int .i64 x.1.2.1, .int .i64 x.1.2.2] w fun e w' => e = .returned (.tuple #[vV x, .int .i64 0]) ∧ QStep w w' q G cap U (L.filter fun y => decide (nmV y ≠ nmV x)) := by
  have hrt := h.facts.2.2.2.2 x hx
  have hwf : wfI x.1.2.1 ∧ wfI x.1.2.2 := by
    obtain ⟨⟨h1, h2, h3⟩, _⟩ := hrt
    exact ⟨wfI_of (by omega), wfI_of (by omega)⟩
  have h0 := h.below (below_z w)
  have HI := Lib.hid (by obtain ⟨p, ev, M, S, f, hb, -, -⟩ := h0.ex; exact isQ_calls hb.own)
  have HF := Lib.hid (findQ_yes h0 hx hwf.1 hwf.2)
  have HZ := Lib.hid (below_z w)
  have HC := Lib.hid (show ∀ W3, Below w.heap.size w W3 → W3.heap[w.heap.size]? = some (.cells #[.int .i64 0, .int .i64 0, .int .i64 0, .int .i64 0, .int .i64 0] 33 (0, 0)) → Calls Tryz.prog 51 #[.pointer (some ⟨q, 0, none⟩), .slice (some ⟨W3.heap.size + 1, 0, none⟩) 1 1] ((W3.alloc (.cells #[.int .i64 x.1.1, .int .i64 x.1.2.1, .int .i64 x.1.2.2, .int .i64 x.2.1, .int .i64 x.2.2] 33)).alloc (.cells #[.int .i64 x.1.1, .int .i64 x.1.2.1, .int .i64 x.1.2.2, .int .i64 x.2.1, .int .i64 x.2.2] 33)) fun e w' => (∃ v, e = .returned v) ∧ QStep w (World.setV w' w.heap.size 0 x) q G cap U (L.filter fun y => decide (nmV y ≠ nmV x)) ∧ VB w' W3.heap.size x ∧ w'.heap[w.heap.size]? = some (.cells #[.int .i64 0, .int .i64 0, .int .i64 0, .int .i64 0, .int .i64 0] 33 (0, 0)) from fun W3 hb hz => by
    have hb1 : Below W3.heap.size W3 (W3.alloc (.cells #[.int .i64 x.1.1, .int .i64 x.1.2.1, .int .i64 x.1.2.2, .int .i64 x.2.1, .int .i64 x.2.2] 33)) := (Below.refl _ W3).alloc (Nat.le_refl _) _
    have hb2 := hb1.alloc hb1.size (.cells #[.int .i64 x.1.1, .int .i64 x.1.2.1, .int .i64 x.1.2.2, .int .i64 x.2.1, .int .i64 x.2.2] 33)
    have hb3 := hb.trans (hb2.mono hb.size)
    have hw3 : w.heap.size < W3.heap.size := (Array.getElem?_eq_some_iff.1 hz).1
    have hlt := h.lt
    have hc := cutQ_calls (h.below hb3) _ [x] (LV.one (W3.alloc (.cells #[.int .i64 x.1.1, .int .i64 x.1.2.1, .int .i64 x.1.2.2, .int .i64 x.2.1, .int .i64 x.2.2] 33)) x) (fun k hk hg => by
      have h1 : k = W3.heap.size + 1 := by simpa [Value.ownBlock] using hk.symm
      have := hlt k hg
      omega) (fun y hy => by rw [List.mem_singleton.1 hy]; exact hx) (List.pairwise_singleton _ _) (by simp)
    simp only [World.size_alloc] at hc
    refine hc.mono ?_
    rintro e w' ⟨h1, h2⟩
    obtain ⟨G', hq, ho, hf⟩ := h2.ex
    have hk : ∀ k, w.heap.size ≤ k → k < W3.heap.size + 1 → w'.heap[k]? = ((W3.alloc (.cells #[.int .i64 x.1.1, .int .i64 x.1.2.1, .int .i64 x.1.2.2, .int .i64 x.2.1, .int .i64 x.2.2] 33)).alloc (.cells #[.int .i64 x.1.1, .int .i64 x.1.2.1, .int .i64 x.1.2.2, .int .i64 x.2.1, .int .i64 x.2.2] 33)).heap[k]? := fun k hk1 hk2 => ho.block k (by simp; omega) (fun hg => by have := hlt k hg; omega)
    obtain ⟨G2, hq2, ho2, hf2⟩ := (QStep.trans (Off.of_below hb3) (fun k hk => .inl hk) h2).ex
    refine ⟨h1, ⟨G', hq.keep fun k hk => setV_heap _ _ _ _ _ (fun e => ?_), ho2.setV (.inr (Nat.le_refl _)) _ _, fun k hk => ?_⟩, ?_, ?_⟩
    · rcases hf k hk with c | c
      · have := hlt k c; omega
      · simp only [World.size_alloc] at c; omega
    · rcases hf k hk with c | c
      · exact .inl c
      · simp only [World.size_alloc] at c; exact .inr (by omega)
    · exact (hk _ (by omega) (by omega)).trans ((Below.heap_alloc _ _ _ (by simp)).trans (VB.new W3 x))
    · exact (hk _ (Nat.le_refl _) (by omega)).trans ((hb2.block _ hw3).trans hz))
  unfold vV at HF ⊢
  clear h h0 hx hrt hwf
  go_enter Tryz.func25, Tryz.ntmps25
  go_wp2_with (first
    | (go_at_call 42; refine HI.out.mono ?_; rintro e w2 ⟨rfl, rfl⟩)
    | (go_at_call 24; refine HF.out.mono ?_; rintro e w3 ⟨rfl, b3⟩; have B3 := Lib.hid (HZ.out.trans (b3.mono HZ.out.size)); have hz3 : w3.heap[w.heap.size]? = some (.cells #[.int .i64 0, .int .i64 0, .int .i64 0, .int .i64 0, .int .i64 0] 33 (0, 0)) := (b3.block _ (by simp)).trans (World.alloc_heap_new w _); have HC3 := Lib.hid (HC.out w3 B3.out hz3); clear b3 hz3)
    | (go_at_call 51; refine HC3.out.mono ?_; rintro e w5 ⟨⟨v, rfl⟩, h5, hx5, hz5⟩; have H5 := Lib.hid h5; obtain ⟨x0, x1, x2, x3, x4, -⟩ := hx5.cells; have z0 : w5.cell? ⟨w.heap.size, 0, none⟩ = some (.int .i64 0) := (by simp [World.cell?, hz5]); have z1 : w5.cell? ⟨w.heap.size, 1, none⟩ = some (.int .i64 0) := (by simp [World.cell?, hz5]); have z2 : w5.cell? ⟨w.heap.size, 2, none⟩ = some (.int .i64 0) := (by simp [World.cell?, hz5]); have z3 : w5.cell? ⟨w.heap.size, 3, none⟩ = some (.int .i64 0) := (by simp [World.cell?, hz5]); have z4 : w5.cell? ⟨w.heap.size, 4, none⟩ = some (.int .i64 0) := (by simp [World.cell?, hz5]); have zf : ∀ j, w5.frozen? ⟨w.heap.size, j, none⟩ = false := (fun j => by simp [World.frozen?, hz5]); clear h5 hx5 hz5)
    | fail)
  refine bodyPost_ret (v := .tuple #[.agg #[.int .i64 x.1.1, .int .i64 x.1.2.1, .int .i64 x.1.2.2, .int .i64 x.2.1, .int .i64 x.2.2], .int .i64 0]) (by simp [results, Tryz.f25, go_sem, z0, z1, z2, z3, z4]) rfl ⟨rfl, H5.out⟩
set_option maxRecDepth 100000 in
set_option maxHeartbeats 4000000 in
theorem cancelQ_no {w : World} {q : Nat} {G : Nat → Prop} {cap U : Nat} {L : List Ev} (h : QA w q G cap U L) {s n : Int} (hx : ∀ x ∈ L, nmV x ≠ (s, n)) (hs : wfI s) (hn : wfI n) :
    Calls Tryz.prog 25 #[.pointer (some ⟨q, 0, none⟩), .int .i64 s, .int .i64 n] w fun e w' => e = .returned (.tuple #[.agg #[.int .i64 0, .int .i64 0, .int .i64 0, .int .i64 0, .int .i64 0], .int .i64 6]) ∧ QStep w w' q G cap U L := by
  have h0 := h.below (below_z w)
  have HI := Lib.hid (by obtain ⟨p, ev, M, S, f, hb, -, -⟩ := h0.ex; exact isQ_calls hb.own)
  have HF := Lib.hid (findQ_no h0 hx hs hn)
  have HQ := Lib.hid h
  have HZ := Lib.hid (below_z w)
  clear h h0 hx hs hn
  go_enter Tryz.func25, Tryz.ntmps25
  go_wp2_with (first
    | (go_at_call 42; refine HI.out.mono ?_; rintro e w2 ⟨rfl, rfl⟩)
    | (go_at_call 24; refine HF.out.mono ?_; rintro e w3 ⟨rfl, b3⟩; have B3 := Lib.hid (HZ.out.trans (b3.mono HZ.out.size)); have hz3 : w3.heap[w.heap.size]? = some (.cells #[.int .i64 0, .int .i64 0, .int .i64 0, .int .i64 0, .int .i64 0] 33 (0, 0)) := (b3.block _ (by simp)).trans (World.alloc_heap_new w _); have z0 : w3.cell? ⟨w.heap.size, 0, none⟩ = some (.int .i64 0) := (by simp [World.cell?, hz3]); have z1 : w3.cell? ⟨w.heap.size, 1, none⟩ = some (.int .i64 0) := (by simp [World.cell?, hz3]); have z2 : w3.cell? ⟨w.heap.size, 2, none⟩ = some (.int .i64 0) := (by simp [World.cell?, hz3]); have z3 : w3.cell? ⟨w.heap.size, 3, none⟩ = some (.int .i64 0) := (by simp [World.cell?, hz3]); have z4 : w3.cell? ⟨w.heap.size, 4, none⟩ = some (.int .i64 0) := (by simp [World.cell?, hz3]); have zf : ∀ j, w3.frozen? ⟨w.heap.size, j, none⟩ = false := (fun j => by simp [World.frozen?, hz3]); have hlt3 := (Array.getElem?_eq_some_iff.1 hz3).1; clear b3 hz3)
    | fail)
  refine bodyPost_ret (v := .tuple #[.agg #[.int .i64 0, .int .i64 0, .int .i64 0, .int .i64 0, .int .i64 0], .int .i64 6]) (by simp [results, Tryz.f25, go_sem, z0, z1, z2, z3, z4, hlt3]) rfl ⟨rfl, QStep.same HQ.out ?_⟩
  exact (((((((Off.of_below (F := fun j => w.heap.size ≤ j) B3.out).set (b := w.heap.size) (.inl (Nat.le_refl _)) _ _).set (b := w.heap.size) (.inl (Nat.le_refl _)) _ _).set (b := w.heap.size) (.inl (Nat.le_refl _)) _ _).set (b := w.heap.size) (.inl (Nat.le_refl _)) _ _).set (b := w.heap.size) (.inl (Nat.le_refl _)) _ _).alloc _).below (fun j hj => hj) (Nat.le_refl _)
end Go.Proofs.YtcjkeobjojmpfaaGreat
end

section
/-
  CONTRACT of evq's Take.
-/
namespace Go.Proofs.YtcjkeobjojmpfaaGreat
open Go.RowKit Go.Shelf

/-- The box of a result beside a queue. -/
theorem QStep.box {a b c : World} {o : Obj} {q : Nat} {G : Nat → Prop} {cap U : Nat} {L : List Ev} (hab : Below a.heap.size a b) (hbx : b.heap[a.heap.size]? = some o) (hlt : ∀ k, G k → k < a.heap.size) (h : QStep b c q G cap U L) :
    c.heap[a.heap.size]? = some o ∧ ∀ y, QStep a (World.setV c a.heap.size 0 y) q G cap U L := by
  have hs := (Array.getElem?_eq_some_iff.1 hbx).1
  obtain ⟨G', hq, ho, hf⟩ := h.ex
  obtain ⟨G2, hq2, ho2, hf2⟩ := (QStep.trans (Off.of_below hab) (fun k hk => .inl hk) h).ex
  refine ⟨(ho.block _ hs fun hg => by have := hlt _ hg; omega).trans hbx, fun y => ⟨G', hq.keep fun k hk => setV_heap _ _ _ _ _ (fun e => ?_), ho2.setV (.inr (Nat.le_refl _)) _ _, fun k hk => ?_⟩⟩
  · rcases hf k hk with c | c
    · have := hlt k c; omega
    · omega
  · rcases hf k hk with c | c
    · exact .inl c
    · exact .inr (by omega)
theorem zbox {w5 : World} {b : Nat} (hz5 : w5.heap[b]? = some (.cells #[.int .i64 0, .int .i64 0, .int .i64 0, .int .i64 0, .int .i64 0] 33 (0, 0))) : w5.cell? ⟨b, 0, none⟩ = some (.int .i64 0) ∧ w5.cell? ⟨b, 1, none⟩ = some (.int .i64 0) ∧ w5.cell? ⟨b, 2, none⟩ = some (.int .i64 0) ∧ w5.cell? ⟨b, 3, none⟩ = some (.int .i64 0) ∧ w5.cell? ⟨b, 4, none⟩ = some (.int .i64 0) ∧ ∀ j, w5.frozen? ⟨b, j, none⟩ = false :=
  ⟨by simp [World.cell?, hz5], by simp [World.cell?, hz5], by simp [World.cell?, hz5], by simp [World.cell?, hz5], by simp [World.cell?, hz5], fun j => by simp [World.frozen?, hz5]⟩
set_option maxRecDepth 100000 in
set_option maxHeartbeats 4000000 in
theorem takeQ_yes {w : World} {q : Nat} {G : Nat → Prop} {cap U : Nat} {x : Ev} {l : List Ev} (h : QA w q G cap U (x :: l)) :
    Calls Tryz.prog 16 #[.pointer (some ⟨q, 0, none⟩)] w fun e w' => e = .returned (.tuple #[vV x, .int .i64 0]) ∧ QStep w w' q G cap U l := by
  have h0 := h.below (below_z w)
  have HL := Lib.hid (leastQ_yes h0)
  have HT := Lib.hid (dist_tail h.facts.2.1)
  have HZ := Lib.hid (below_z w)
  have HC := Lib.hid (show ∀ W3, Below w.heap.size w W3 → W3.heap[w.heap.size]? = some (.cells #[.int .i64 0, .int .i64 0, .int .i64 0, .int .i64 0, .int .i64 0] 33 (0, 0)) → Calls Tryz.prog 25 #[.pointer (some ⟨q, 0, none⟩), .int .i64 x.1.2.1, .int .i64 x.1.2.2] W3 fun e w' => e = .returned (.tuple #[vV x, .int .i64 0]) ∧ w'.heap[w.heap.size]? = some (.cells #[.int .i64 0, .int .i64 0, .int .i64 0, .int .i64 0, .int .i64 0] 33 (0, 0)) ∧ QStep w (World.setV w' w.heap.size 0 x) q G cap U l from fun W3 hb hz => (cancelQ_yes (h.below hb) (List.mem_cons_self ..)).mono (by
    rintro e w' ⟨rfl, h1⟩
    rw [HT.out] at h1
    obtain ⟨h2, h3⟩ := QStep.box hb hz h.lt h1
    exact ⟨rfl, h2, h3 x⟩))
  unfold vV at HL HC ⊢
  clear h h0
  go_enter Tryz.func16, Tryz.ntmps16
  go_wp2_with (first
    | (go_at_call 15; refine HL.out.mono ?_; rintro e w2 ⟨rfl, b2⟩; have B2 := Lib.hid (HZ.out.trans (b2.mono HZ.out.size)); have hz2 : w2.heap[w.heap.size]? = some (.cells #[.int .i64 0, .int .i64 0, .int .i64 0, .int .i64 0, .int .i64 0] 33 (0, 0)) := (b2.block _ (by simp)).trans (World.alloc_heap_new w _); have bx2 := B2.out.alloc B2.out.size (.cells #[.int .i64 x.1.1, .int .i64 x.1.2.1, .int .i64 x.1.2.2, .int .i64 x.2.1, .int .i64 x.2.2] 33); have HC2 := Lib.hid (HC.out _ bx2 ((Below.heap_alloc _ _ _ (Array.getElem?_eq_some_iff.1 hz2).1).trans hz2)); clear b2 hz2 bx2)
    | (go_at_call 25; refine HC2.out.mono ?_; rintro e w5 ⟨rfl, hz5, h5⟩; have H5 := Lib.hid h5; obtain ⟨z0, z1, z2, z3, z4, zf⟩ := zbox hz5; clear h5 hz5)
    | fail)
  refine bodyPost_ret (v := .tuple #[.agg #[.int .i64 x.1.1, .int .i64 x.1.2.1, .int .i64 x.1.2.2, .int .i64 x.2.1, .int .i64 x.2.2], .int .i64 0]) (by simp [results, Tryz.f16, go_sem, z0, z1, z2, z3, z4]) rfl ⟨rfl, H5.out⟩
set_option maxRecDepth 100000 in
set_option maxHeartbeats 4000000 in
theorem takeQ_no {w : World} {q : Nat} {G : Nat → Prop} {cap U : Nat} (h : QA w q G cap U []) :
    Calls Tryz.prog 16 #[.pointer (some ⟨q, 0, none⟩)] w fun e w' => e = .returned (.tuple #[.agg #[.int .i64 0, .int .i64 0, .int .i64 0, .int .i64 0, .int .i64 0], .int .i64 6]) ∧ QStep w w' q G cap U [] := by
  have h0 := h.below (below_z w)
  have HL := Lib.hid (leastQ_no h0)
  have HZ := Lib.hid (below_z w)
  have HC := Lib.hid (show ∀ W3, Below w.heap.size w W3 → W3.heap[w.heap.size]? = some (.cells #[.int .i64 0, .int .i64 0, .int .i64 0, .int .i64 0, .int .i64 0] 33 (0, 0)) → Calls Tryz.prog 25 #[.pointer (some ⟨q, 0, none⟩), .int .i64 0, .int .i64 0] W3 fun e w' => e = .returned (.tuple #[.agg #[.int .i64 0, .int .i64 0, .int .i64 0, .int .i64 0, .int .i64 0], .int .i64 6]) ∧ w'.heap[w.heap.size]? = some (.cells #[.int .i64 0, .int .i64 0, .int .i64 0, .int .i64 0, .int .i64 0] 33 (0, 0)) ∧ QStep w (World.setV w' w.heap.size 0 ((0, 0, 0), 0, 0)) q G cap U [] from fun W3 hb hz => (cancelQ_no (h.below hb) (s := 0) (n := 0) (by simp) (by decide) (by decide)).mono (by
    rintro e w' ⟨rfl, h1⟩
    obtain ⟨h2, h3⟩ := QStep.box hb hz h.lt h1
    exact ⟨rfl, h2, h3 _⟩))
  clear h h0
  go_enter Tryz.func16, Tryz.ntmps16
  go_wp2_with (first
    | (go_at_call 15; refine HL.out.mono ?_; rintro e w2 ⟨rfl, b2⟩; have B2 := Lib.hid (HZ.out.trans (b2.mono HZ.out.size)); have hz2 : w2.heap[w.heap.size]? = some (.cells #[.int .i64 0, .int .i64 0, .int .i64 0, .int .i64 0, .int .i64 0] 33 (0, 0)) := (b2.block _ (by simp)).trans (World.alloc_heap_new w _); have bx2 := B2.out.alloc B2.out.size (.cells #[.int .i64 0, .int .i64 0, .int .i64 0, .int .i64 0, .int .i64 0] 33); have HC2 := Lib.hid (HC.out _ bx2 ((Below.heap_alloc _ _ _ (Array.getElem?_eq_some_iff.1 hz2).1).trans hz2)); clear b2 hz2 bx2)
    | (go_at_call 25; refine HC2.out.mono ?_; rintro e w5 ⟨rfl, hz5, h5⟩; have H5 := Lib.hid h5; obtain ⟨z0, z1, z2, z3, z4, zf⟩ := zbox hz5; clear h5 hz5)
    | fail)
  refine bodyPost_ret (v := .tuple #[.agg #[.int .i64 0, .int .i64 0, .int .i64 0, .int .i64 0, .int .i64 0], .int .i64 6]) (by simp [results, Tryz.f16, go_sem, z0, z1, z2, z3, z4]) rfl ⟨rfl, H5.out⟩
end Go.Proofs.YtcjkeobjojmpfaaGreat
end
