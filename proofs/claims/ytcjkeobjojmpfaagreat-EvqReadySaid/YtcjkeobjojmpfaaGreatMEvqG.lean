import Derived.Test.YtcjkeobjojmpfaaGreatMEvqD
import Derived.Test.YtcjkeobjojmpfaaGreatMHeapK
import Derived.Test.YtcjkeobjojmpfaaGreatMSlotsD
section
/-
  CONTRACT of evq's New.
-/
namespace Go.Proofs.YtcjkeobjojmpfaaGreat
open Go.RowKit Go.Shelf

theorem make_evs (n : Nat) (hn : n ≤ 1024) (w : World) : ∃ w', (Instr.makeSlice 24 (.int .i64 (n : Int)) (.int .i64 (n : Int))).run Tryz.prog w = .ok (.slice (some ⟨w.heap.size, 0, none⟩) n n) w' ∧ VP w' w.heap.size n (fun _ => ((0, 0, 0), 0, 0)) ∧ Below w.heap.size w w' := by
  obtain ⟨i0, hi, hz0, hz1, hz2⟩ := info_parts info_ev
  obtain ⟨w', hr, h2, h3⟩ := run_make_full (P := Tryz.prog) w w.heap.size 24 33 i0 _ 5 Tryz.underlying24 hi hz0 hz1 .i64 .i64 n (by rw [hz2]; omega) (by unfold maxLen; omega) (Nat.le_refl _)
  refine ⟨w', hr, ?_, ⟨h3.os, h3.tape, h3.output, h3.size, fun k hk => h3.block k hk (by simp)⟩⟩
  obtain ⟨_, ⟨e, _⟩ | ⟨g, cap, cur, e, _, hg, hn2, hm, hs, ht⟩⟩ := h2
  · cases e
  · cases e
    refine ⟨⟨cur, hg, hs⟩, fun p hp => ?_⟩
    have cc : ∀ j, j < n * 5 → w'.cell? ⟨w.heap.size, j, none⟩ = some (.int .i64 0) := fun j hj => by
      have h1 : w'.cell? ⟨w.heap.size, j, none⟩ = cur[j]? := by simp [World.cell?, hg]
      have h4 : (cur.toList.take (n * 5))[j]? = (madeCells #[Value.int .i64 0, .int .i64 0, .int .i64 0, .int .i64 0, .int .i64 0] (n * 5)).toList[j]? := by rw [ht]; rfl
      have h5 : (madeCells #[Value.int .i64 0, .int .i64 0, .int .i64 0, .int .i64 0, .int .i64 0] (n * 5))[j]? = some (.int .i64 0) := by
        unfold madeCells
        rw [Array.getElem?_map, Array.getElem?_range, if_pos hj]
        have h6 : j % 5 = 0 ∨ j % 5 = 1 ∨ j % 5 = 2 ∨ j % 5 = 3 ∨ j % 5 = 4 := by omega
        show some (#[Value.int .i64 0, .int .i64 0, .int .i64 0, .int .i64 0, .int .i64 0][j % 5]!) = _
        rcases h6 with e | e | e | e | e <;> rw [e] <;> rfl
      rw [List.getElem?_take_of_lt hj, Array.getElem?_toList, Array.getElem?_toList, h5] at h4
      rw [h1, h4]
    unfold VAt
    rw [cc _ (by omega), cc _ (by omega), cc _ (by omega), cc _ (by omega), cc _ (by omega)]
    exact ⟨rfl, rfl, rfl, rfl, rfl⟩
/-- A new queue. -/
structure QNew (w w' : World) (q cap U : Nat) (L : List Ev) : Prop where
  ex : ∃ G, QA w' q G cap U L ∧ Below w.heap.size w w' ∧ ∀ k, G k → w.heap.size ≤ k
set_option maxRecDepth 100000 in
set_option maxHeartbeats 4000000 in
theorem newQ_ok (n : Nat) (hn : n ≤ 256) (w : World) :
    Calls Tryz.prog 34 #[.int .i64 (n : Int)] w fun e w' => ∃ q, e = .returned (.tuple #[.pointer (some ⟨q, 0, none⟩), .int .i64 0]) ∧ QNew w w' q n 0 [] := by
  have HH := Lib.hid (new_ok n (by omega) w)
  have HS := Lib.hid (fun W => Sl.new_calls n 4294967296 (by omega) (by omega) (by omega) W)
  have HE := Lib.hid (fun W => make_evs n (by omega) W)
  have hn1 : ¬ (n : Int) < 0 := by omega
  have hn2 : ¬ (n : Int) > 256 := by omega
  have HN := Lib.hid hn
  clear hn
  go_enter Tryz.func34, Tryz.ntmps34
  go_wp2_with (first
    | (go_at_call 56; refine HH.out.mono ?_; rintro e w2 ⟨hq, rfl, h1⟩; have H1 := Lib.hid h1; clear h1)
    | (go_at_call 57; refine (HS.out _).mono ?_; rintro e w3 ⟨sq, sg, rfl, h2, h3, h4, h5⟩; have H2 := Lib.hid h2; have H3 := Lib.hid h3; have H4 := Lib.hid (And.intro h4 h5); obtain ⟨w4, hmk, h6, h7⟩ := HE.out w3; have H6 := Lib.hid h6; have H7 := Lib.hid h7; have hmm := run_makeMap (P := Tryz.prog) 86 w4; clear h2 h3 h4 h5 h6 h7)
    | fail)
  go_ret2
  obtain ⟨F, hA, hB, hF⟩ := H1.out.ex
  obtain ⟨hsq, hsg⟩ := H4.out
  have hT := H2.out
  have hlt := hT.lt
  have b2 := H3.out
  have b3 := H7.out
  have hV := H6.out
  have s1 := hB.size
  have s2 := b2.size
  have s3 := b3.size
  have hFl : ∀ k, F k → k < w2.heap.size := hA.lt
  have hVl := hV.lt
  have hls : lsQ n (fun _ => ((0, 0, 0), 0, 0)) (fun _ => none) = [] := by
    cases hl : lsQ n (fun _ => ((0, 0, 0), 0, 0)) (fun _ => none) with
    | nil => rfl
    | cons x l =>
      obtain ⟨p, _, h2, _⟩ := ((QS.new n (fun _ => ((0, 0, 0), 0, 0))).mem x).1 (by rw [hl]; simp)
      simp [newT] at h2
  have ba : Below w4.heap.size w4 ((w4.alloc (.map #[] 0)).alloc (ownQ w3.heap.size n hq sq w4.heap.size)) := ((Below.refl _ w4).alloc (Nat.le_refl _) _).alloc (by simp) _
  have bt : Below w3.heap.size w3 ((w4.alloc (.map #[] 0)).alloc (ownQ w3.heap.size n hq sq w4.heap.size)) := b3.trans (ba.mono s3)
  have bh : Below w2.heap.size w2 ((w4.alloc (.map #[] 0)).alloc (ownQ w3.heap.size n hq sq w4.heap.size)) := b2.trans (bt.mono s2)
  refine ⟨_, rfl, QFoot (w4.heap.size + 1) ⟨w3.heap.size, hq, sq, sg, w4.heap.size, F⟩, ⟨⟨⟨w3.heap.size, hq, sq, sg, w4.heap.size, F⟩, fun _ => ((0, 0, 0), 0, 0), fun _ => none, newT n, fun _ _ => none, ⟨?_, hV.keep (ba.block _ hVl), hA.below bh, hT.below bt, ?_, QS.new n _, ?_, ?_, HN.out⟩, hls.symm, fun _ => Iff.rfl⟩⟩, hB.trans (bh.mono s1), ?_⟩
  · have := World.alloc_heap_new (w4.alloc (.map #[] 0)) (ownQ w3.heap.size n hq sq w4.heap.size)
    rw [World.size_alloc] at this
    exact this
  · rw [hls]
    exact (NM.new w4).keep (Below.heap_alloc _ _ _ (by simp))
  · simp only
    omega
  · intro k hk
    have := hFl k hk
    simp only
    omega
  · rintro k (rfl | rfl | rfl | rfl | rfl | e)
    · omega
    · first | omega | (simp only; omega)
    · first | omega | (simp only; omega)
    · first | omega | (simp only; omega)
    · first | omega | (simp only; omega)
    · exact hF k e
end Go.Proofs.YtcjkeobjojmpfaaGreat
end

section
/-
  HOW A QUEUE STANDS while an event is put in, or cut out: its parts, the event's box, the reference's box.
-/
namespace Go.Proofs.YtcjkeobjojmpfaaGreat
open Go.RowKit Go.Shelf

structure AdAt (G0 : Nat → Prop) (w : World) (q bx br : Nat) (x : Ev) (i l : Int) (cap : Nat) (W : World) (p : Qp) (ev : Nat → Ev) (M : Mp) (S : Tb) (n : Nat) (f : Int → Int → Option (Nat × Nat)) : Prop where
  own : W.heap[q]? = some (ownQ p.g cap p.hq p.sq p.mb)
  row : VP W p.g cap ev
  hp : HA W p.hq p.F cap M
  tab : Sl.TA W p.sq p.sg cap 4294967296 S
  nam : NM W p.mb n f
  box : VB W bx x
  ref : W.heap[br]? = some (.cells #[.int .i64 i, .int .i64 l] 94 (0, 0))
  ne : q ≠ p.g ∧ q ≠ p.sq ∧ q ≠ p.sg ∧ q ≠ p.mb ∧ p.g ≠ p.sq ∧ p.g ≠ p.sg ∧ p.g ≠ p.mb ∧ p.sq ≠ p.mb ∧ p.sg ≠ p.mb
  nb : bx ≠ q ∧ bx ≠ p.g ∧ bx ≠ p.sq ∧ bx ≠ p.sg ∧ bx ≠ p.mb ∧ br ≠ q ∧ br ≠ p.g ∧ br ≠ p.sq ∧ br ≠ p.sg ∧ br ≠ p.mb
  nF : ∀ k, p.F k → k ≠ q ∧ k ≠ p.g ∧ k ≠ p.sq ∧ k ≠ p.sg ∧ k ≠ p.mb ∧ k ≠ bx ∧ k ≠ br
  off : Off G0 w W
  foot : ∀ k, QFoot q p k → G0 k ∨ w.heap.size ≤ k
section
variable {G0 : Nat → Prop} {w : World} {q bx br : Nat} {x : Ev} {i l : Int} {cap : Nat} {W W' : World} {p : Qp} {ev : Nat → Ev} {M : Mp} {S : Tb} {n : Nat} {f : Int → Int → Option (Nat × Nat)}
theorem AdAt.refs (h : AdAt G0 w q bx br x i l cap W p ev M S n f) : W.cell? ⟨br, 0, none⟩ = some (.int .i64 i) ∧ W.cell? ⟨br, 1, none⟩ = some (.int .i64 l) := ⟨by simp [World.cell?, h.ref], by simp [World.cell?, h.ref]⟩
/-- What turns none of its blocks. -/
theorem AdAt.keep (h : AdAt G0 w q bx br x i l cap W p ev M S n f) (e : ∀ k, QFoot q p k ∨ k = bx ∨ k = br → W'.heap[k]? = W.heap[k]?) (ho : Off G0 w W') : AdAt G0 w q bx br x i l cap W' p ev M S n f :=
  ⟨(e q (.inl (.inl rfl))).trans h.own, h.row.keep (e _ (.inl (.inr (.inl rfl)))), h.hp.keep fun k hk => e k (.inl (.inr (.inr (.inr (.inr (.inr hk)))))), by
    obtain ⟨nx, r, ht⟩ := h.tab.ex
    exact ⟨nx, r, ht.keep (e _ (.inl (.inr (.inr (.inl rfl))))) (e _ (.inl (.inr (.inr (.inr (.inl rfl))))))⟩, h.nam.keep (e _ (.inl (.inr (.inr (.inr (.inr (.inl rfl))))))), (e bx (.inr (.inl rfl))).trans h.box, (e br (.inr (.inr rfl))).trans h.ref, h.ne, h.nb, h.nF, ho, h.foot⟩
theorem AdAt.lt (h : AdAt G0 w q bx br x i l cap W p ev M S n f) : ∀ k, QFoot q p k ∨ k = bx ∨ k = br → k < W.heap.size := by
  rintro k ((rfl | rfl | rfl | rfl | rfl | e) | rfl | rfl)
  · exact (Array.getElem?_eq_some_iff.1 h.own).1
  · exact h.row.lt
  · exact h.tab.lt.1
  · exact h.tab.lt.2
  · exact h.nam.lt
  · exact h.hp.lt k e
  · exact h.box.lt
  · exact (Array.getElem?_eq_some_iff.1 h.ref).1
theorem AdAt.below (h : AdAt G0 w q bx br x i l cap W p ev M S n f) (hb : Below W.heap.size W W') : AdAt G0 w q bx br x i l cap W' p ev M S n f :=
  h.keep (fun k hk => hb.block k (h.lt k hk)) (h.off.to (Off.of_below hb))
theorem AdAt.drewN (h : AdAt G0 w q bx br x i l cap W p ev M S n f) (m : Nat) : AdAt G0 w q bx br x i l cap (W.drewN m) p ev M S n f :=
  h.keep (fun _ _ => rfl) ⟨h.off.os, h.off.tape, h.off.output, h.off.size, h.off.block⟩
theorem AdAt.drew (h : AdAt G0 w q bx br x i l cap W p ev M S n f) : AdAt G0 w q bx br x i l cap W.drew p ev M S n f :=
  h.keep (fun _ _ => rfl) ⟨h.off.os, h.off.tape, h.off.output, h.off.size, h.off.block⟩
/-- A block outside turned. -/
theorem foot_ge {k : Nat} (h : AdAt G0 w q bx br x i l cap W p ev M S n f) (hk : QFoot q p k) : G0 k ∨ w.heap.size ≤ k := h.foot k hk
theorem setV_heap (W : World) (g j k : Nat) (y : Ev) (h : k ≠ g) : (World.setV W g j y).heap[k]? = W.heap[k]? := by
  unfold World.setV
  rw [heap_setO _ _ _ h, heap_setO _ _ _ h, heap_setO _ _ _ h, heap_setO _ _ _ h, heap_setO _ _ _ h]
/-- The event stored at its place. -/
theorem AdAt.event (h : AdAt G0 w q bx br x i l cap W p ev M S n f) {k : Nat} (hk : k < cap) (y : Ev) : AdAt G0 w q bx br x i l cap (World.setV W p.g (k * 5) y) p (setV ev k y) M S n f := by
  obtain ⟨n1, n2, n3, n4, n5, n6, n7, n8, n9⟩ := h.ne
  obtain ⟨b1, b2, b3, b4, b5, r1, r2, r3, r4, r5⟩ := h.nb
  refine ⟨(setV_heap _ _ _ _ _ n1).trans h.own, h.row.set hk y, h.hp.keep fun j hj => setV_heap _ _ _ _ _ (h.nF j hj).2.1, ?_, h.nam.keep (setV_heap _ _ _ _ _ (Ne.symm n7)), (setV_heap _ _ _ _ _ b2).trans h.box, (setV_heap _ _ _ _ _ r2).trans h.ref, h.ne, h.nb, h.nF, h.off.setV (h.foot _ (.inr (.inl rfl))) _ _, h.foot⟩
  obtain ⟨nx, r, ht⟩ := h.tab.ex
  exact ⟨nx, r, ht.keep (setV_heap _ _ _ _ _ (Ne.symm n5)) (setV_heap _ _ _ _ _ (Ne.symm n6))⟩
/-- The heap changed. -/
theorem AdAt.heap (h : AdAt G0 w q bx br x i l cap W p ev M S n f) {M' : Mp} (hs : HStep W W' p.hq p.F cap M') : ∃ p', p' = { p with F := p'.F } ∧ AdAt G0 w q bx br x i l cap W' p' ev M' S n f := by
  obtain ⟨F', hA, ho, hF⟩ := hs.ex
  have e : ∀ k, (QFoot q p k ∧ ¬ p.F k) ∨ k = bx ∨ k = br → W'.heap[k]? = W.heap[k]? := by
    rintro k (⟨hk, hn⟩ | rfl | rfl)
    · exact ho.block k (h.lt k (.inl hk)) hn
    · exact ho.block _ (h.lt _ (.inr (.inl rfl))) fun c => (h.nF _ c).2.2.2.2.2.1 rfl
    · exact ho.block _ (h.lt _ (.inr (.inr rfl))) fun c => (h.nF _ c).2.2.2.2.2.2 rfl
  have hlt := h.lt
  refine ⟨{ p with F := F' }, rfl, ⟨(e q (.inl ⟨.inl rfl, fun c => (h.nF _ c).1 rfl⟩)).trans h.own, h.row.keep (e _ (.inl ⟨.inr (.inl rfl), fun c => (h.nF _ c).2.1 rfl⟩)), hA, ?_, h.nam.keep (e _ (.inl ⟨.inr (.inr (.inr (.inr (.inl rfl)))), fun c => (h.nF _ c).2.2.2.2.1 rfl⟩)), (e bx (.inr (.inl rfl))).trans h.box, (e br (.inr (.inr rfl))).trans h.ref, h.ne, h.nb, ?_, ?_, ?_⟩⟩
  · obtain ⟨nx, r, ht⟩ := h.tab.ex
    exact ⟨nx, r, ht.keep (e _ (.inl ⟨.inr (.inr (.inl rfl)), fun c => (h.nF _ c).2.2.1 rfl⟩)) (e _ (.inl ⟨.inr (.inr (.inr (.inl rfl))), fun c => (h.nF _ c).2.2.2.1 rfl⟩))⟩
  · intro k hk
    rcases hF k hk with c | c
    · exact h.nF k c
    · have l1 := hlt q (.inl (.inl rfl)); have l2 := hlt p.g (.inl (.inr (.inl rfl))); have l3 := hlt p.sq (.inl (.inr (.inr (.inl rfl)))); have l4 := hlt p.sg (.inl (.inr (.inr (.inr (.inl rfl))))); have l5 := hlt p.mb (.inl (.inr (.inr (.inr (.inr (.inl rfl)))))); have l6 := hlt bx (.inr (.inl rfl)); have l7 := hlt br (.inr (.inr rfl))
      refine ⟨?_, ?_, ?_, ?_, ?_, ?_, ?_⟩ <;> (try simp only) <;> omega
  · refine h.off.trans ho fun j hj hG => ?_
    rcases h.foot j (.inr (.inr (.inr (.inr (.inr hG))))) with c | c
    · exact c
    · omega
  · rintro k (c | c | c | c | c | c)
    · exact h.foot k (.inl c)
    · exact h.foot k (.inr (.inl c))
    · exact h.foot k (.inr (.inr (.inl c)))
    · exact h.foot k (.inr (.inr (.inr (.inl c))))
    · exact h.foot k (.inr (.inr (.inr (.inr (.inl c)))))
    · rcases hF k c with d | d
      · exact h.foot k (.inr (.inr (.inr (.inr (.inr d)))))
      · exact .inr (Nat.le_trans h.off.size d)
/-- The table changed. -/
theorem AdAt.table (h : AdAt G0 w q bx br x i l cap W p ev M S n f) {S' : Tb} (hs : Sl.TStep W W' p.sq p.sg cap 4294967296 S') : AdAt G0 w q bx br x i l cap W' p ev M S' n f := by
  obtain ⟨n1, n2, n3, n4, n5, n6, n7, n8, n9⟩ := h.ne
  obtain ⟨b1, b2, b3, b4, b5, r1, r2, r3, r4, r5⟩ := h.nb
  have e : ∀ k, k < W.heap.size → k ≠ p.sq → k ≠ p.sg → W'.heap[k]? = W.heap[k]? := fun k hk h1 h2 => hs.off.block k hk (by rintro (c | c); exact h1 c; exact h2 c)
  have hlt := h.lt
  refine ⟨(e q (hlt _ (.inl (.inl rfl))) n2 n3).trans h.own, h.row.keep (e _ (hlt _ (.inl (.inr (.inl rfl)))) n5 n6), h.hp.keep fun k hk => e k (hlt _ (.inl (.inr (.inr (.inr (.inr (.inr hk))))))) (h.nF k hk).2.2.1 (h.nF k hk).2.2.2.1, hs.there, h.nam.keep (e _ (hlt _ (.inl (.inr (.inr (.inr (.inr (.inl rfl))))))) (Ne.symm n8) (Ne.symm n9)), (e _ (hlt _ (.inr (.inl rfl))) b3 b4).trans h.box, (e _ (hlt _ (.inr (.inr rfl))) r3 r4).trans h.ref, h.ne, h.nb, h.nF, h.off.trans hs.off fun j hj hG => ?_, h.foot⟩
  rcases hG with rfl | rfl
  · rcases h.foot _ (.inr (.inr (.inl rfl))) with c | c
    · exact c
    · omega
  · rcases h.foot _ (.inr (.inr (.inr (.inl rfl)))) with c | c
    · exact c
    · omega
/-- The names changed. -/
theorem AdAt.names (h : AdAt G0 w q bx br x i l cap W p ev M S n f) {n' : Nat} {f' : Int → Int → Option (Nat × Nat)} (hN : NM W' p.mb n' f') (hg : W.grownBy W' (some p.mb)) : AdAt G0 w q bx br x i l cap W' p ev M S n' f' := by
  obtain ⟨n1, n2, n3, n4, n5, n6, n7, n8, n9⟩ := h.ne
  obtain ⟨b1, b2, b3, b4, b5, r1, r2, r3, r4, r5⟩ := h.nb
  have e : ∀ k, k < W.heap.size → k ≠ p.mb → W'.heap[k]? = W.heap[k]? := fun k hk h1 => hg.block k hk (fun c => h1 (by cases c; rfl))
  have hlt := h.lt
  refine ⟨(e q (hlt _ (.inl (.inl rfl))) n4).trans h.own, h.row.keep (e _ (hlt _ (.inl (.inr (.inl rfl)))) n7), h.hp.keep fun k hk => e k (hlt _ (.inl (.inr (.inr (.inr (.inr (.inr hk))))))) (h.nF k hk).2.2.2.2.1, ?_, hN, (e _ (hlt _ (.inr (.inl rfl))) b5).trans h.box, (e _ (hlt _ (.inr (.inr rfl))) r5).trans h.ref, h.ne, h.nb, h.nF, h.off.trans (Off.of_grown (F := fun k => k = p.mb) hg fun k hk => by cases hk; rfl) fun j hj hG => ?_, h.foot⟩
  · obtain ⟨nx, r, ht⟩ := h.tab.ex
    exact ⟨nx, r, ht.keep (e _ (hlt _ (.inl (.inr (.inr (.inl rfl))))) n8) (e _ (hlt _ (.inl (.inr (.inr (.inr (.inl rfl)))))) n9)⟩
  · rcases h.foot j (.inr (.inr (.inr (.inr (.inl hG))))) with c | c
    · exact c
    · omega
theorem AdAt.of_qb {U : Nat} (hb : QB W q p cap U ev M S f) (hx : VB W bx x) (hbx : ∀ k, QFoot q p k → k ≠ bx) (hbr : ∀ k, QFoot q p k → k ≠ br) (ref : W.heap[br]? = some (.cells #[.int .i64 i, .int .i64 l] 94 (0, 0))) (off : Off G0 w W) (foot : ∀ k, QFoot q p k → G0 k ∨ w.heap.size ≤ k) :
    AdAt G0 w q bx br x i l cap W p ev M S (lsQ cap ev M).length f :=
  ⟨hb.own, hb.row, hb.hp, hb.tab, hb.nam, hx, ref, hb.ne, ⟨Ne.symm (hbx _ (.inl rfl)), Ne.symm (hbx _ (.inr (.inl rfl))), Ne.symm (hbx _ (.inr (.inr (.inl rfl)))), Ne.symm (hbx _ (.inr (.inr (.inr (.inl rfl))))), Ne.symm (hbx _ (.inr (.inr (.inr (.inr (.inl rfl)))))), Ne.symm (hbr _ (.inl rfl)), Ne.symm (hbr _ (.inr (.inl rfl))), Ne.symm (hbr _ (.inr (.inr (.inl rfl)))), Ne.symm (hbr _ (.inr (.inr (.inr (.inl rfl))))), Ne.symm (hbr _ (.inr (.inr (.inr (.inr (.inl rfl))))))⟩, fun k hk => ⟨(hb.nF k hk).1, (hb.nF k hk).2.1, (hb.nF k hk).2.2.1, (hb.nF k hk).2.2.2.1, (hb.nF k hk).2.2.2.2, hbx k (.inr (.inr (.inr (.inr (.inr hk))))), hbr k (.inr (.inr (.inr (.inr (.inr hk)))))⟩, off, foot⟩
/-- A queue again. -/
theorem AdAt.queue (h : AdAt G0 w q bx br x i l cap W p ev M S n f) {U : Nat} (hs : QS cap U ev M S f) (hn : n = (lsQ cap ev M).length) (hc : cap ≤ 256) : QStep w W q G0 cap U (lsQ cap ev M) := by
  subst hn
  exact ⟨QFoot q p, ⟨p, ev, M, S, f, ⟨h.own, h.row, h.hp, h.tab, h.nam, hs, h.ne, fun k hk => ⟨(h.nF k hk).1, (h.nF k hk).2.1, (h.nF k hk).2.2.1, (h.nF k hk).2.2.2.1, (h.nF k hk).2.2.2.2.1⟩, hc⟩, rfl, fun _ => Iff.rfl⟩, h.off, h.foot⟩
end
end Go.Proofs.YtcjkeobjojmpfaaGreat
end

section
/-
  CONTRACT of evq's add.
-/
namespace Go.Proofs.YtcjkeobjojmpfaaGreat
open Go.RowKit Go.Shelf

set_option maxRecDepth 100000 in
set_option maxHeartbeats 4000000 in
theorem addQ_calls {w : World} {q : Nat} {G : Nat → Prop} {cap U : Nat} {L : List Ev} (h : QA w q G cap U L) (x : Ev) (hx : RightV x) (hn : ∀ y ∈ L, nmV y ≠ nmV x) (hl : L.length < cap) (hU : U < 4294967296) :
    Calls Tryz.prog 45 #[.pointer (some ⟨q, 0, none⟩), vV x] w fun e w' => (∃ v, e = .returned v) ∧ QStep w w' q G cap (U + 1) (insV x L) := by
  have hB0 : Below w.heap.size w (w.alloc (.cells #[.int .i64 x.1.1, .int .i64 x.1.2.1, .int .i64 x.1.2.2, .int .i64 x.2.1, .int .i64 x.2.2] 33)) := (Below.refl _ w).alloc (Nat.le_refl _) _
  obtain ⟨p, ev, M, S, f, hb0, rfl, hG⟩ := h.ex
  have hb := hb0.below hB0
  have HLt := Lib.hid hb0.lt
  obtain ⟨i, r, hfr⟩ := hb.st.room hU hl
  have HI := Lib.hid (hb.st.ok.head hfr).1
  have HFr := Lib.hid hfr
  have HG := Lib.hid hG
  have HB0 := Lib.hid hB0
  have HT := Lib.hid (Sl.take_yes hb.tab hfr)
  obtain ⟨c0, c1, c2, c3, -, -⟩ := ownQ_cells hb.own
  have HQ := Lib.hid hb
  unfold vV
  clear hB0 hb0 h hG hb hfr
  go_enter Tryz.func45, Tryz.ntmps45
  go_wp2_with (first
    | (go_at_call 63; refine HT.out.mono ?_; rintro e w1 ⟨rfl, t1⟩; have T1 := Lib.hid t1; clear t1)
    | fail)
  have h0 : AdAt G w q w.heap.size w1.heap.size x (i : Int) ((S.life i : Int) + 1) cap (w1.alloc (.cells #[.int .i64 (i : Int), .int .i64 ((S.life i : Int) + 1)] 94)) p ev M (takeT S i r) (lsQ cap ev M).length f := by
    have hq := HQ.out
    have ht := T1.out
    have hs := ht.off.size
    simp only [World.size_alloc] at hs
    have hlt0 := HLt.out
    have n0 := hq.ne
    have e : ∀ k, k < w.heap.size + 1 → k ≠ p.sq → k ≠ p.sg → (w1.alloc (.cells #[.int .i64 (i : Int), .int .i64 ((S.life i : Int) + 1)] 94)).heap[k]? = (w.alloc (.cells #[.int .i64 x.1.1, .int .i64 x.1.2.1, .int .i64 x.1.2.2, .int .i64 x.2.1, .int .i64 x.2.2] 33)).heap[k]? := fun k hk h1 h2 => (Below.heap_alloc _ _ _ (by omega)).trans (ht.off.block k (by simpa using hk) (by rintro (c | c); exact h1 c; exact h2 c))
    obtain ⟨n1, n2, n3, n4, n5, n6, n7, n8, n9⟩ := n0
    have lq := hlt0 q (.inl rfl); have lg := hlt0 p.g (.inr (.inl rfl)); have ls := hlt0 p.sq (.inr (.inr (.inl rfl))); have lsg := hlt0 p.sg (.inr (.inr (.inr (.inl rfl)))); have lm := hlt0 p.mb (.inr (.inr (.inr (.inr (.inl rfl)))))
    have lF : ∀ k, p.F k → k < w.heap.size := fun k hk => hlt0 k (.inr (.inr (.inr (.inr (.inr hk)))))
    refine ⟨(e q (by omega) n2 n3).trans hq.own, hq.row.keep (e _ (by omega) n5 n6), hq.hp.keep fun k hk => e k (by have := lF k hk; omega) (hq.nF k hk).2.2.1 (hq.nF k hk).2.2.2.1, ht.there.below ((Below.refl _ _).alloc (Nat.le_refl _) _), hq.nam.keep (e _ (by omega) (Ne.symm n8) (Ne.symm n9)), (e _ (by omega) (by omega) (by omega)).trans (VB.new w x), World.alloc_heap_new w1 _, hq.ne, ⟨by omega, by omega, by omega, by omega, by omega, by omega, by omega, by omega, by omega, by omega⟩, fun k hk => ?_, ?_, ?_⟩
    · obtain ⟨a1, a2, a3, a4, a5⟩ := hq.nF k hk
      have := lF k hk
      exact ⟨a1, a2, a3, a4, a5, by omega, by omega⟩
    · refine ((Off.of_below (F := G) (HB0.out)).trans ht.off ?_).alloc _
      rintro j hj (rfl | rfl)
      · exact (HG.out _).2 (.inr (.inr (.inl rfl)))
      · exact (HG.out _).2 (.inr (.inr (.inr (.inl rfl))))
    · exact fun k hk => .inl ((HG.out k).2 hk)
  have H0 := Lib.hid h0
  obtain ⟨br, hbr⟩ : ∃ br, w1.heap.size = br := ⟨_, rfl⟩
  rw [hbr] at H0 ⊢
  obtain ⟨W2, hW2⟩ : ∃ W2, w1.alloc (.cells #[.int .i64 (i : Int), .int .i64 ((S.life i : Int) + 1)] 94) = W2 := ⟨_, rfl⟩
  rw [hW2] at H0 ⊢
  have hi1 : i < cap := HI.out
  have hi2 : (i : Int) < (cap : Int) := by omega
  clear hW2 hbr h0 c0 c1 c2 c3 T1
  go_cut [] from 14 to 21 (fun wx => AdAt G w q w.heap.size br x (i : Int) ((S.life i : Int) + 1) cap wx p (setV ev i x) M (takeT S i r) (lsQ cap ev M).length f)
  case first =>
    obtain ⟨c0, -⟩ := ownQ_cells H0.out.own
    obtain ⟨d0, -⟩ := ownQ_cells H0.out.drew.own
    obtain ⟨r0, -⟩ := H0.out.refs
    obtain ⟨s0, -⟩ := H0.out.drew.refs
    obtain ⟨x0, x1, x2, x3, x4, -⟩ := H0.out.box.cells
    obtain ⟨y0, y1, y2, y3, y4, -⟩ := H0.out.drew.box.cells
    have gf := H0.out.row.frozen
    have gfd := H0.out.drew.row.frozen
    obtain ⟨z0, z1, z2, z3, z4⟩ := H0.out.row.cells5 hi1
    obtain ⟨u0, u1, u2, u3, u4⟩ := H0.out.drew.row.cells5 hi1
    go_region_law (fail)
    all_goals
      go_wp2_with fail
      go_meet
      exact (H0.out.event hi1 x).drew
  case rest =>
    have H1 := Lib.hid hcut
    obtain ⟨c0, c1, -, c3, -, -⟩ := ownQ_cells hcut.own
    obtain ⟨r0, r1⟩ := hcut.refs
    obtain ⟨x0, x1, x2, x3, x4, -⟩ := hcut.box.cells
    have HP := Lib.hid (show ∀ W, AdAt G w q w.heap.size br x (i : Int) ((S.life i : Int) + 1) cap W p (setV ev i x) M (takeT S i r) (lsQ cap ev M).length f → Calls Tryz.prog 64 #[.pointer (some ⟨p.hq, 0, none⟩), .int .i64 (i : Int), .agg #[.int .i64 x.1.1, .int .i64 x.1.2.1, .int .i64 x.1.2.2]] W fun e w' => e = .returned (.int .i64 0) ∧ ∃ p', p' = { p with F := p'.F } ∧ AdAt G w q w.heap.size br x (i : Int) ((S.life i : Int) + 1) cap w' p' (setV ev i x) (updM M i (some x.1)) (takeT S i r) (lsQ cap ev M).length f from fun W h => (put_ok h.hp i hi1 (by rw [HQ.out.st.keys i, (HQ.out.st.ok.head HFr.out).2.1]; simp) x.1).mono (by rintro e w' ⟨rfl, h1⟩; exact ⟨rfl, h.heap h1⟩))
    have d := hcut.drew
    obtain ⟨e0, e1, -, e3, -, -⟩ := ownQ_cells hcut.drew.own
    obtain ⟨s0, s1⟩ := hcut.drew.refs
    obtain ⟨y0, y1, y2, y3, y4, -⟩ := hcut.drew.box.cells
    clear H0
    go_upto_region 3 with fail
    go_cut [] from 22 to 30 (fun wx => ∃ p', p' = { p with F := p'.F } ∧ AdAt G w q w.heap.size br x (i : Int) ((S.life i : Int) + 1) cap wx p' (setV ev i x) (updM M i (some x.1)) (takeT S i r) (lsQ cap ev M).length f)
    case first =>
      go_region_law (first
        | (go_simp; go_at_call 64; refine (HP.out _ (by with_reducible assumption)).mono ?_; rintro e w4 ⟨rfl, p4, hp4, a4⟩)
        | fail)
      all_goals
        go_wp2_with fail
        go_meet
        first | exact ⟨p4, hp4, a4⟩ | exact ⟨p4, hp4, a4.drew⟩
    case rest =>
      obtain ⟨p4, -, a4⟩ := hcut
      have hwf : wfI x.1.2.1 ∧ wfI x.1.2.2 := by
        obtain ⟨⟨h1, h2, h3⟩, _⟩ := hx
        exact ⟨wfI_of (by omega), wfI_of (by omega)⟩
      have hfn : f x.1.2.1 x.1.2.2 = none := (HQ.out.st.none_iff _ _).2 fun y hy => hn y hy
      have hln : (lsQ cap ev M).length < maxLen := by have := HQ.out.lim; unfold maxLen; omega
      have HNm := Lib.hid (show ∀ W, AdAt G w q w.heap.size br x (i : Int) ((S.life i : Int) + 1) cap W p4 (setV ev i x) (updM M i (some x.1)) (takeT S i r) (lsQ cap ev M).length f → Calls Tryz.prog 62 #[.agg #[.int .i64 x.1.1, .int .i64 x.1.2.1, .int .i64 x.1.2.2, .int .i64 x.2.1, .int .i64 x.2.2]] W fun e w' => e = .returned (.agg #[.int .i64 x.1.2.1, .int .i64 x.1.2.2]) ∧ AdAt G w q w.heap.size br x (i : Int) ((S.life i : Int) + 1) cap w' p4 (setV ev i x) (updM M i (some x.1)) (takeT S i r) (lsQ cap ev M).length f ∧ (w'.cell? ⟨br, 0, none⟩ = some (.int .i64 (i : Int)) ∧ w'.cell? ⟨br, 1, none⟩ = some (.int .i64 ((S.life i : Int) + 1))) ∧ w'.cell? ⟨q, 3, none⟩ = some (.map (some p4.mb)) ∧ (w'.drew.cell? ⟨br, 0, none⟩ = some (.int .i64 (i : Int)) ∧ w'.drew.cell? ⟨br, 1, none⟩ = some (.int .i64 ((S.life i : Int) + 1))) from fun W h => (nameOf_calls x W).mono (by rintro e w' ⟨rfl, h1⟩; exact ⟨rfl, h.below h1, (h.below h1).refs, (ownQ_cells (h.below h1).own).2.2.2.1, (h.below h1).drew.refs⟩))
      have HFin := Lib.hid (show ∀ W, AdAt G w q w.heap.size br x (i : Int) ((S.life i : Int) + 1) cap W p4 (setV ev i x) (updM M i (some x.1)) (takeT S i r) ((lsQ cap ev M).length + 1) (nmS f x.1.2.1 x.1.2.2 (some (i, S.life i + 1))) → QStep w W q G cap (U + 1) (insV x (lsQ cap ev M)) from fun W h => by
        have e := HQ.out.st.put_ls HFr.out x hx hfn
        have := h.queue (HQ.out.st.put HFr.out x hx hfn) (by rw [e, insV_len]) HQ.out.lim
        rwa [e] at this)
      have d4 := a4.drew
      obtain ⟨-, -, -, f3, -, -⟩ := ownQ_cells a4.own
      obtain ⟨t0, t1⟩ := a4.refs
      obtain ⟨v0, v1, v2, v3, v4, -⟩ := a4.box.cells
      obtain ⟨-, -, -, g3, -, -⟩ := ownQ_cells d4.own
      obtain ⟨o0, o1⟩ := d4.refs
      obtain ⟨m0, m1, m2, m3, m4, -⟩ := d4.box.cells
      clear c0 c1 c3 r0 r1 x0 x1 x2 x3 x4 d e0 e1 e3 s0 s1 y0 y1 y2 y3 y4 H1
      go_upto_region 4 with fail
      go_region_law (first
        | (go_simp; go_at_call 62; refine (HNm.out _ (by with_reducible assumption)).mono ?_; rintro e w5 ⟨rfl, a5, ⟨q0, q1⟩, q3, q4, q5⟩; obtain ⟨w6, hmu, n6, g6⟩ := a5.nam.store hwf.1 hwf.2 hln hfn i (S.life i + 1); have hmu : (Instr.mapUpdate 86 (.map (some p4.mb)) (.agg #[.int .i64 x.1.2.1, .int .i64 x.1.2.2]) (.agg #[.int .i64 (i : Int), .int .i64 ((S.life i : Int) + 1)])).run Tryz.prog w5 = .ok () w6 := hmu; have A6 := Lib.hid (a5.names n6 g6); clear n6 g6)
        | fail)
      all_goals
        go_wp2_with fail
        exact bodyPost_end (results_none rfl _ _ _) rfl ⟨⟨_, rfl⟩, HFin.out _ A6.out⟩
end Go.Proofs.YtcjkeobjojmpfaaGreat
end

section
/-
  CONTRACT of evq's cut.
-/
namespace Go.Proofs.YtcjkeobjojmpfaaGreat
open Go.RowKit Go.Shelf

set_option maxRecDepth 100000 in
set_option maxHeartbeats 4000000 in
theorem cutQ_calls {w : World} {q : Nat} {G : Nat → Prop} {cap U : Nat} {L : List Ev} (h : QA w q G cap U L) (lv : Value) (l : List Ev) (hv : LV w lv l) (hG : ∀ k, lv.ownBlock = some k → ¬ G k) (hl : ∀ x ∈ l, x ∈ L) (hd : DistV l) (hlen : l.length ≤ 256) :
    Calls Tryz.prog 51 #[.pointer (some ⟨q, 0, none⟩), lv] w fun e w' => (∃ v, e = .returned v) ∧ QStep w w' q G cap U (cutsV L l) := by
  obtain ⟨la, lc, rfl, hlc, hle⟩ := hv.shape
  have HV := Lib.hid hv
  have HG := Lib.hid hG
  have HL := Lib.hid hl
  have HD := Lib.hid hd
  have H0 := Lib.hid (QStep.same h (Below.refl w.heap.size w))
  clear hv hG hl hd h
  go_enter Tryz.func51, Tryz.ntmps51
  go_wp2_with fail
  go_loopw [9] (fun jv wr => ∃ k : Nat, k ≤ l.length ∧ jv = .int .i64 (k : Int) ∧ QStep w wr q G cap U (cutsV L (l.take k))) (fun jv _ => l.length - (intOf jv).toNat)
  case atStart => exact ⟨0, Nat.zero_le _, by simp, H0.out⟩
  case round =>
    obtain ⟨k, hk, rfl, hst⟩ := hrel
    have HS := Lib.hid hst
    obtain ⟨G', hq, hoff, hfoot⟩ := hst.ex
    by_cases hlt : k < l.length
    · have e1 : (k : Int) < (l.length : Int) := by omega
      have hxl : vn l k ∈ l := vn_mem hlt
      have hxL : vn l k ∈ cutsV L (l.take k) := (cutsV_mem _ _ _).2 ⟨HL.out _ hxl, fun y hy e => by
        obtain ⟨j, hj, rfl⟩ := List.mem_take_iff_getElem.1 hy
        have hd := List.pairwise_iff_getElem.1 HD.out j k (by omega) hlt (by omega)
        have e2 := vn_get hlt
        rw [List.getElem?_eq_getElem hlt] at e2
        rw [← Option.some.inj e2] at e
        exact hd e.symm⟩
      have hrow : ∃ g, la = some ⟨g, 0, none⟩ ∧ VAt wr g (k * 5) (vn l k) := by
        rcases HV.out with ⟨_, e⟩ | ⟨g, c, e, hr, _⟩
        · rw [e] at hlt; cases hlt
        · simp at e
          refine ⟨g, e.1, ?_⟩
          have hg : ¬ G g := HG.out g (by rw [e.1]; rfl)
          exact (hr.cell k hlt).keep (hoff.block g hr.lt hg)
      obtain ⟨g, rfl, v0, v1, v2, v3, v4⟩ := hrow
      obtain ⟨p, ev, M, S, f, hb, hls, hGp⟩ := hq.ex
      rw [hls] at hxL
      obtain ⟨i, hi, hti, hei⟩ := (hb.st.mem _).1 hxL
      obtain ⟨x, hxe⟩ : ∃ x, vn l k = x := ⟨_, rfl⟩
      rw [hxe] at hei v0 v1 v2 v3 v4 hxl hxL
      have HXe := Lib.hid hxe
      have hrt := hb.st.right i hi hti
      rw [hei] at hrt
      have hwf : wfI x.1.2.1 ∧ wfI x.1.2.2 := by
        obtain ⟨⟨h1, h2, h3⟩, _⟩ := hrt
        exact ⟨wfI_of (by omega), wfI_of (by omega)⟩
      have hf : f x.1.2.1 x.1.2.2 = some (i, S.life i) := (hb.st.names _ _ i _).2 ⟨hi, hti, by rw [hei], rfl⟩
      have HB := Lib.hid (hb.below ((Below.refl wr.heap.size wr).alloc (Nat.le_refl _) (.cells #[.int .i64 x.1.1, .int .i64 x.1.2.1, .int .i64 x.1.2.2, .int .i64 x.2.1, .int .i64 x.2.2] 33)))
      have HF := Lib.hid hf
      have HI := Lib.hid (And.intro hi hti)
      have HE := Lib.hid hei
      have HXL := Lib.hid hxL
      have HLs := Lib.hid hls
      have hltb := Lib.hid hb.lt
      have hOF := Lib.hid (And.intro hoff hfoot)
      have hGP := Lib.hid hGp
      clear hst hq hoff hfoot hxl hxL hb hls hGp hi hti hei hxe hrt hf HS H0
      go_upto_region 3 with fail
      have hVB := VB.new wr x
      have hBa : Below wr.heap.size wr (wr.alloc (.cells #[.int .i64 x.1.1, .int .i64 x.1.2.1, .int .i64 x.1.2.2, .int .i64 x.2.1, .int .i64 x.2.2] 33)) := (Below.refl _ wr).alloc (Nat.le_refl _) _
      have hsz : (wr.alloc (.cells #[.int .i64 x.1.1, .int .i64 x.1.2.1, .int .i64 x.1.2.2, .int .i64 x.2.1, .int .i64 x.2.2] 33)).heap.size = wr.heap.size + 1 := by simp
      obtain ⟨wa, hwa⟩ : ∃ wa, wr.alloc (.cells #[.int .i64 x.1.1, .int .i64 x.1.2.1, .int .i64 x.1.2.2, .int .i64 x.2.1, .int .i64 x.2.2] 33) = wa := ⟨_, rfl⟩
      rw [hwa] at hVB hBa HB hsz ⊢
      have HVB := Lib.hid hVB
      have HBa := Lib.hid hBa
      have HSz := Lib.hid hsz
      have hlkA : ∀ W, Below wa.heap.size wa W → (Instr.lookup 86 (.map (some p.mb)) (.agg #[.int .i64 x.1.2.1, .int .i64 x.1.2.2]) false).run Tryz.prog W = .ok (.agg #[.int .i64 (i : Int), .int .i64 (S.life i : Int)]) W := fun W h => by
        have := (HB.out.below h).nam.at hwf.1 hwf.2
        rw [HF.out] at this
        exact this
      have HNmA := Lib.hid (show Calls Tryz.prog 62 #[.agg #[.int .i64 x.1.1, .int .i64 x.1.2.1, .int .i64 x.1.2.2, .int .i64 x.2.1, .int .i64 x.2.2]] wa.drew fun e w' => e = .returned (.agg #[.int .i64 x.1.2.1, .int .i64 x.1.2.2]) ∧ Below wa.heap.size wa w' ∧ (Instr.lookup 86 (.map (some p.mb)) (.agg #[.int .i64 x.1.2.1, .int .i64 x.1.2.2]) false).run Tryz.prog w' = .ok (.agg #[.int .i64 (i : Int), .int .i64 (S.life i : Int)]) w' ∧ (Instr.lookup 86 (.map (some p.mb)) (.agg #[.int .i64 x.1.2.1, .int .i64 x.1.2.2]) false).run Tryz.prog (w'.alloc (.cells #[.int .i64 0, .int .i64 0] 94)) = .ok (.agg #[.int .i64 (i : Int), .int .i64 (S.life i : Int)]) (w'.alloc (.cells #[.int .i64 0, .int .i64 0] 94)) ∧ w'.cell? ⟨q, 3, none⟩ = some (.map (some p.mb)) ∧ (w'.alloc (.cells #[.int .i64 0, .int .i64 0] 94)).cell? ⟨q, 3, none⟩ = some (.map (some p.mb)) from (nameOf_calls x wa.drew).mono (by
        rintro e w' ⟨rfl, h1⟩
        have hb2 : Below wa.heap.size wa w' := (show Below wa.heap.size wa wa.drew from (Below.refl _ _).drew).trans h1
        exact ⟨rfl, hb2, hlkA _ hb2, hlkA _ (hb2.alloc hb2.size _), (ownQ_cells (HB.out.below hb2).own).2.2.2.1, (ownQ_cells (HB.out.below (hb2.alloc hb2.size _)).own).2.2.2.1⟩))
      have HNmB := Lib.hid (show Calls Tryz.prog 62 #[.agg #[.int .i64 x.1.1, .int .i64 x.1.2.1, .int .i64 x.1.2.2, .int .i64 x.2.1, .int .i64 x.2.2]] (wa.alloc (.cells #[.int .i64 0, .int .i64 0] 94)).drew fun e w' => e = .returned (.agg #[.int .i64 x.1.2.1, .int .i64 x.1.2.2]) ∧ Below wa.heap.size wa w' ∧ w'.heap[wa.heap.size]? = some (.cells #[.int .i64 0, .int .i64 0] 94 (0, 0)) ∧ (Instr.lookup 86 (.map (some p.mb)) (.agg #[.int .i64 x.1.2.1, .int .i64 x.1.2.2]) false).run Tryz.prog w' = .ok (.agg #[.int .i64 (i : Int), .int .i64 (S.life i : Int)]) w' ∧ w'.cell? ⟨q, 3, none⟩ = some (.map (some p.mb)) from (nameOf_calls x _).mono (by
        rintro e w' ⟨rfl, h1⟩
        have hb1 : Below wa.heap.size wa (wa.alloc (.cells #[.int .i64 0, .int .i64 0] 94)).drew := ((Below.refl _ wa).alloc (Nat.le_refl _) _).drew
        have hb2 : Below wa.heap.size wa w' := hb1.trans (h1.mono hb1.size)
        exact ⟨rfl, hb2, (h1.block _ (by show wa.heap.size < (wa.alloc _).heap.size; simp)).trans (World.alloc_heap_new wa _), hlkA _ hb2, (ownQ_cells (HB.out.below hb2).own).2.2.2.1⟩))
      have HFin := Lib.hid (show ∀ W, Below wa.heap.size wa W → AdAt G w q wr.heap.size W.heap.size x (i : Int) (S.life i : Int) cap (W.alloc (.cells #[.int .i64 (i : Int), .int .i64 (S.life i : Int)] 94)) p ev M S (lsQ cap ev M).length f from fun W h => by
        have hs := h.size
        have hz := HSz.out
        have h2 : Below wa.heap.size wa (W.alloc (.cells #[.int .i64 (i : Int), .int .i64 (S.life i : Int)] 94)) := h.alloc hs _
        refine AdAt.of_qb (HB.out.below h2) (HVB.out.below h2) (fun k hk => ?_) (fun k hk => ?_) (World.alloc_heap_new W _) ?_ (fun k hk => ?_)
        · have := hltb.out k hk; omega
        · have := hltb.out k hk; omega
        · exact (hOF.out.1.to (Off.of_below (F := G) HBa.out)).to ((Off.of_below h2))
        · exact hOF.out.2 k ((hGP.out k).2 hk))
      have HFinB := Lib.hid (show ∀ W, Below wa.heap.size wa W → W.heap[wa.heap.size]? = some (.cells #[.int .i64 0, .int .i64 0] 94 (0, 0)) → AdAt G w q wr.heap.size wa.heap.size x (i : Int) (S.life i : Int) cap ((W.setCell ⟨wa.heap.size, 0, none⟩ (.int .i64 (i : Int))).setCell ⟨wa.heap.size, 1, none⟩ (.int .i64 (S.life i : Int))) p ev M S (lsQ cap ev M).length f from fun W h hz0 => by
        have hs := h.size
        have hz := HSz.out
        have e : ∀ k, k ≠ wa.heap.size → ((W.setCell ⟨wa.heap.size, 0, none⟩ (.int .i64 (i : Int))).setCell ⟨wa.heap.size, 1, none⟩ (.int .i64 (S.life i : Int))).heap[k]? = W.heap[k]? := fun k hk => (heap_setO _ _ _ hk).trans (heap_setO _ _ _ hk)
        refine AdAt.of_qb ((HB.out.below h).keep fun k hk => e k (by have := hltb.out k hk; omega)) ((e _ (by omega)).trans (HVB.out.below h)) (fun k hk => ?_) (fun k hk => ?_) ?_ ?_ (fun k hk => ?_)
        · have := hltb.out k hk; omega
        · have := hltb.out k hk; omega
        · have := heap_setC (heap_setC hz0 0 (.int .i64 (i : Int))) 1 (.int .i64 (S.life i : Int))
          simpa using this
        · exact ((((hOF.out.1.to (Off.of_below (F := G) HBa.out)).to ((Off.of_below h))).set (.inr (by have := hOF.out.1.size; omega)) _ _).set (.inr (by have := hOF.out.1.size; omega)) _ _)
        · exact hOF.out.2 k ((hGP.out k).2 hk))
      obtain ⟨-, -, -, c3, -, -⟩ := ownQ_cells HB.out.own
      have ba : Below wa.heap.size wa (wa.alloc (.cells #[.int .i64 0, .int .i64 0] 94)).drew := ((Below.refl _ wa).alloc (Nat.le_refl _) _).drew
      obtain ⟨-, -, -, f3, -, -⟩ := ownQ_cells (HB.out.below ba).own
      obtain ⟨u0, u1, u2, u3, u4, -⟩ := (hVB.below ba).cells
      obtain ⟨-, -, -, d3, -, -⟩ := ownQ_cells (HB.out.below (Below.refl _ wa).drew).own
      obtain ⟨x0, x1, x2, x3, x4, -⟩ := hVB.cells
      obtain ⟨y0, y1, y2, y3, y4, -⟩ := (hVB.below (Below.refl _ wa).drew).cells
      clear ba hlkA hwa hVB hBa hsz v0 v1 v2 v3 v4
      go_cut [6] from 13 to 19 (fun s6 wx => ∃ br, s6 = .pointer (some ⟨br, 0, none⟩) ∧ AdAt G w q wr.heap.size br x (i : Int) (S.life i : Int) cap wx p ev M S (lsQ cap ev M).length f)
      case first =>
        go_region_law (first
          | (go_simp; go_at_call 62; with_reducible refine (HNmA.out).mono ?_; rintro e w5 ⟨rfl, b5, hlk, hlk2, g3, g4⟩)
          | (go_simp; go_at_call 62; with_reducible refine (HNmB.out).mono ?_; rintro e w5 ⟨rfl, b5, hz5, hlk, g3⟩; have r0 : w5.cell? ⟨wa.heap.size, 0, none⟩ = some (.int .i64 0) := (by simp [World.cell?, hz5]); have r1 : w5.cell? ⟨wa.heap.size, 1, none⟩ = some (.int .i64 0) := (by simp [World.cell?, hz5]); have rf : ∀ j, w5.frozen? ⟨wa.heap.size, j, none⟩ = false := (fun j => by simp [World.frozen?, hz5]))
          | fail)
        all_goals
          go_wp2_with fail
          go_meet
          first | exact ⟨_, rfl, HFin.out _ b5⟩ | exact ⟨_, rfl, HFinB.out _ b5 hz5⟩
      case rest =>
        obtain ⟨br, rfl, a1⟩ := hcut
        obtain ⟨n, hn⟩ : ∃ n, (lsQ cap ev M).length = n + 1 := ⟨(lsQ cap ev M).length - 1, by have := List.length_pos_of_mem HXL.out; omega⟩
        have HN := Lib.hid hn
        rw [hn] at a1
        clear hn c3 f3 u0 u1 u2 u3 u4 d3 x0 x1 x2 x3 x4 y0 y1 y2 y3 y4 HNmA HNmB HFin HFinB
        have HFin := Lib.hid (show ∀ W p2, AdAt G w q wr.heap.size br x (i : Int) (S.life i : Int) cap W p2 ev (updM M i none) (giveT 4294967296 S i) n (nmS f x.1.2.1 x.1.2.2 none) → QStep w W q G cap U (cutsV L (l.take (k + 1))) from fun W p2 h => by
          have e := HB.out.st.cut_ls HI.out.1 HI.out.2
          rw [HE.out] at e
          have hs := HB.out.st.cut HI.out.1 HI.out.2
          rw [HE.out] at hs
          have := h.queue hs (by rw [e]; have := dist_filter_len HB.out.st.dist HXL.out; rw [HN.out] at this; omega) HB.out.lim
          rw [take_vn _ _ hlt, HXe.out, cutsV_snoc, HLs.out]
          rwa [e] at this)
        have CR := Lib.hid (show ∀ W, AdAt G w q wr.heap.size br x (i : Int) (S.life i : Int) cap W p ev M S (n + 1) f → Calls Tryz.prog 70 #[.pointer (some ⟨p.hq, 0, none⟩), .int .i64 (i : Int)] W fun e w' => e = .returned (.tuple #[.agg #[.int .i64 x.1.1, .int .i64 x.1.2.1, .int .i64 x.1.2.2], .int .i64 0]) ∧ ∃ p', AdAt G w q wr.heap.size br x (i : Int) (S.life i : Int) cap w' p' ev (updM M i none) S (n + 1) f from fun W h => (remove_yes h.hp i x.1 (by rw [HB.out.st.keys i, if_pos HI.out, HE.out])).mono (by
          rintro e w' ⟨rfl, h1⟩
          obtain ⟨p', -, h2⟩ := h.heap h1
          exact ⟨rfl, p', h2⟩))
        have d1 := a1.drew
        obtain ⟨-, c1, -, -, -, -⟩ := ownQ_cells a1.own
        obtain ⟨-, e1', -, -, -, -⟩ := ownQ_cells d1.own
        obtain ⟨r0, r1⟩ := a1.refs
        obtain ⟨s0, s1⟩ := d1.refs
        go_upto_region 4 with fail
        go_cut [] from 20 to 26 (fun wx => ∃ p', AdAt G w q wr.heap.size br x (i : Int) (S.life i : Int) cap wx p' ev (updM M i none) S (n + 1) f)
        case first =>
          go_region_law (first
            | (go_simp; go_at_call 70; refine (CR.out _ (by with_reducible assumption)).mono ?_; rintro e w5 ⟨rfl, p5, a5⟩)
            | fail)
          all_goals
            go_wp2_with fail
            go_meet
            first | exact ⟨p5, a5⟩ | exact ⟨p5, a5.drew⟩
        case rest =>
        obtain ⟨p2, a2⟩ := hcut
        clear a1 d1 c1 e1' r0 r1 s0 s1 CR
        have CG := Lib.hid (show ∀ W, AdAt G w q wr.heap.size br x (i : Int) (S.life i : Int) cap W p2 ev (updM M i none) S (n + 1) f → Calls Tryz.prog 71 #[.pointer (some ⟨p2.sq, 0, none⟩), .agg #[.int .i64 (i : Int), .int .i64 (S.life i : Int)]] W fun e w' => e = .returned (.int .i64 0) ∧ AdAt G w q wr.heap.size br x (i : Int) (S.life i : Int) cap w' p2 ev (updM M i none) (giveT 4294967296 S i) (n + 1) f from fun W h => (Sl.give_yes h.tab HI.out.1 HI.out.2).mono (by
          rintro e w' ⟨rfl, h1⟩
          exact ⟨rfl, h.table h1⟩))
        have d2 := a2.drew
        obtain ⟨-, -, c2, -, -, -⟩ := ownQ_cells a2.own
        obtain ⟨-, -, e2', -, -, -⟩ := ownQ_cells d2.own
        obtain ⟨r0, r1⟩ := a2.refs
        obtain ⟨s0, s1⟩ := d2.refs
        go_upto_region 5 with fail
        go_cut [] from 27 to 32 (fun wx => AdAt G w q wr.heap.size br x (i : Int) (S.life i : Int) cap wx p2 ev (updM M i none) (giveT 4294967296 S i) (n + 1) f)
        case first =>
          go_region_law (first
            | (go_simp; go_at_call 71; refine (CG.out _ (by with_reducible assumption)).mono ?_; rintro e w5 ⟨rfl, a5⟩)
            | fail)
          all_goals
            go_wp2_with fail
            go_meet
            first | exact a5 | exact a5.drew
        case rest =>
        have a3 := hcut
        clear hcut a2 d2 c2 e2' r0 r1 s0 s1 CG
        have CN := Lib.hid (show ∀ W, AdAt G w q wr.heap.size br x (i : Int) (S.life i : Int) cap W p2 ev (updM M i none) (giveT 4294967296 S i) (n + 1) f → Calls Tryz.prog 62 #[.agg #[.int .i64 x.1.1, .int .i64 x.1.2.1, .int .i64 x.1.2.2, .int .i64 x.2.1, .int .i64 x.2.2]] W fun e w' => e = .returned (.agg #[.int .i64 x.1.2.1, .int .i64 x.1.2.2]) ∧ AdAt G w q wr.heap.size br x (i : Int) (S.life i : Int) cap w' p2 ev (updM M i none) (giveT 4294967296 S i) (n + 1) f ∧ w'.cell? ⟨q, 3, none⟩ = some (.map (some p2.mb)) from fun W h => (nameOf_calls x W).mono (by
          rintro e w' ⟨rfl, h1⟩
          exact ⟨rfl, h.below h1, (ownQ_cells (h.below h1).own).2.2.2.1⟩))
        have d3 := a3.drew
        obtain ⟨-, -, -, c3, -, -⟩ := ownQ_cells a3.own
        obtain ⟨-, -, -, e3', -, -⟩ := ownQ_cells d3.own
        obtain ⟨x0, x1, x2, x3, x4, -⟩ := a3.box.cells
        obtain ⟨y0, y1, y2, y3, y4, -⟩ := d3.box.cells
        have hfs := HF.out
        go_upto_region 6 with fail
        go_region_law (first
          | (go_simp; go_at_call 62; refine (CN.out _ (by with_reducible assumption)).mono ?_; rintro e w5 ⟨rfl, a5, g3⟩)
          | (refine step_dropN rfl (.tmp 36) (.tmp 38) rfl p2.mb n f x.1.2.1 x.1.2.2 (i, S.life i) (by simp [Act.eval]) (by simp [Act.eval]) (by exact a5.nam) hwf.1 hwf.2 HF.out ?_; intro w6 hN6 hG6; have A6 := Lib.hid (a5.names hN6 hG6); clear hN6 hG6)
          | fail)
        all_goals
          go_wp2_with fail
          go_roundw
          case rel => exact ⟨k + 1, hlt, by go_num, HFin.out _ _ A6.out⟩
          case measure => simp [intOf]; omega
    · obtain rfl : k = l.length := by omega
      clear hq hoff hfoot hst
      go_wp2_with fail
      refine bodyPost_end (results_none rfl _ _ _) rfl ⟨⟨_, rfl⟩, ?_⟩
      have := HS.out
      rwa [List.take_length] at this
end Go.Proofs.YtcjkeobjojmpfaaGreat
end
