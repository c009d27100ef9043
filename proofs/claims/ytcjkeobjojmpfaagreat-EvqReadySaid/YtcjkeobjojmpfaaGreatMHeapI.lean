import Derived.Test.YtcjkeobjojmpfaaGreatMHeapH
/-
  CONTRACTS of heap's Put (rejected), Remove, Key, Has, Len, Least.
-/
namespace Go.Proofs.YtcjkeobjojmpfaaGreat
open Go.RowKit Go.Shelf

theorem ordM_iff {n : Nat} {t : List En} {ix : Nat → Int} {M : Mp} (h : Has t M) (ha : Agr n t ix) (e : En) : e ∈ ordM n M ↔ e ∈ t := by
  obtain ⟨k, p⟩ := e
  rw [ordM_mem, h p k]
  constructor
  · exact fun e => e.2
  · intro e
    obtain ⟨i, i1, i2⟩ := mem_en e
    have := (ha.1 i i1).1
    rw [i2] at this
    exact ⟨this, e⟩
theorem ord_top {n : Nat} {t : List En} {ix : Nat → Int} {M : Mp} (h : Has t M) (ha : Agr n t ix) (ho : HOrd t) (hl : 0 < t.length) : en t 0 = en (ordM n M) 0 := by
  have h0 := (ordM_iff h ha (en t 0)).2 (en_mem hl)
  obtain ⟨j, hj, e⟩ := mem_en h0
  by_cases c : j = 0
  · rw [← e, c]
  · have hlt := ordM_asc n M 0 j (by omega) hj
    rw [e] at hlt
    have hm := (ordM_iff h ha (en (ordM n M) 0)).1 (en_mem (by omega))
    obtain ⟨i, hi, e2⟩ := mem_en hm
    rw [← e2] at hlt
    exact absurd hlt (ho.least i i (Nat.le_refl _) hi)
/-- The first one taken away. -/
theorem ordM_tail {n : Nat} {M : Mp} {k : Ky} {p : Nat} {l : List En} (h : ordM n M = (k, p) :: l) : ordM n (updM M p none) = l := by
  have ha := ordM_asc n M
  rw [h] at ha
  obtain ⟨h1, h2⟩ := ascE_tail ha
  refine ascE_unique _ _ (ordM_asc _ _) h1 fun ⟨k', p'⟩ => ?_
  have hm : ∀ k' p', (k', p') ∈ (k, p) :: l ↔ p' < n ∧ M p' = some k' := fun k' p' => by rw [← h]; exact ordM_mem n M k' p'
  rw [ordM_mem]
  unfold updM
  constructor
  · rintro ⟨a, b⟩
    by_cases c : p' = p
    · rw [if_pos c] at b; cases b
    · rw [if_neg c] at b
      rcases List.mem_cons.1 ((hm k' p').2 ⟨a, b⟩) with e | e
      · cases e; exact absurd rfl c
      · exact e
  · intro e
    obtain ⟨a, b⟩ := (hm k' p').1 (List.mem_cons_of_mem _ e)
    refine ⟨a, ?_⟩
    by_cases c : p' = p
    · subst c
      have := (hm k p').1 List.mem_cons_self
      rw [this.2] at b
      cases b
      exact absurd (h2 _ e) (ltE_irrefl _)
    · rw [if_neg c]; exact b
section
variable {w : World} {q : Nat} {F : Nat → Prop} {n : Nat} {M : Mp}
theorem below_key (w : World) (k : Ky) : Below w.heap.size w (w.alloc (.cells #[.int .i64 k.1, .int .i64 k.2.1, .int .i64 k.2.2] 31)) := (Below.refl _ w).alloc (Nat.le_refl _) _
theorem HA.ix_none (h : HA w q F n M) {p : Nat} (hp : p < n) (hM : M p = none) : ∃ tv x xc t ix, HD w q tv x xc n t ix ∧ ix p = -1 := by
  obtain ⟨tv, x, xc, t, ix, hd, ho, hm, hF⟩ := h.ex
  refine ⟨tv, x, xc, t, ix, hd, ?_⟩
  rcases hm.at hd.agr hp with e | ⟨i, _, _, _, e⟩
  · exact e.1
  · rw [hM] at e; cases e
theorem HA.ix_some (h : HA w q F n M) {p : Nat} {k : Ky} (hM : M p = some k) : p < n ∧ ∃ g cap x xc t ix i, HB w q g x cap xc n t ix ∧ i < t.length ∧ ix p = (i : Nat) ∧ en t i = (k, p) ∧ HOrd t ∧ Has t M ∧ ∀ k, F k ↔ Foot q (.slice (some ⟨g, 0, none⟩) t.length cap) x k := by
  obtain ⟨tv, x, xc, t, ix, hd, ho, hm, hF⟩ := h.ex
  have hp : p < n := by
    by_cases c : p < n
    · exact c
    · rw [hm.off hd.agr (by omega)] at hM; cases hM
  refine ⟨hp, ?_⟩
  rcases hm.at hd.agr hp with e | ⟨i, i1, i2, i3, e⟩
  · rw [e.2] at hM; cases hM
  · obtain ⟨g, cap, rfl, hb⟩ := hd.hb (by omega)
    rw [e] at hM
    exact ⟨g, cap, x, xc, t, ix, i, hb, i1, i2, by rw [i3]; cases hM; rfl, ho, hm, hF⟩
set_option maxHeartbeats 1000000 in
theorem put_out (h : HA w q F n M) (p : Int) (hp : p < 0 ∨ (n : Int) ≤ p) (k : Ky) :
    Calls Tryz.prog 64 #[.pointer (some ⟨q, 0, none⟩), .int .i64 p, .agg #[.int .i64 k.1, .int .i64 k.2.1, .int .i64 k.2.2]] w fun e w' => e = .returned (.int .i64 80) ∧ Below w.heap.size w w' := by
  obtain ⟨tv, x, xc, t, ix, hd, -, -, -⟩ := h.ex
  have HFn := Lib.hid (find_out (hd.below (below_key w k)).own p hp)
  have HB := Lib.hid (below_key w k)
  clear h hd hp
  go_enter Tryz.func64, Tryz.ntmps64
  go_wp2_with (first | (go_at_call 81; refine HFn.out.mono ?_; rintro e w2 ⟨rfl, rfl⟩) | fail)
  go_ret
  exact ⟨rfl, HB.out⟩
set_option maxHeartbeats 1000000 in
theorem put_there (h : HA w q F n M) (p : Nat) (k0 : Ky) (hM : M p = some k0) (k : Ky) :
    Calls Tryz.prog 64 #[.pointer (some ⟨q, 0, none⟩), .int .i64 (p : Int), .agg #[.int .i64 k.1, .int .i64 k.2.1, .int .i64 k.2.2]] w fun e w' => e = .returned (.int .i64 81) ∧ Below w.heap.size w w' := by
  obtain ⟨hp, g, cap, x, xc, t, ix, i, hb, hi, hx, -⟩ := h.ix_some hM
  have hd := hb.hd.below (below_key w k)
  have HFn := Lib.hid (find_ok hd.own hd.index p hp i hx)
  have HB := Lib.hid (below_key w k)
  clear h hd hp hb hi hx
  go_enter Tryz.func64, Tryz.ntmps64
  go_wp2_with (first | (go_at_call 81; refine HFn.out.mono ?_; rintro e w2 ⟨rfl, rfl⟩) | fail)
  go_ret
  exact ⟨rfl, HB.out⟩
theorem finds_out (p : Int) (hp : p < 0 ∨ (n : Int) ≤ p) (W : World) (h : HA W q F n M) : Calls Tryz.prog 81 #[.pointer (some ⟨q, 0, none⟩), .int .i64 p] W fun e w' => e = .returned (.tuple #[.int .i64 0, .int .i64 80]) ∧ W = w' := by
  obtain ⟨tv, x, xc, t, ix, hd, -, -, -⟩ := h.ex
  exact find_out hd.own p hp
theorem finds_none (p : Nat) (hp : p < n) (hM : M p = none) (W : World) (h : HA W q F n M) : Calls Tryz.prog 81 #[.pointer (some ⟨q, 0, none⟩), .int .i64 (p : Int)] W fun e w' => e = .returned (.tuple #[.int .i64 0, .int .i64 6]) ∧ W = w' := by
  obtain ⟨tv, x, xc, t, ix, hd, hx⟩ := h.ix_none hp hM
  exact find_none hd.own hd.index p hp hx
set_option maxHeartbeats 1000000 in
theorem remove_no (h : HA w q F n M) (p : Int) (E : Int) (hE : E ≠ 0) (hf : ∀ W, HA W q F n M → Calls Tryz.prog 81 #[.pointer (some ⟨q, 0, none⟩), .int .i64 p] W fun e w' => e = .returned (.tuple #[.int .i64 0, .int .i64 E]) ∧ W = w') :
    Calls Tryz.prog 70 #[.pointer (some ⟨q, 0, none⟩), .int .i64 p] w fun e w' => e = .returned (.tuple #[.agg #[.int .i64 0, .int .i64 0, .int .i64 0], .int .i64 E]) ∧ Below w.heap.size w w' := by
  have HFn := Lib.hid (hf _ (h.below (below_key w (0, 0, 0))))
  have HE : (E != 0) = true := by simp [hE]
  clear h hf hE
  go_enter Tryz.func70, Tryz.ntmps70
  go_wp2_with (first | (go_at_call 81; refine HFn.out.mono ?_; rintro e w2 ⟨rfl, rfl⟩) | fail)
  exact bodyPost_ret (v := .tuple #[.agg #[.int .i64 0, .int .i64 0, .int .i64 0], .int .i64 E]) (by simp [results, Tryz.results70, go_sem]) rfl ⟨rfl, below_key w (0, 0, 0)⟩
set_option maxHeartbeats 1000000 in
theorem len_calls (h : HA w q F n M) :
    Calls Tryz.prog 68 #[.pointer (some ⟨q, 0, none⟩)] w fun e w' => e = .returned (.int .i64 ((ordM n M).length : Nat)) ∧ w = w' := by
  obtain ⟨tv, x, xc, t, ix, hd, ho, hm, hF⟩ := h.ex
  rw [ordM_len hm hd.agr]
  obtain ⟨c0, -, -, -⟩ := hd.cells
  obtain ⟨ta, tc, rfl, -, -⟩ := hd.tree.shape
  have HI := Lib.hid (is_calls hd.own)
  clear h hd ho hm hF
  go_enter Tryz.func68, Tryz.ntmps68
  go_wp2_with (first | (go_at_call 83; refine HI.out.mono ?_; rintro e w2 ⟨rfl, rfl⟩) | fail)
  go_ret
  exact ⟨rfl, rfl⟩
set_option maxHeartbeats 1000000 in
theorem least_yes (h : HA w q F n M) (k : Ky) (p : Nat) (hl : 0 < (ordM n M).length) (he : en (ordM n M) 0 = (k, p)) :
    Calls Tryz.prog 48 #[.pointer (some ⟨q, 0, none⟩)] w fun e w' => e = .returned (.tuple #[.int .i64 (p : Int), .bool true]) ∧ w = w' := by
  have HL := Lib.hid (len_calls h)
  obtain ⟨tv, x, xc, t, ix, hd, ho, hm, hF⟩ := h.ex
  rw [ordM_len hm hd.agr] at hl HL
  rw [← ord_top hm hd.agr ho hl] at he
  obtain ⟨g, cap, rfl, hb⟩ := hd.hb hl
  obtain ⟨c0, -, -, -⟩ := hb.cells
  obtain ⟨-, -, -, x3⟩ := hb.tree.cell 0 hl
  rw [he] at x3
  dsimp only at x3
  have hi1 : (0 : Int) < (t.length : Int) := by omega
  have hz : ((t.length : Int) == 0) = false := by rw [beq_eq_false_iff_ne]; omega
  clear h hd ho hm hF hb hl he
  go_enter Tryz.func48, Tryz.ntmps48
  go_wp2_with (first | (go_at_call 68; refine HL.out.mono ?_; rintro e w2 ⟨rfl, rfl⟩) | fail)
  go_ret2
  exact ⟨rfl, rfl⟩
set_option maxHeartbeats 1000000 in
theorem least_no (h : HA w q F n M) (hl : (ordM n M).length = 0) :
    Calls Tryz.prog 48 #[.pointer (some ⟨q, 0, none⟩)] w fun e w' => e = .returned (.tuple #[.int .i64 0, .bool false]) ∧ w = w' := by
  have HL := Lib.hid (len_calls h)
  rw [hl] at HL
  clear h hl
  go_enter Tryz.func48, Tryz.ntmps48
  go_wp2_with (first | (go_at_call 68; refine HL.out.mono ?_; rintro e w2 ⟨rfl, rfl⟩) | fail)
  go_ret2
  exact ⟨rfl, rfl⟩
theorem run_field_key (a b c d : Value) (W : World) : (Instr.field 117 (.agg #[a, b, c, d]) 0).run Tryz.prog W = .ok (.agg #[a, b, c]) W := by
  simp [Instr.field, part, asAgg, go_sem, run_underlying Tryz.underlying117, Tryz.isAgg31, Tryz.sizeOf31]
set_option maxRecDepth 100000 in
set_option maxHeartbeats 1000000 in
theorem remove_yes (h : HA w q F n M) (p : Nat) (k : Ky) (hM : M p = some k) :
    Calls Tryz.prog 70 #[.pointer (some ⟨q, 0, none⟩), .int .i64 (p : Int)] w fun e w' => e = .returned (.tuple #[.agg #[.int .i64 k.1, .int .i64 k.2.1, .int .i64 k.2.2], .int .i64 0]) ∧ HStep w w' q F n (updM M p none) := by
  obtain ⟨hp, g, cap, x, xc, t, ix, i, hb0, hi, hx, he, ho, hm, hF⟩ := h.ix_some hM
  have hb := hb0.below (below_key w (0, 0, 0))
  have HFn := Lib.hid (find_ok hb.own hb.index p hp i hx)
  have HC := Lib.hid (cut_calls hb ho i hi)
  rw [he] at HC
  dsimp only at HC
  unfold vE at HC
  have HF := Lib.hid hF
  have HM := Lib.hid hm
  have HL := Lib.hid hb0.lt
  have b0 : (w.alloc (.cells #[.int .i64 0, .int .i64 0, .int .i64 0] 31)).heap[w.heap.size]? = some (.cells #[.int .i64 0, .int .i64 0, .int .i64 0] 31 (0, 0)) := World.alloc_heap_new w _
  have HB0 := Lib.hid b0
  have hfk := fun W => run_field_key (.int .i64 k.1) (.int .i64 k.2.1) (.int .i64 k.2.2) (.int .i64 (p : Int)) W
  have HSz := Lib.hid (show w.heap.size < (w.alloc (.cells #[.int .i64 0, .int .i64 0, .int .i64 0] 31)).heap.size by simp)
  clear h hM hp hb hb0 hi hx he ho hm hF b0
  go_enter Tryz.func70, Tryz.ntmps70
  go_wp2_with (first
    | (go_at_call 81; refine HFn.out.mono ?_; rintro e w2 ⟨rfl, rfl⟩)
    | (go_at_call 89; refine HC.out.mono ?_; rintro e w3 ⟨rfl, t3, ix3, h3, s3, m3, o3⟩; have hbox := (o3.block _ HSz.out (by obtain ⟨l1, l2, l3⟩ := HL.out; rintro (c | c | c) <;> omega)).trans HB0.out; have r0 : w3.cell? ⟨w.heap.size, 0, none⟩ = some (.int .i64 0) := by simp [World.cell?, hbox]
       have r1 : w3.cell? ⟨w.heap.size, 1, none⟩ = some (.int .i64 0) := by simp [World.cell?, hbox]
       have r2 : w3.cell? ⟨w.heap.size, 2, none⟩ = some (.int .i64 0) := by simp [World.cell?, hbox]
       have rf : ∀ i, w3.frozen? ⟨w.heap.size, i, none⟩ = false := fun i => by simp [World.frozen?, hbox]
       have H3 := Lib.hid (And.intro h3 (And.intro s3 (And.intro m3 o3))); clear h3 s3 m3 o3 hbox)
    | fail)
  refine bodyPost_ret (v := .tuple #[.agg #[.int .i64 k.1, .int .i64 k.2.1, .int .i64 k.2.2], .int .i64 0]) (by simp [results, Tryz.results70, go_sem, r0, r1, r2]) rfl ⟨rfl, ?_⟩
  obtain ⟨h3, s3, m3, o3⟩ := H3.out
  obtain ⟨l1, l2, l3⟩ := HL.out
  have nB : ¬ Q3 q g x w.heap.size := by rintro (c | c | c) <;> omega
  exact HStep.of_hb HF.out (((h3.away nB _ _).away nB _ _).away nB _ _) s3 (m3 M HM.out) (((((Off.of_below (below_key w (0, 0, 0))).to o3).new (Nat.le_refl _) _ _).new (Nat.le_refl _) _ _).new (Nat.le_refl _) _ _)
end
end Go.Proofs.YtcjkeobjojmpfaaGreat
