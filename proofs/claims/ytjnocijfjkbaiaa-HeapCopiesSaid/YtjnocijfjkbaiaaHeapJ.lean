/-
  CONTRACTS of heap's Take and Change.
-/
import Derived.Test.YtjnocijfjkbaiaaHeapI
namespace Go.Proofs.Ytjnocijfjkbaiaa
open Go.RowKit Go.Shelf

/-- THE BLOCK p IS A BOX with the key k. -/
abbrev KBox (w : World) (p : Nat) (k : Ky) : Prop := w.heap[p]? = some (.cells #[.int .i64 k.1, .int .i64 k.2.1, .int .i64 k.2.2] 27 (0, 0))
theorem KBox.cells {w : World} {p : Nat} {k : Ky} (h : KBox w p k) : w.cell? ⟨p, 0, none⟩ = some (.int .i64 k.1) ∧ w.cell? ⟨p, 1, none⟩ = some (.int .i64 k.2.1) ∧ w.cell? ⟨p, 2, none⟩ = some (.int .i64 k.2.2) ∧ ∀ i, w.frozen? ⟨p, i, none⟩ = false :=
  ⟨by simp [World.cell?, h], by simp [World.cell?, h], by simp [World.cell?, h], fun i => by simp [World.frozen?, h]⟩
theorem KBox.lt {w : World} {p : Nat} {k : Ky} (h : KBox w p k) : p < w.heap.size := (Array.getElem?_eq_some_iff.1 h).1
theorem three_0 (w : World) (o1 o2 o3 : Obj) : (((w.alloc o1).alloc o2).alloc o3).heap[w.heap.size]? = some o1 := by
  rw [Below.heap_alloc _ _ _ (by simp; omega), Below.heap_alloc _ _ _ (by simp)]; exact World.alloc_heap_new w _
theorem three_1 (w : World) (o1 o2 o3 : Obj) : (((w.alloc o1).alloc o2).alloc o3).heap[w.heap.size + 1]? = some o2 := by
  rw [Below.heap_alloc _ _ _ (by simp)]
  have := World.alloc_heap_new (w.alloc o1) o2
  rwa [World.size_alloc] at this
theorem three_2 (w : World) (o1 o2 o3 : Obj) : (((w.alloc o1).alloc o2).alloc o3).heap[w.heap.size + 1 + 1]? = some o3 := by
  have := World.alloc_heap_new ((w.alloc o1).alloc o2) o3
  rwa [World.size_alloc, World.size_alloc] at this
section
variable {w : World} {q : Nat} {F : Nat → Prop} {n : Nat} {M : Mp}
set_option maxHeartbeats 1000000 in
theorem take_no (h : HA w q F n M) (hl : (ordM n M).length = 0) :
    Calls Try.prog 14 #[.pointer (some ⟨q, 0, none⟩)] w fun e w' => e = .returned (.tuple #[.int .i64 0, .agg #[.int .i64 0, .int .i64 0, .int .i64 0], .int .i64 6]) ∧ Below w.heap.size w w' := by
  obtain ⟨tv, x, xc, t, ix, hd0, ho, hm, hF⟩ := h.ex
  rw [ordM_len hm hd0.agr] at hl
  have hd := hd0.below (below_key w (0, 0, 0))
  obtain ⟨c0, -, -, -⟩ := hd.cells
  obtain ⟨ta, tc, rfl, -, -⟩ := hd.tree.shape
  rw [hl] at c0
  have HI := Lib.hid (is_calls hd.own)
  clear h hd hd0 ho hm hF hl
  go_enter Try.func14, Try.ntmps14
  go_wp2_with (first | (go_at_call 35; refine HI.out.mono ?_; rintro e w2 ⟨rfl, rfl⟩) | fail)
  exact bodyPost_ret (v := .tuple #[.int .i64 0, .agg #[.int .i64 0, .int .i64 0, .int .i64 0], .int .i64 6]) (by simp [results, Try.results14, go_sem]) rfl ⟨rfl, below_key w (0, 0, 0)⟩
set_option maxRecDepth 100000 in
set_option maxHeartbeats 2000000 in
theorem take_yes (h : HA w q F n M) (k : Ky) (p : Nat) (hl : 0 < (ordM n M).length) (he : en (ordM n M) 0 = (k, p)) :
    Calls Try.prog 14 #[.pointer (some ⟨q, 0, none⟩)] w fun e w' => e = .returned (.tuple #[.int .i64 (p : Int), .agg #[.int .i64 k.1, .int .i64 k.2.1, .int .i64 k.2.2], .int .i64 0]) ∧ HStep w w' q F n (updM M p none) := by
  have mixed : Try.prog.follows .mixedOrders = true := by kernel_rfl
  obtain ⟨tv, x, xc, t, ix, hd0, ho, hm, hF⟩ := h.ex
  rw [ordM_len hm hd0.agr] at hl
  rw [← ord_top hm hd0.agr ho hl] at he
  obtain ⟨g, cap, rfl, hb0⟩ := hd0.hb hl
  have hb := hb0.below (below_key w (0, 0, 0))
  have HC := Lib.hid (cut_calls hb ho 0 hl)
  rw [he] at HC
  dsimp only at HC
  unfold vE at HC
  obtain ⟨c0, -, -, -⟩ := hb.cells
  have HI := Lib.hid (is_calls hb.own)
  have hz : ((t.length : Int) == 0) = false := by rw [beq_eq_false_iff_ne]; omega
  have HF := Lib.hid hF
  have HM := Lib.hid hm
  have HL := Lib.hid hb0.lt
  have b0 : (w.alloc (.cells #[.int .i64 0, .int .i64 0, .int .i64 0] 27)).heap[w.heap.size]? = some (.cells #[.int .i64 0, .int .i64 0, .int .i64 0] 27 (0, 0)) := World.alloc_heap_new w _
  have HB0 := Lib.hid b0
  have HSz := Lib.hid (show w.heap.size < (w.alloc (.cells #[.int .i64 0, .int .i64 0, .int .i64 0] 27)).heap.size by simp)
  clear h hd0 ho hm hF b0 hb hb0 hl he
  go_enter Try.func14, Try.ntmps14
  go_upto_region 6 with (first
    | (go_at_call 35; refine HI.out.mono ?_; rintro e w2 ⟨rfl, rfl⟩)
    | (go_at_call 36; refine HC.out.mono ?_; rintro e w3 ⟨rfl, t3, ix3, h3, s3, m3, o3⟩; have hbox := (o3.block _ HSz.out (by obtain ⟨l1, l2, l3⟩ := HL.out; rintro (c | c | c) <;> omega)).trans HB0.out; have r0 : w3.cell? ⟨w.heap.size, 0, none⟩ = some (.int .i64 0) := by simp [World.cell?, hbox]
       have r1 : w3.cell? ⟨w.heap.size, 1, none⟩ = some (.int .i64 0) := by simp [World.cell?, hbox]
       have r2 : w3.cell? ⟨w.heap.size, 2, none⟩ = some (.int .i64 0) := by simp [World.cell?, hbox]
       have rf : ∀ i, w3.frozen? ⟨w.heap.size, i, none⟩ = false := fun i => by simp [World.frozen?, hbox]
       have rl : w.heap.size < w3.heap.size := (Array.getElem?_eq_some_iff.1 hbox).1
       have H3 := Lib.hid (And.intro h3 (And.intro s3 (And.intro m3 o3))); clear h3 s3 m3 o3 hbox)
    | fail)
  go_region
  all_goals
    go_wp2_with fail
    refine bodyPost_ret (v := .tuple #[.int .i64 (p : Int), .agg #[.int .i64 k.1, .int .i64 k.2.1, .int .i64 k.2.2], .int .i64 0]) (by simp [results, Try.results14, go_sem, r0, r1, r2, rl]) rfl ⟨rfl, ?_⟩
    obtain ⟨h3, s3, m3, o3⟩ := H3.out
    obtain ⟨l1, l2, l3⟩ := HL.out
    have nB : ¬ Q3 q g x w.heap.size := by rintro (c | c | c) <;> omega
    exact HStep.of_hb HF.out ((((h3.away nB _ _).away nB _ _).away nB _ _).below ((Below.refl _ _).alloc (Nat.le_refl _) _)).drew s3 (m3 M HM.out) (((((((Off.of_below (below_key w (0, 0, 0))).to o3).new (Nat.le_refl _) _ _).new (Nat.le_refl _) _ _).new (Nat.le_refl _) _ _).alloc _).drew)
set_option maxRecDepth 100000 in
set_option maxHeartbeats 2000000 in
theorem change_yes (h : HA w q F n M) (p : Nat) (k0 : Ky) (hM : M p = some k0) (k : Ky) :
    Calls Try.prog 16 #[.pointer (some ⟨q, 0, none⟩), .int .i64 (p : Int), .agg #[.int .i64 k.1, .int .i64 k.2.1, .int .i64 k.2.2]] w fun e w' => e = .returned (.tuple #[.agg #[.int .i64 k0.1, .int .i64 k0.2.1, .int .i64 k0.2.2], .int .i64 0]) ∧ HStep w w' q F n (updM M p (some k)) := by
  have mixed : Try.prog.follows .mixedOrders = true := by kernel_rfl
  obtain ⟨hp, g, cap, x, xc, t, ix, i, hb0, hi, hx, he, ho, hm, hF⟩ := h.ix_some hM
  have hB2 := (below_key w k).alloc (by simp) (.cells #[.int .i64 0, .int .i64 0, .int .i64 0] 27)
  have hb := hb0.below hB2
  have HFn := Lib.hid (find_ok hb.own hb.index p hp i hx)
  obtain ⟨c0, -, -, -⟩ := hb.cells
  obtain ⟨x0, x1, x2, -⟩ := hb.tree.cell i hi
  rw [he] at x0 x1 x2
  dsimp only at x0 x1 x2
  have HHb := Lib.hid hb
  have HF := Lib.hid hF; have HM := Lib.hid hm; have HO := Lib.hid ho; have HE := Lib.hid he; have HB2 := Lib.hid hB2; have HL := Lib.hid hb0.lt; have HI := Lib.hid hi
  have hi1 : (i : Int) < (t.length : Int) := by omega
  clear h hM hp hb hb0 hi hx he ho hm hF hB2
  go_enter Try.func16, Try.ntmps16
  go_upto_region 5 with (first | (go_at_call 33; refine HFn.out.mono ?_; rintro e w2 ⟨rfl, rfl⟩) | fail)
  generalize hW0 : ((w.alloc _).alloc _).alloc _ = W0
  have HBW := Lib.hid (show Below w.heap.size w W0 by rw [← hW0]; exact HB2.out.alloc (by simp; omega) _)
  have HH0 := Lib.hid (show HB W0 q g x cap xc n t ix by rw [← hW0]; exact HHb.out.below ((Below.refl _ _).alloc (Nat.le_refl _) _))
  have b5 : KBox W0 w.heap.size k := by rw [← hW0]; exact three_0 _ _ _ _
  have b6 : KBox W0 (w.heap.size + 1) (0, 0, 0) := by rw [← hW0]; exact three_1 _ _ _ _
  have b10 : KBox W0 (w.heap.size + 1 + 1) k0 := by rw [← hW0]; exact three_2 _ _ _ _
  have HB6 := Lib.hid b6; have HB10 := Lib.hid b10
  obtain ⟨p0, p1, p2, -⟩ := b5.cells
  obtain ⟨e0, -, -, ef⟩ := HH0.out.cells
  obtain ⟨y0, y1, y2, -⟩ := HH0.out.tree.cell i HI.out
  have fg := HH0.out.tree.frozen
  obtain ⟨l1, l2, l3⟩ := HL.out
  have hk := HH0.out.tree.key HI.out k
  rw [show (en t i).2 = p by rw [HE.out]] at hk
  have HK := Lib.hid hk
  obtain ⟨n1, n2, n3⟩ := HH0.out.ne
  have HN := Lib.hid (And.intro n1 (And.intro n2 n3))
  clear hW0 c0 x0 x1 x2 HHb b5 b6 b10 hk n1 n2 n3
  go_cut [] from 29 to 36 (fun wx => wx = (((W0.setCell ⟨g, i * 4, none⟩ (.int .i64 k.1)).setCell ⟨g, i * 4 + 1, none⟩ (.int .i64 k.2.1)).setCell ⟨g, i * 4 + 2, none⟩ (.int .i64 k.2.2)).drew)
  case first =>
    go_region
    all_goals
      go_wp2_with fail
      go_meet
      rfl
  case rest =>
    have HHc := Lib.hid (show HB wc q g x cap xc n (t.set i (k, p)) ix by
      rw [hcut]
      refine HB.drew ⟨?_, HK.out, ((HH0.out.index.away HN.out.2.2.symm _ _).away HN.out.2.2.symm _ _).away HN.out.2.2.symm _ _, HH0.out.ne, HH0.out.caps, ?_⟩
      · rw [heap_setO _ _ _ HN.out.1, heap_setO _ _ _ HN.out.1, heap_setO _ _ _ HN.out.1, List.length_set]
        exact HH0.out.own
      · have := HH0.out.agr.change HI.out k
        rwa [show (en t i).2 = p by rw [HE.out]] at this)
    have nb6 : w.heap.size + 1 ≠ g := by omega
    have nb10 : w.heap.size + 1 + 1 ≠ g := by omega
    have hb6 : KBox wc (w.heap.size + 1) (0, 0, 0) := by rw [hcut]; exact blk_drew ((heap_setO _ _ _ nb6).trans ((heap_setO _ _ _ nb6).trans ((heap_setO _ _ _ nb6).trans HB6.out)))
    have hb10 : KBox wc (w.heap.size + 1 + 1) k0 := by rw [hcut]; exact blk_drew ((heap_setO _ _ _ nb10).trans ((heap_setO _ _ _ nb10).trans ((heap_setO _ _ _ nb10).trans HB10.out)))
    have HOf := Lib.hid (show Off (Q3 q g x) w wc by rw [hcut]; exact Off.drew ((((Off.of_below HBW.out).set (.inl (.inr (.inl rfl))) _ _).set (.inl (.inr (.inl rfl))) _ _).set (.inl (.inr (.inl rfl))) _ _))
    have HSt := Lib.hid (settle_calls HHc.out i (by rw [List.length_set]; exact HI.out) (HO.out.exc i _ HI.out))
    have HHas := Lib.hid (show Has (t.set i (k, p)) (updM M p (some k)) by
      have := HM.out.change HH0.out.agr HI.out k
      rwa [show (en t i).2 = p by rw [HE.out]] at this)
    have HN6 := Lib.hid (show ¬ Q3 q g x (w.heap.size + 1) by rintro (c | c | c) <;> omega)
    have HN10 := Lib.hid (show ¬ Q3 q g x (w.heap.size + 1 + 1) by rintro (c | c | c) <;> omega)
    have H6 := Lib.hid hb6; have H10 := Lib.hid hb10
    clear hcut p0 p1 p2 e0 ef y0 y1 y2 fg nb6 nb10 hb6 hb10
    go_wp2_with (first
      | (go_at_call 37; refine HSt.out.mono ?_; rintro e w3 ⟨rfl, t3, ix3, h3, -, m3, s3, o3⟩; have g6 : KBox w3 (w.heap.size + 1) (0, 0, 0) := (o3.block _ H6.out.lt HN6.out).trans H6.out; have g10 : KBox w3 (w.heap.size + 1 + 1) k0 := (o3.block _ H10.out.lt HN10.out).trans H10.out; obtain ⟨r0, r1, r2, rf⟩ := g6.cells; obtain ⟨z0, z1, z2, -⟩ := g10.cells; have H3 := Lib.hid (And.intro h3 (And.intro s3 (And.intro m3 o3))); clear h3 s3 m3 o3 g6 g10)
      | fail)
    refine bodyPost_ret (v := .tuple #[.agg #[.int .i64 k0.1, .int .i64 k0.2.1, .int .i64 k0.2.2], .int .i64 0]) (by simp [results, Try.results16, go_sem, r0, r1, r2]) rfl ⟨rfl, ?_⟩
    obtain ⟨h3, s3, m3, o3⟩ := H3.out
    have nB := HN6.out
    exact HStep.of_hb HF.out (((h3.away nB _ _).away nB _ _).away nB _ _) s3 (HHas.out.mem m3) ((((HOf.out.to o3).new (by omega) _ _).new (by omega) _ _).new (by omega) _ _)
end
end Go.Proofs.Ytjnocijfjkbaiaa
