/-
  THE WALK of KeySteps: a key's neighbours.
-/
import Derived.Test.YtapaccbffhcjdaaDoorKeyLawP
import Derived.Deep.Cut
import Derived.Deep.DeepCutAuto
namespace Go.Proofs.YtapaccbffhcjdaaDoor
open Go.RowKit Go.Shelf Go.Sort

set_option maxRecDepth 100000 in
set_option maxHeartbeats 4000000 in
theorem keySteps_calls (x y : Ky) (w : World) (hx : SmallK x) (hy : SmallK y) :
    Calls Tryd.prog 8 #[.agg #[.int .u64 x.1, .int .u32 x.2.1, .int .u32 x.2.2], .agg #[.int .u64 y.1, .int .u32 y.2.1, .int .u32 y.2.2]] w fun e w' => e = .returned (.bool true) ∧ Below w.heap.size w w' := by
  have mixed : Tryd.prog.follows .mixedOrders = true := by kernel_rfl
  have hX := made_right hx
  have hY := made_right hy
  have HM1 := Lib.hid (fun W => madeK_calls x W hx)
  have HM2 := Lib.hid (fun W => madeK_calls y W hy)
  obtain ⟨X, hXe⟩ : ∃ X, madeK x = X := ⟨_, rfl⟩
  obtain ⟨Y, hYe⟩ : ∃ Y, madeK y = Y := ⟨_, rfl⟩
  rw [hXe] at hX HM1
  rw [hYe] at hY HM2
  have HX := Lib.hid hX; have HY := Lib.hid hY
  have HA0 := Lib.hid (((Below.refl w.heap.size w).alloc (Nat.le_refl _) (.cells #[.int .u64 x.1, .int .u32 x.2.1, .int .u32 x.2.2] 33)).alloc (by simp) (.cells #[.int .u64 y.1, .int .u32 y.2.1, .int .u32 y.2.2] 33))
  have HS1 := Lib.hid (show SAt ((w.alloc (.cells #[.int .u64 x.1, .int .u32 x.2.1, .int .u32 x.2.2] 33)).alloc (.cells #[.int .u64 y.1, .int .u32 y.2.1, .int .u32 y.2.2] 33)) w.heap.size x from (Below.heap_alloc _ _ _ (by simp)).trans (World.alloc_heap_new w _))
  have HS2 := Lib.hid (show SAt ((w.alloc (.cells #[.int .u64 x.1, .int .u32 x.2.1, .int .u32 x.2.2] 33)).alloc (.cells #[.int .u64 y.1, .int .u32 y.2.1, .int .u32 y.2.2] 33)) (w.heap.size + 1) y from by
    have := World.alloc_heap_new (w.alloc (.cells #[.int .u64 x.1, .int .u32 x.2.1, .int .u32 x.2.2] 33)) (.cells #[.int .u64 y.1, .int .u32 y.2.1, .int .u32 y.2.2] 33)
    rw [World.size_alloc] at this
    exact this)
  clear hX hY hXe hYe hx hy
  go_enter Tryd.func8, Tryd.ntmps8
  go_wp2_with fail
  refine (awakeK_calls _).mono ?_
  rintro e w1 ⟨rfl, hb1⟩
  have HB1 := Lib.hid (HA0.out.trans (hb1.mono HA0.out.size))
  have HS1_1 := Lib.hid (show SAt w1 w.heap.size x from (hb1.block _ HS1.out.lt).trans HS1.out)
  have HS2_1 := Lib.hid (show SAt w1 (w.heap.size + 1) y from (hb1.block _ HS2.out.lt).trans HS2.out)
  clear hb1
  go_wp2_with fail
  refine (wpIn_wide (n := 5)).1 ?_
  refine wpIn_region_inv (by kernel_rfl) (by kernel_rfl) (fun B a wc => ∃ p5 p6 : Nat, a = { tmps := #[.agg #[.int .u64 x.1, .int .u32 x.2.1, .int .u32 x.2.2], .agg #[.int .u64 y.1, .int .u32 y.2.1, .int .u32 y.2.2], .pointer (some ⟨w.heap.size, 0, none⟩), .pointer (some ⟨w.heap.size + 1, 0, none⟩), .bool false, bif B 4 then .pointer (some ⟨p5, 0, none⟩) else undef, bif B 5 then .pointer (some ⟨p6, 0, none⟩) else undef, undef, undef, undef, undef, undef, undef, undef, undef, undef, .bool true, .bool false, bif B 0 then .agg #[.int .u64 x.1, .int .u32 x.2.1, .int .u32 x.2.2] else undef, bif B 1 then .agg #[.int .i64 X.1, .int .i64 X.2.1, .int .i64 X.2.2] else undef, bif B 2 then .agg #[.int .u64 y.1, .int .u32 y.2.1, .int .u32 y.2.2] else undef, bif B 3 then .agg #[.int .i64 Y.1, .int .i64 Y.2.1, .int .i64 Y.2.2] else undef, undef, undef, undef, undef, undef, undef, undef, undef, undef, undef, undef, undef, undef, undef, undef, undef, undef, undef, undef, undef, undef, undef, undef, undef, undef, undef, undef, undef, undef, undef, undef, undef, undef, undef, undef, undef, undef, undef, undef, undef, undef, undef, undef, undef, undef, undef, undef, undef, undef, undef, undef, undef, undef, undef, undef, undef, undef, undef, undef, undef, undef, undef, undef, undef, undef, undef, undef, undef, undef, undef, undef, undef, undef, undef, undef, undef, undef, undef, undef, undef, undef, undef, undef, undef, undef, undef, undef, undef, undef, undef, undef, undef, undef, undef, undef, undef, undef, undef, undef, undef, undef, undef, undef, undef, undef, undef, undef, undef, undef, undef, undef, undef, undef, undef, undef, undef, undef, undef, undef, undef, undef, undef, undef, undef, undef, undef, undef], defers := [] } ∧ Below w1.heap.size w1 wc ∧ (B 4 = true → w1.heap.size ≤ p5 ∧ KAt wc p5 (bif B 6 then X else (0, 0, 0))) ∧ (B 5 = true → w1.heap.size ≤ p6 ∧ KAt wc p6 (bif B 7 then Y else (0, 0, 0))) ∧ (B 4 = true → B 5 = true → p5 ≠ p6)) ?init ?step ?fin
  case init => exact ⟨0, 0, rfl, (Below.refl _ _).drew, by simp, by simp, by simp⟩
  case step =>
    intro B j a wc hj hbj hcl hw hI K hK
    obtain ⟨p5, p6, rfl, hB, h5, h6, hne⟩ := hI
    have hj : j < 8 := hj
    have s1 : SAt wc w.heap.size x := (hB.block _ HS1_1.out.lt).trans HS1_1.out
    have s2 : SAt wc (w.heap.size + 1) y := (hB.block _ HS2_1.out.lt).trans HS2_1.out
    obtain ⟨a1, a2, a3⟩ := s1.cells
    obtain ⟨b1, b2, b3⟩ := s2.cells
    have hcl6 := hcl 6 (by decide)
    have hcl7 := hcl 7 (by decide)
    clear hcl s1 s2
    obtain rfl | rfl | rfl | rfl | rfl | rfl | rfl | rfl : j = 0 ∨ j = 1 ∨ j = 2 ∨ j = 3 ∨ j = 4 ∨ j = 5 ∨ j = 6 ∨ j = 7 := by omega
    all_goals (simp [waits, Region.binds] at hw hcl6 hcl7)
    · simp only [hbj, cond_false]
      refine wpOpIn_step rfl ?_
      intro K' hK'
      go_simp
      exact hK' _ _ (hK _ _ ⟨p5, p6, by simp [upd], hB, by simpa [upd] using h5, by simpa [upd] using h6, by simpa [upd] using hne⟩)
    · simp only [hbj, hw, cond_true, cond_false]
      refine wpOpIn_step rfl ?_
      intro K' hK'
      go_simp
      refine ⟨trivial, (callsIn_wide.2 (HM1.out wc)).mono ?_⟩
      rintro e w' ⟨rfl, hb⟩
      exact hK' _ _ (hK _ _ ⟨p5, p6, by simp [upd, hw], hB.trans (hb.mono hB.size), fun h => by have h := h5 (by simpa [upd] using h); exact ⟨h.1, by simp only [upd]; exact (hb.block _ h.2.lt).trans h.2⟩, fun h => by have h := h6 (by simpa [upd] using h); exact ⟨h.1, by simp only [upd]; exact (hb.block _ h.2.lt).trans h.2⟩, by simpa [upd] using hne⟩)
    · simp only [hbj, cond_false]
      refine wpOpIn_step rfl ?_
      intro K' hK'
      go_simp
      exact hK' _ _ (hK _ _ ⟨p5, p6, by simp [upd], hB, by simpa [upd] using h5, by simpa [upd] using h6, by simpa [upd] using hne⟩)
    · simp only [hbj, hw, cond_true, cond_false]
      refine wpOpIn_step rfl ?_
      intro K' hK'
      go_simp
      refine ⟨trivial, (callsIn_wide.2 (HM2.out wc)).mono ?_⟩
      rintro e w' ⟨rfl, hb⟩
      exact hK' _ _ (hK _ _ ⟨p5, p6, by simp [upd, hw], hB.trans (hb.mono hB.size), fun h => by have h := h5 (by simpa [upd] using h); exact ⟨h.1, by simp only [upd]; exact (hb.block _ h.2.lt).trans h.2⟩, fun h => by have h := h6 (by simpa [upd] using h); exact ⟨h.1, by simp only [upd]; exact (hb.block _ h.2.lt).trans h.2⟩, by simpa [upd] using hne⟩)
    · have n6 : B 6 = false := by
        cases h : B 6 with
        | false => rfl
        | true => have h2 := hcl6 h; simp [hbj] at h2
      simp only [hbj, cond_false]
      refine wpOpIn_step rfl ?_
      intro K' hK'
      go_simp
      have hb := (Below.refl wc.heap.size wc).alloc (Nat.le_refl _) (.cells #[.int .i64 0, .int .i64 0, .int .i64 0] 23)
      exact hK' _ _ (hK _ _ ⟨wc.heap.size, p6, by simp [upd], hB.trans (hb.mono hB.size), fun _ => ⟨hB.size, by simp only [upd, n6]; exact World.alloc_heap_new wc _⟩, fun h => by have h := h6 (by simpa [upd] using h); exact ⟨h.1, by simp only [upd]; exact (hb.block _ h.2.lt).trans h.2⟩, fun _ h => by have h := (h6 (by simpa [upd] using h)).2.lt; omega⟩)
    · have n7 : B 7 = false := by
        cases h : B 7 with
        | false => rfl
        | true => have h2 := hcl7 h; simp [hbj] at h2
      simp only [hbj, cond_false]
      refine wpOpIn_step rfl ?_
      intro K' hK'
      go_simp
      have hb := (Below.refl wc.heap.size wc).alloc (Nat.le_refl _) (.cells #[.int .i64 0, .int .i64 0, .int .i64 0] 23)
      exact hK' _ _ (hK _ _ ⟨p5, wc.heap.size, by simp [upd], hB.trans (hb.mono hB.size), fun h => by have h := h5 (by simpa [upd] using h); exact ⟨h.1, by simp only [upd]; exact (hb.block _ h.2.lt).trans h.2⟩, fun _ => ⟨hB.size, by simp only [upd, n7]; exact World.alloc_heap_new wc _⟩, fun h _ => by have h := (h5 (by simpa [upd] using h)).2.lt; omega⟩)
    · have hk := (h5 (by simp [hw])).2
      have hge := (h5 (by simp [hw])).1
      rw [hbj, cond_false] at hk
      have c0 := (hk.cells 0 (by omega)).1
      have c1 := (hk.cells 1 (by omega)).1
      have c2 := (hk.cells 2 (by omega)).1
      have f0 := (hk.cells 0 (by omega)).2
      have f1 := (hk.cells 1 (by omega)).2
      have f2 := (hk.cells 2 (by omega)).2
      simp only [fldK] at c0 c1 c2
      have hk2 := Lib.hid (kat_set hk X.1 X.2.1 X.2.2)
      have hB2 := Lib.hid (set3_below hB hge (.int .i64 X.1) (.int .i64 X.2.1) (.int .i64 X.2.2))
      have hbl := Lib.hid (fun j (hj : j ≠ p5) => set3_block wc p5 (.int .i64 X.1) (.int .i64 X.2.1) (.int .i64 X.2.2) j hj)
      clear hk hge
      simp only [hw, cond_true]
      refine wpOpIn_step rfl ?_
      intro K' hK'
      go_simp
      exact hK' _ _ (hK _ _ ⟨p5, p6, by simp [upd, hw], hB2.out, fun h => by have h := h5 (by simpa [upd] using h); exact ⟨h.1, by simp only [upd]; exact hk2.out⟩, fun h => by
        have h' : B 5 = true := by simpa [upd] using h
        have hn := hne (by simp [hw]) h'
        have h := h6 h'
        exact ⟨h.1, by simp only [upd]; exact (hbl.out _ (fun e => hn e.symm)).trans h.2⟩, by simpa [upd] using hne⟩)
    · have hk := (h6 (by simp [hw])).2
      have hge := (h6 (by simp [hw])).1
      rw [hbj, cond_false] at hk
      have c0 := (hk.cells 0 (by omega)).1
      have c1 := (hk.cells 1 (by omega)).1
      have c2 := (hk.cells 2 (by omega)).1
      have f0 := (hk.cells 0 (by omega)).2
      have f1 := (hk.cells 1 (by omega)).2
      have f2 := (hk.cells 2 (by omega)).2
      simp only [fldK] at c0 c1 c2
      have hk2 := Lib.hid (kat_set hk Y.1 Y.2.1 Y.2.2)
      have hB2 := Lib.hid (set3_below hB hge (.int .i64 Y.1) (.int .i64 Y.2.1) (.int .i64 Y.2.2))
      have hbl := Lib.hid (fun j (hj : j ≠ p6) => set3_block wc p6 (.int .i64 Y.1) (.int .i64 Y.2.1) (.int .i64 Y.2.2) j hj)
      clear hk hge
      simp only [hw, cond_true]
      refine wpOpIn_step rfl ?_
      intro K' hK'
      go_simp
      exact hK' _ _ (hK _ _ ⟨p5, p6, by simp [upd, hw], hB2.out, fun h => by
        have h' : B 4 = true := by simpa [upd] using h
        have hn := hne h' (by simp [hw])
        have h := h5 h'
        exact ⟨h.1, by simp only [upd]; exact (hbl.out _ hn).trans h.2⟩, fun h => by have h := h6 (by simpa [upd] using h); exact ⟨h.1, by simp only [upd]; exact hk2.out⟩, by simpa [upd] using hne⟩)
  case fin =>
    intro B a w2 hall hI
    obtain ⟨p5, p6, rfl, hB, h5, h6, -⟩ := hI
    simp only [hall 0 (by decide), hall 1 (by decide), hall 2 (by decide), hall 3 (by decide), hall 4 (by decide), hall 5 (by decide), cond_true]
    have k5 := (h5 (hall 4 (by decide))).2
    have k6 := (h6 (hall 5 (by decide))).2
    rw [hall 6 (by decide), cond_true] at k5
    rw [hall 7 (by decide), cond_true] at k6
    have HB2 := Lib.hid (HB1.out.trans (hB.mono HB1.out.size))
    have HK5_2 := Lib.hid k5
    have HK6_2 := Lib.hid k6
    clear hall h5 h6 hB k5 k6 HA0 HS1 HS2 HS1_1 HS2_1
    obtain ⟨X1, X2, X3⟩ := X
    obtain ⟨Y1, Y2, Y3⟩ := Y
    have hn1 := next_some HX.out
    have hn2 := next_none HX.out
    have hp1 := back_some HX.out
    have hp2 := back_none HX.out
    have HN1 := Lib.hid hn1; have HN2 := Lib.hid hn2; have HP1 := Lib.hid hp1; have HP2 := Lib.hid hp2
    have HNx := Lib.hid (fun W => nextK_calls (X1, X2, X3) W)
    have HBk := Lib.hid (fun W => backK_calls (X1, X2, X3) W)
    clear hn1 hn2 hp1 hp2
    have HEn := Lib.hid (fun W => endsK_yes X1 W (show 0 ≤ X1 ∧ X1 ≤ 281474976710656 from HX.out.1))
    obtain ⟨z1, hz1⟩ : ∃ z, cfK (X1, X2, X3) (Y1, Y2, Y3) = z := ⟨_, rfl⟩
    have HO2 := Lib.hid (fun W => orderL_calls (X1, X2, X3) (Y1, Y2, Y3) W)
    rw [hz1] at HO2
    have HZ1 := Lib.hid hz1
    clear hz1
    obtain ⟨⟨⟨N1, N2, N3⟩, zz⟩, hN⟩ : ∃ n, nextK (X1, X2, X3) = n := ⟨_, rfl⟩
    rw [hN] at HNx HN1 HN2
    clear hN
    obtain ⟨⟨⟨P1, P2, P3⟩, yy⟩, hP⟩ : ∃ n, backK (X1, X2, X3) = n := ⟨_, rfl⟩
    rw [hP] at HBk HP1 HP2
    clear hP
    simp only at HNx HN1 HN2 HBk HP1 HP2
    have a0 := (HK5_2.out.cells 0 (by omega)).1
    have a1 := (HK5_2.out.cells 1 (by omega)).1
    have a2 := (HK5_2.out.cells 2 (by omega)).1
    simp only [fldK] at a0 a1 a2
    go_wp2_with fail
    clear a0 a1 a2
    refine (HNx.out _).mono ?_
    rintro e w3 ⟨rfl, hb⟩
    have K5_w3 := Lib.hid (show KAt w3 p5 (X1, X2, X3) from HK5_2.out.below hb)
    have K6_w3 := Lib.hid (show KAt w3 p6 (Y1, Y2, Y3) from HK6_2.out.below hb)
    have HB_w3 := Lib.hid (HB2.out.trans (hb.mono HB2.out.size))
    clear HK5_2 HK6_2 HB2
    clear hb
    have hb := (Below.refl w3.heap.size w3).alloc (Nat.le_refl _) (.cells #[.int .i64 N1, .int .i64 N2, .int .i64 N3] 23)
    have K5_w3a := Lib.hid (show KAt (w3.alloc (.cells #[.int .i64 N1, .int .i64 N2, .int .i64 N3] 23)) p5 (X1, X2, X3) from K5_w3.out.below hb)
    have K6_w3a := Lib.hid (show KAt (w3.alloc (.cells #[.int .i64 N1, .int .i64 N2, .int .i64 N3] 23)) p6 (Y1, Y2, Y3) from K6_w3.out.below hb)
    have HB_w3a := Lib.hid (HB_w3.out.trans (hb.mono HB_w3.out.size))
    clear K5_w3 K6_w3 HB_w3
    have K7_w3a := Lib.hid (show KAt (w3.alloc (.cells #[.int .i64 N1, .int .i64 N2, .int .i64 N3] 23)) (w3.heap.size) (N1, N2, N3) from World.alloc_heap_new w3 _)
    clear hb
    go_upto_if 28 with fail
    go_cut [8] (fun _ wx => Below w.heap.size w wx ∧ KAt wx p5 (X1, X2, X3) ∧ KAt wx p6 (Y1, Y2, Y3))
    case first =>
      by_cases hE : zz = 0
      · subst hE
        obtain ⟨hrN, hbk, hls, hbt⟩ := HN1.out rfl
        have HBN := Lib.hid (fun W => backK_calls (N1, N2, N3) W)
        rw [hbk] at HBN
        have HO1 := Lib.hid (fun W => orderL_calls (X1, X2, X3) (N1, N2, N3) W)
        rw [show cfK (X1, X2, X3) (N1, N2, N3) = -1 from cfK_less.2 hls] at HO1
        obtain ⟨z2, hz2⟩ : ∃ z, cfK (N1, N2, N3) (Y1, Y2, Y3) = z := ⟨_, rfl⟩
        have HO3 := Lib.hid (fun W => orderL_calls (N1, N2, N3) (Y1, Y2, Y3) W)
        rw [hz2] at HO3
        have HZ := Lib.hid (show z1 < 0 → ¬ 0 < z2 from fun h1 h2 => by
          rw [← HZ1.out] at h1
          rw [← hz2] at h2
          exact hbt _ HY.out (cfK_neg.1 h1) (cfK_pos.1 h2))
        clear hrN hbk hls hbt hz2
        have c0 := (K7_w3a.out.cells 0 (by omega)).1
        have c1 := (K7_w3a.out.cells 1 (by omega)).1
        have c2 := (K7_w3a.out.cells 2 (by omega)).1
        simp only [fldK] at c0 c1 c2
        go_wp2_with fail
        clear c0 c1 c2
        refine (HBN.out _).mono ?_
        rintro e w4 ⟨rfl, hb⟩
        have K5_w4 := Lib.hid (show KAt w4 p5 (X1, X2, X3) from K5_w3a.out.below hb)
        have K6_w4 := Lib.hid (show KAt w4 p6 (Y1, Y2, Y3) from K6_w3a.out.below hb)
        have K7_w4 := Lib.hid (show KAt w4 (w3.heap.size) (N1, N2, N3) from K7_w3a.out.below hb)
        have HB_w4 := Lib.hid (HB_w3a.out.trans (hb.mono HB_w3a.out.size))
        clear K5_w3a K6_w3a K7_w3a HB_w3a
        clear hb
        have hb := (Below.refl w4.heap.size w4).alloc (Nat.le_refl _) (.cells #[.int .i64 X1, .int .i64 X2, .int .i64 X3] 23)
        have K5_w4a := Lib.hid (show KAt (w4.alloc (.cells #[.int .i64 X1, .int .i64 X2, .int .i64 X3] 23)) p5 (X1, X2, X3) from K5_w4.out.below hb)
        have K6_w4a := Lib.hid (show KAt (w4.alloc (.cells #[.int .i64 X1, .int .i64 X2, .int .i64 X3] 23)) p6 (Y1, Y2, Y3) from K6_w4.out.below hb)
        have K7_w4a := Lib.hid (show KAt (w4.alloc (.cells #[.int .i64 X1, .int .i64 X2, .int .i64 X3] 23)) (w3.heap.size) (N1, N2, N3) from K7_w4.out.below hb)
        have HB_w4a := Lib.hid (HB_w4.out.trans (hb.mono HB_w4.out.size))
        clear K5_w4 K6_w4 K7_w4 HB_w4
        have K9_w4a := Lib.hid (show KAt (w4.alloc (.cells #[.int .i64 X1, .int .i64 X2, .int .i64 X3] 23)) (w4.heap.size) (X1, X2, X3) from World.alloc_heap_new w4 _)
        clear hb
        have a0 := (K5_w4a.out.cells 0 (by omega)).1
        have a1 := (K5_w4a.out.cells 1 (by omega)).1
        have a2 := (K5_w4a.out.cells 2 (by omega)).1
        have c0 := (K7_w4a.out.cells 0 (by omega)).1
        have c1 := (K7_w4a.out.cells 1 (by omega)).1
        have c2 := (K7_w4a.out.cells 2 (by omega)).1
        have d0 := (K9_w4a.out.cells 0 (by omega)).1
        have d1 := (K9_w4a.out.cells 1 (by omega)).1
        have d2 := (K9_w4a.out.cells 2 (by omega)).1
        simp only [fldK] at a0 a1 a2 c0 c1 c2 d0 d1 d2
        have q1 := fun W => neqK X1 X2 X3 X1 X2 X3 W
        go_wp2_with fail
        clear a0 a1 a2 c0 c1 c2 d0 d1 d2 q1
        refine (HO1.out _).mono ?_
        rintro e w5 ⟨rfl, hb⟩
        have K5_w5 := Lib.hid (show KAt w5 p5 (X1, X2, X3) from K5_w4a.out.below hb)
        have K6_w5 := Lib.hid (show KAt w5 p6 (Y1, Y2, Y3) from K6_w4a.out.below hb)
        have K7_w5 := Lib.hid (show KAt w5 (w3.heap.size) (N1, N2, N3) from K7_w4a.out.below hb)
        have K9_w5 := Lib.hid (show KAt w5 (w4.heap.size) (X1, X2, X3) from K9_w4a.out.below hb)
        have HB_w5 := Lib.hid (HB_w4a.out.trans (hb.mono HB_w4a.out.size))
        clear K5_w4a K6_w4a K7_w4a K9_w4a HB_w4a
        clear hb
        have a0 := (K5_w5.out.cells 0 (by omega)).1
        have a1 := (K5_w5.out.cells 1 (by omega)).1
        have a2 := (K5_w5.out.cells 2 (by omega)).1
        have b0 := (K6_w5.out.cells 0 (by omega)).1
        have b1 := (K6_w5.out.cells 1 (by omega)).1
        have b2 := (K6_w5.out.cells 2 (by omega)).1
        simp only [fldK] at a0 a1 a2 b0 b1 b2
        go_wp2_with fail
        clear a0 a1 a2 b0 b1 b2
        refine (HO2.out _).mono ?_
        rintro e w6 ⟨rfl, hb⟩
        have K5_w6 := Lib.hid (show KAt w6 p5 (X1, X2, X3) from K5_w5.out.below hb)
        have K6_w6 := Lib.hid (show KAt w6 p6 (Y1, Y2, Y3) from K6_w5.out.below hb)
        have K7_w6 := Lib.hid (show KAt w6 (w3.heap.size) (N1, N2, N3) from K7_w5.out.below hb)
        have K9_w6 := Lib.hid (show KAt w6 (w4.heap.size) (X1, X2, X3) from K9_w5.out.below hb)
        have HB_w6 := Lib.hid (HB_w5.out.trans (hb.mono HB_w5.out.size))
        clear K5_w5 K6_w5 K7_w5 K9_w5 HB_w5
        clear hb
        by_cases hc : z1 < 0
        · have hd1 : decide (z1 < 0) = true := decide_eq_true hc
          have hd2 : decide (0 < z2) = false := decide_eq_false (by have := HZ.out hc; omega)
          clear hc
          have c0 := (K7_w6.out.cells 0 (by omega)).1
          have c1 := (K7_w6.out.cells 1 (by omega)).1
          have c2 := (K7_w6.out.cells 2 (by omega)).1
          have b0 := (K6_w6.out.cells 0 (by omega)).1
          have b1 := (K6_w6.out.cells 1 (by omega)).1
          have b2 := (K6_w6.out.cells 2 (by omega)).1
          simp only [fldK] at c0 c1 c2 b0 b1 b2
          go_wp2_with fail
          clear c0 c1 c2 b0 b1 b2
          refine (HO3.out _).mono ?_
          rintro e wz ⟨rfl, hb⟩
          have K5_wz := Lib.hid (show KAt wz p5 (X1, X2, X3) from K5_w6.out.below hb)
          have K6_wz := Lib.hid (show KAt wz p6 (Y1, Y2, Y3) from K6_w6.out.below hb)
          have K7_wz := Lib.hid (show KAt wz (w3.heap.size) (N1, N2, N3) from K7_w6.out.below hb)
          have K9_wz := Lib.hid (show KAt wz (w4.heap.size) (X1, X2, X3) from K9_w6.out.below hb)
          have HB_wz := Lib.hid (HB_w6.out.trans (hb.mono HB_w6.out.size))
          clear K5_w6 K6_w6 K7_w6 K9_w6 HB_w6
          clear hb
          go_wp2_with fail
          go_meet
          exact ⟨HB_wz.out, K5_wz.out, K6_wz.out⟩
        · have hd1 : decide (z1 < 0) = false := decide_eq_false hc
          clear hc
          go_wp2_with fail
          go_meet
          exact ⟨HB_w6.out, K5_w6.out, K6_w6.out⟩
      · obtain ⟨eN, hno⟩ := HN2.out hE
        simp only [Prod.mk.injEq] at eN
        obtain ⟨⟨rfl, rfl, rfl⟩, rfl⟩ := eN
        have hd1 : decide (z1 < 0) = false := decide_eq_false (fun h => by rw [← HZ1.out] at h; exact hno _ HY.out (cfK_neg.1 h))
        clear hE hno
        have a0 := (K5_w3a.out.cells 0 (by omega)).1
        have a1 := (K5_w3a.out.cells 1 (by omega)).1
        have a2 := (K5_w3a.out.cells 2 (by omega)).1
        have b0 := (K6_w3a.out.cells 0 (by omega)).1
        have b1 := (K6_w3a.out.cells 1 (by omega)).1
        have b2 := (K6_w3a.out.cells 2 (by omega)).1
        have c0 := (K7_w3a.out.cells 0 (by omega)).1
        have c1 := (K7_w3a.out.cells 1 (by omega)).1
        have c2 := (K7_w3a.out.cells 2 (by omega)).1
        simp only [fldK] at a0 a1 a2 b0 b1 b2 c0 c1 c2
        have q1 := fun W => neqK 0 0 0 0 0 0 W
        go_wp2_with fail
        clear a0 a1 a2 b0 b1 b2 c0 c1 c2 q1
        refine (HO2.out _).mono ?_
        rintro e wz ⟨rfl, hb⟩
        have K5_wz := Lib.hid (show KAt wz p5 (X1, X2, X3) from K5_w3a.out.below hb)
        have K6_wz := Lib.hid (show KAt wz p6 (Y1, Y2, Y3) from K6_w3a.out.below hb)
        have K7_wz := Lib.hid (show KAt wz (w3.heap.size) (0, 0, 0) from K7_w3a.out.below hb)
        have HB_wz := Lib.hid (HB_w3a.out.trans (hb.mono HB_w3a.out.size))
        clear K5_w3a K6_w3a K7_w3a HB_w3a
        clear hb
        go_wp2_with fail
        go_meet
        exact ⟨HB_wz.out, K5_wz.out, K6_wz.out⟩
    case rest =>
      obtain ⟨hB7, h57, h67⟩ := hcut
      obtain ⟨w7, rfl⟩ : ∃ x : World, x = wc := ⟨_, rfl⟩
      have HB7 := Lib.hid hB7; have K5_7 := Lib.hid h57; have K6_7 := Lib.hid h67
      clear hB7 h57 h67 HB_w3a K5_w3a K6_w3a K7_w3a
      have a0 := (K5_7.out.cells 0 (by omega)).1
      have a1 := (K5_7.out.cells 1 (by omega)).1
      have a2 := (K5_7.out.cells 2 (by omega)).1
      simp only [fldK] at a0 a1 a2
      go_wp2_with fail
      clear a0 a1 a2
      refine (HBk.out _).mono ?_
      rintro e u3 ⟨rfl, hb⟩
      have K5_u3 := Lib.hid (show KAt u3 p5 (X1, X2, X3) from K5_7.out.below hb)
      have K6_u3 := Lib.hid (show KAt u3 p6 (Y1, Y2, Y3) from K6_7.out.below hb)
      have HB_u3 := Lib.hid (HB7.out.trans (hb.mono HB7.out.size))
      clear K5_7 K6_7 HB7
      clear hb
      have hb := (Below.refl u3.heap.size u3).alloc (Nat.le_refl _) (.cells #[.int .i64 P1, .int .i64 P2, .int .i64 P3] 23)
      have K5_u3a := Lib.hid (show KAt (u3.alloc (.cells #[.int .i64 P1, .int .i64 P2, .int .i64 P3] 23)) p5 (X1, X2, X3) from K5_u3.out.below hb)
      have K6_u3a := Lib.hid (show KAt (u3.alloc (.cells #[.int .i64 P1, .int .i64 P2, .int .i64 P3] 23)) p6 (Y1, Y2, Y3) from K6_u3.out.below hb)
      have HB_u3a := Lib.hid (HB_u3.out.trans (hb.mono HB_u3.out.size))
      clear K5_u3 K6_u3 HB_u3
      have K11_u3a := Lib.hid (show KAt (u3.alloc (.cells #[.int .i64 P1, .int .i64 P2, .int .i64 P3] 23)) (u3.heap.size) (P1, P2, P3) from World.alloc_heap_new u3 _)
      clear hb
      go_upto_if 78 with fail
      go_cut [8] (fun _ wx => Below w.heap.size w wx ∧ KAt wx p5 (X1, X2, X3) ∧ KAt wx p6 (Y1, Y2, Y3))
      case first =>
        by_cases hE : yy = 0
        · subst hE
          obtain ⟨hrN, hbk, hls, hbt⟩ := HP1.out rfl
          have HNP := Lib.hid (fun W => nextK_calls (P1, P2, P3) W)
          rw [hbk] at HNP
          have HU1 := Lib.hid (fun W => orderL_calls (P1, P2, P3) (X1, X2, X3) W)
          rw [show cfK (P1, P2, P3) (X1, X2, X3) = -1 from cfK_less.2 hls] at HU1
          obtain ⟨y2, hy2⟩ : ∃ z, cfK (P1, P2, P3) (Y1, Y2, Y3) = z := ⟨_, rfl⟩
          have HU3 := Lib.hid (fun W => orderL_calls (P1, P2, P3) (Y1, Y2, Y3) W)
          rw [hy2] at HU3
          have HZ2 := Lib.hid (show 0 < z1 → ¬ y2 < 0 from fun h1 h2 => by
            rw [← HZ1.out] at h1
            rw [← hy2] at h2
            exact hbt _ HY.out (cfK_pos.1 h1) (cfK_neg.1 h2))
          clear hrN hbk hls hbt hy2
          have c0 := (K11_u3a.out.cells 0 (by omega)).1
          have c1 := (K11_u3a.out.cells 1 (by omega)).1
          have c2 := (K11_u3a.out.cells 2 (by omega)).1
          simp only [fldK] at c0 c1 c2
          go_wp2_with fail
          clear c0 c1 c2
          refine (HNP.out _).mono ?_
          rintro e u4 ⟨rfl, hb⟩
          have K5_u4 := Lib.hid (show KAt u4 p5 (X1, X2, X3) from K5_u3a.out.below hb)
          have K6_u4 := Lib.hid (show KAt u4 p6 (Y1, Y2, Y3) from K6_u3a.out.below hb)
          have K11_u4 := Lib.hid (show KAt u4 (u3.heap.size) (P1, P2, P3) from K11_u3a.out.below hb)
          have HB_u4 := Lib.hid (HB_u3a.out.trans (hb.mono HB_u3a.out.size))
          clear K5_u3a K6_u3a K11_u3a HB_u3a
          clear hb
          have hb := (Below.refl u4.heap.size u4).alloc (Nat.le_refl _) (.cells #[.int .i64 X1, .int .i64 X2, .int .i64 X3] 23)
          have K5_u4a := Lib.hid (show KAt (u4.alloc (.cells #[.int .i64 X1, .int .i64 X2, .int .i64 X3] 23)) p5 (X1, X2, X3) from K5_u4.out.below hb)
          have K6_u4a := Lib.hid (show KAt (u4.alloc (.cells #[.int .i64 X1, .int .i64 X2, .int .i64 X3] 23)) p6 (Y1, Y2, Y3) from K6_u4.out.below hb)
          have K11_u4a := Lib.hid (show KAt (u4.alloc (.cells #[.int .i64 X1, .int .i64 X2, .int .i64 X3] 23)) (u3.heap.size) (P1, P2, P3) from K11_u4.out.below hb)
          have HB_u4a := Lib.hid (HB_u4.out.trans (hb.mono HB_u4.out.size))
          clear K5_u4 K6_u4 K11_u4 HB_u4
          have K12_u4a := Lib.hid (show KAt (u4.alloc (.cells #[.int .i64 X1, .int .i64 X2, .int .i64 X3] 23)) (u4.heap.size) (X1, X2, X3) from World.alloc_heap_new u4 _)
          clear hb
          have a0 := (K5_u4a.out.cells 0 (by omega)).1
          have a1 := (K5_u4a.out.cells 1 (by omega)).1
          have a2 := (K5_u4a.out.cells 2 (by omega)).1
          have c0 := (K11_u4a.out.cells 0 (by omega)).1
          have c1 := (K11_u4a.out.cells 1 (by omega)).1
          have c2 := (K11_u4a.out.cells 2 (by omega)).1
          have d0 := (K12_u4a.out.cells 0 (by omega)).1
          have d1 := (K12_u4a.out.cells 1 (by omega)).1
          have d2 := (K12_u4a.out.cells 2 (by omega)).1
          simp only [fldK] at a0 a1 a2 c0 c1 c2 d0 d1 d2
          have q1 := fun W => neqK X1 X2 X3 X1 X2 X3 W
          go_wp2_with fail
          clear a0 a1 a2 c0 c1 c2 d0 d1 d2 q1
          refine (HU1.out _).mono ?_
          rintro e u5 ⟨rfl, hb⟩
          have K5_u5 := Lib.hid (show KAt u5 p5 (X1, X2, X3) from K5_u4a.out.below hb)
          have K6_u5 := Lib.hid (show KAt u5 p6 (Y1, Y2, Y3) from K6_u4a.out.below hb)
          have K11_u5 := Lib.hid (show KAt u5 (u3.heap.size) (P1, P2, P3) from K11_u4a.out.below hb)
          have K12_u5 := Lib.hid (show KAt u5 (u4.heap.size) (X1, X2, X3) from K12_u4a.out.below hb)
          have HB_u5 := Lib.hid (HB_u4a.out.trans (hb.mono HB_u4a.out.size))
          clear K5_u4a K6_u4a K11_u4a K12_u4a HB_u4a
          clear hb
          have a0 := (K5_u5.out.cells 0 (by omega)).1
          have a1 := (K5_u5.out.cells 1 (by omega)).1
          have a2 := (K5_u5.out.cells 2 (by omega)).1
          have b0 := (K6_u5.out.cells 0 (by omega)).1
          have b1 := (K6_u5.out.cells 1 (by omega)).1
          have b2 := (K6_u5.out.cells 2 (by omega)).1
          simp only [fldK] at a0 a1 a2 b0 b1 b2
          go_wp2_with fail
          clear a0 a1 a2 b0 b1 b2
          refine (HO2.out _).mono ?_
          rintro e u6 ⟨rfl, hb⟩
          have K5_u6 := Lib.hid (show KAt u6 p5 (X1, X2, X3) from K5_u5.out.below hb)
          have K6_u6 := Lib.hid (show KAt u6 p6 (Y1, Y2, Y3) from K6_u5.out.below hb)
          have K11_u6 := Lib.hid (show KAt u6 (u3.heap.size) (P1, P2, P3) from K11_u5.out.below hb)
          have K12_u6 := Lib.hid (show KAt u6 (u4.heap.size) (X1, X2, X3) from K12_u5.out.below hb)
          have HB_u6 := Lib.hid (HB_u5.out.trans (hb.mono HB_u5.out.size))
          clear K5_u5 K6_u5 K11_u5 K12_u5 HB_u5
          clear hb
          by_cases hc : 0 < z1
          · have hd1 : decide (0 < z1) = true := decide_eq_true hc
            have hd2 : decide (y2 < 0) = false := decide_eq_false (by have := HZ2.out hc; omega)
            clear hc
            have c0 := (K11_u6.out.cells 0 (by omega)).1
            have c1 := (K11_u6.out.cells 1 (by omega)).1
            have c2 := (K11_u6.out.cells 2 (by omega)).1
            have b0 := (K6_u6.out.cells 0 (by omega)).1
            have b1 := (K6_u6.out.cells 1 (by omega)).1
            have b2 := (K6_u6.out.cells 2 (by omega)).1
            simp only [fldK] at c0 c1 c2 b0 b1 b2
            go_wp2_with fail
            clear c0 c1 c2 b0 b1 b2
            refine (HU3.out _).mono ?_
            rintro e uz ⟨rfl, hb⟩
            have K5_uz := Lib.hid (show KAt uz p5 (X1, X2, X3) from K5_u6.out.below hb)
            have K6_uz := Lib.hid (show KAt uz p6 (Y1, Y2, Y3) from K6_u6.out.below hb)
            have K11_uz := Lib.hid (show KAt uz (u3.heap.size) (P1, P2, P3) from K11_u6.out.below hb)
            have K12_uz := Lib.hid (show KAt uz (u4.heap.size) (X1, X2, X3) from K12_u6.out.below hb)
            have HB_uz := Lib.hid (HB_u6.out.trans (hb.mono HB_u6.out.size))
            clear K5_u6 K6_u6 K11_u6 K12_u6 HB_u6
            clear hb
            go_wp2_with fail
            go_meet
            exact ⟨HB_uz.out, K5_uz.out, K6_uz.out⟩
          · have hd1 : decide (0 < z1) = false := decide_eq_false hc
            clear hc
            go_wp2_with fail
            go_meet
            exact ⟨HB_u6.out, K5_u6.out, K6_u6.out⟩
        · obtain ⟨eN, hno⟩ := HP2.out hE
          simp only [Prod.mk.injEq] at eN
          obtain ⟨⟨rfl, rfl, rfl⟩, rfl⟩ := eN
          have hd1 : decide (0 < z1) = false := decide_eq_false (fun h => by rw [← HZ1.out] at h; exact hno _ HY.out (cfK_pos.1 h))
          clear hE hno
          have a0 := (K5_u3a.out.cells 0 (by omega)).1
          have a1 := (K5_u3a.out.cells 1 (by omega)).1
          have a2 := (K5_u3a.out.cells 2 (by omega)).1
          have b0 := (K6_u3a.out.cells 0 (by omega)).1
          have b1 := (K6_u3a.out.cells 1 (by omega)).1
          have b2 := (K6_u3a.out.cells 2 (by omega)).1
          have c0 := (K11_u3a.out.cells 0 (by omega)).1
          have c1 := (K11_u3a.out.cells 1 (by omega)).1
          have c2 := (K11_u3a.out.cells 2 (by omega)).1
          simp only [fldK] at a0 a1 a2 b0 b1 b2 c0 c1 c2
          have q1 := fun W => neqK 0 0 0 0 0 0 W
          go_wp2_with fail
          clear a0 a1 a2 b0 b1 b2 c0 c1 c2 q1
          refine (HO2.out _).mono ?_
          rintro e uz ⟨rfl, hb⟩
          have K5_uz := Lib.hid (show KAt uz p5 (X1, X2, X3) from K5_u3a.out.below hb)
          have K6_uz := Lib.hid (show KAt uz p6 (Y1, Y2, Y3) from K6_u3a.out.below hb)
          have K11_uz := Lib.hid (show KAt uz (u3.heap.size) (0, 0, 0) from K11_u3a.out.below hb)
          have HB_uz := Lib.hid (HB_u3a.out.trans (hb.mono HB_u3a.out.size))
          clear K5_u3a K6_u3a K11_u3a HB_u3a
          clear hb
          go_wp2_with fail
          go_meet
          exact ⟨HB_uz.out, K5_uz.out, K6_uz.out⟩
      case rest =>
        obtain ⟨hB8, h58, h68⟩ := hcut
        obtain ⟨w8, rfl⟩ : ∃ x : World, x = wc := ⟨_, rfl⟩
        have HB8 := Lib.hid hB8; have K5_8 := Lib.hid h58; have K6_8 := Lib.hid h68
        clear hB8 h58 h68 HB_u3a K5_u3a K6_u3a K11_u3a
        have a0 := (K5_8.out.cells 0 (by omega)).1
        have a1 := (K5_8.out.cells 1 (by omega)).1
        have a2 := (K5_8.out.cells 2 (by omega)).1
        simp only [fldK] at a0 a1 a2
        go_wp2_with fail
        clear a0 a1 a2
        refine (HEn.out _).mono ?_
        rintro e e1 ⟨rfl, hb⟩
        have K5_e1 := Lib.hid (show KAt e1 p5 (X1, X2, X3) from K5_8.out.below hb)
        have K6_e1 := Lib.hid (show KAt e1 p6 (Y1, Y2, Y3) from K6_8.out.below hb)
        have HB_e1 := Lib.hid (HB8.out.trans (hb.mono HB8.out.size))
        clear K5_8 K6_8 HB8
        clear hb
        have hb := (Below.refl e1.heap.size e1).alloc (Nat.le_refl _) (.cells #[.int .i64 X1, .int .i64 0, .int .i64 0] 23)
        have K5_e1a := Lib.hid (show KAt (e1.alloc (.cells #[.int .i64 X1, .int .i64 0, .int .i64 0] 23)) p5 (X1, X2, X3) from K5_e1.out.below hb)
        have K6_e1a := Lib.hid (show KAt (e1.alloc (.cells #[.int .i64 X1, .int .i64 0, .int .i64 0] 23)) p6 (Y1, Y2, Y3) from K6_e1.out.below hb)
        have HB_e1a := Lib.hid (HB_e1.out.trans (hb.mono HB_e1.out.size))
        clear K5_e1 K6_e1 HB_e1
        have K14_e1a := Lib.hid (show KAt (e1.alloc (.cells #[.int .i64 X1, .int .i64 0, .int .i64 0] 23)) (e1.heap.size) (X1, 0, 0) from World.alloc_heap_new e1 _)
        clear hb
        have hK15 := World.alloc_heap_new (e1.alloc (.cells #[.int .i64 X1, .int .i64 0, .int .i64 0] 23)) (.cells #[.int .i64 X1, .int .i64 16, .int .i64 4294967295] 23)
        rw [World.size_alloc] at hK15
        have K15H := Lib.hid hK15
        clear hK15
        have hb := (Below.refl (e1.alloc (.cells #[.int .i64 X1, .int .i64 0, .int .i64 0] 23)).heap.size (e1.alloc (.cells #[.int .i64 X1, .int .i64 0, .int .i64 0] 23))).alloc (Nat.le_refl _) (.cells #[.int .i64 X1, .int .i64 16, .int .i64 4294967295] 23)
        have K5_e1b := Lib.hid (show KAt ((e1.alloc (.cells #[.int .i64 X1, .int .i64 0, .int .i64 0] 23)).alloc (.cells #[.int .i64 X1, .int .i64 16, .int .i64 4294967295] 23)) p5 (X1, X2, X3) from K5_e1a.out.below hb)
        have K6_e1b := Lib.hid (show KAt ((e1.alloc (.cells #[.int .i64 X1, .int .i64 0, .int .i64 0] 23)).alloc (.cells #[.int .i64 X1, .int .i64 16, .int .i64 4294967295] 23)) p6 (Y1, Y2, Y3) from K6_e1a.out.below hb)
        have K14_e1b := Lib.hid (show KAt ((e1.alloc (.cells #[.int .i64 X1, .int .i64 0, .int .i64 0] 23)).alloc (.cells #[.int .i64 X1, .int .i64 16, .int .i64 4294967295] 23)) (e1.heap.size) (X1, 0, 0) from K14_e1a.out.below hb)
        have HB_e1b := Lib.hid (HB_e1a.out.trans (hb.mono HB_e1a.out.size))
        clear K5_e1a K6_e1a K14_e1a HB_e1a
        clear hb
        have K15_e1b := Lib.hid (show KAt ((e1.alloc (.cells #[.int .i64 X1, .int .i64 0, .int .i64 0] 23)).alloc (.cells #[.int .i64 X1, .int .i64 16, .int .i64 4294967295] 23)) (e1.heap.size + 1) (X1, 16, 4294967295) from K15H.out)
        clear K15H
        go_wp2_with fail
        obtain ⟨E, hW⟩ : ∃ W, W = ((e1.alloc (.cells #[.int .i64 X1, .int .i64 0, .int .i64 0] 23)).alloc (.cells #[.int .i64 X1, .int .i64 16, .int .i64 4294967295] 23)) := ⟨_, rfl⟩
        have K5_E := Lib.hid (show KAt E p5 (X1, X2, X3) from by rw [hW]; exact K5_e1b.out)
        clear K5_e1b
        have K6_E := Lib.hid (show KAt E p6 (Y1, Y2, Y3) from by rw [hW]; exact K6_e1b.out)
        clear K6_e1b
        have K14_E := Lib.hid (show KAt E (e1.heap.size) (X1, 0, 0) from by rw [hW]; exact K14_e1b.out)
        clear K14_e1b
        have K15_E := Lib.hid (show KAt E (e1.heap.size + 1) (X1, 16, 4294967295) from by rw [hW]; exact K15_e1b.out)
        clear K15_e1b
        have HB_E := Lib.hid (show Below w.heap.size w E from by rw [hW]; exact HB_e1b.out)
        clear HB_e1b
        rw [← hW]
        clear hW
        have l0 := fun n os => Go.cell_grown (n := n) (os := os) (w := E) (a := ⟨p5, 0, none⟩) K5_E.out.lt (K5_E.out.cells 0 (by omega)).1
        have m0 := fun n os => Go.cell_grown (n := n) (os := os) (w := E) (a := ⟨p6, 0, none⟩) K6_E.out.lt (K6_E.out.cells 0 (by omega)).1
        have m1 := fun n os => Go.cell_grown (n := n) (os := os) (w := E) (a := ⟨p6, 1, none⟩) K6_E.out.lt (K6_E.out.cells 1 (by omega)).1
        have m2 := fun n os => Go.cell_grown (n := n) (os := os) (w := E) (a := ⟨p6, 2, none⟩) K6_E.out.lt (K6_E.out.cells 2 (by omega)).1
        have n0 := fun n os => Go.cell_grown (n := n) (os := os) (w := E) (a := ⟨e1.heap.size, 0, none⟩) K14_E.out.lt (K14_E.out.cells 0 (by omega)).1
        have n1 := fun n os => Go.cell_grown (n := n) (os := os) (w := E) (a := ⟨e1.heap.size, 1, none⟩) K14_E.out.lt (K14_E.out.cells 1 (by omega)).1
        have n2 := fun n os => Go.cell_grown (n := n) (os := os) (w := E) (a := ⟨e1.heap.size, 2, none⟩) K14_E.out.lt (K14_E.out.cells 2 (by omega)).1
        have o0 := fun n os => Go.cell_grown (n := n) (os := os) (w := E) (a := ⟨e1.heap.size + 1, 0, none⟩) K15_E.out.lt (K15_E.out.cells 0 (by omega)).1
        have o1 := fun n os => Go.cell_grown (n := n) (os := os) (w := E) (a := ⟨e1.heap.size + 1, 1, none⟩) K15_E.out.lt (K15_E.out.cells 1 (by omega)).1
        have o2 := fun n os => Go.cell_grown (n := n) (os := os) (w := E) (a := ⟨e1.heap.size + 1, 2, none⟩) K15_E.out.lt (K15_E.out.cells 2 (by omega)).1
        simp only [fldK] at l0 m0 m1 m2 n0 n1 n2 o0 o1 o2
        obtain ⟨g1, hg1⟩ : ∃ z, cfK (X1, 0, 0) (Y1, Y2, Y3) = z := ⟨_, rfl⟩
        obtain ⟨g2, hg2⟩ : ∃ z, cfK (Y1, Y2, Y3) (X1, 16, 4294967295) = z := ⟨_, rfl⟩
        have hends := ends_is (t := X1) HY.out
        have i0 := Lib.hid (fun n os => Drawn.calls_grow (orderL3_calls X1 0 0 Y1 Y2 Y3 (Go.Sort.grow (E.drewN n) os)))
        have i1 := Lib.hid (fun n os => Drawn.calls_grow (orderL3_calls Y1 Y2 Y3 X1 16 4294967295 (Go.Sort.grow (E.drewN n) os)))
        rw [hg1, hg2] at hends
        rw [hg1] at i0
        rw [hg2] at i1
        clear hg1 hg2
        by_cases hz3 : g1 ≤ 0
        · have hd3 : decide (g1 ≤ 0) = true := decide_eq_true hz3
          by_cases hz4 : g2 ≤ 0
          · have hd4 : decide (g2 ≤ 0) = true := decide_eq_true hz4
            have hxy : decide (X1 = Y1) = true := decide_eq_true (hends.1 ⟨hz3, hz4⟩)
            clear hends hz3 hz4
            go_quiet_grown (first | (with_reducible exact Calls.grown_of (i0.out _ _)) | (with_reducible exact Calls.grown_of (i1.out _ _)))
            go_wp2
            go_ret
            exact ⟨by simpa using hxy, HB_E.out.trans ((below_grow E _ _).mono HB_E.out.size)⟩
          · have hd4 : decide (g2 ≤ 0) = false := decide_eq_false hz4
            have hxy : decide (X1 = Y1) = false := decide_eq_false (fun h => hz4 (hends.2 h).2)
            clear hends hz3 hz4
            go_quiet_grown (first | (with_reducible exact Calls.grown_of (i0.out _ _)) | (with_reducible exact Calls.grown_of (i1.out _ _)))
            go_wp2
            go_ret
            exact ⟨by simpa using hxy, HB_E.out.trans ((below_grow E _ _).mono HB_E.out.size)⟩
        · have hd3 : decide (g1 ≤ 0) = false := decide_eq_false hz3
          have hxy : decide (X1 = Y1) = false := decide_eq_false (fun h => hz3 (hends.2 h).1)
          clear hends hz3
          go_quiet_grown (first | (with_reducible exact Calls.grown_of (i0.out _ _)) | (with_reducible exact Calls.grown_of (i1.out _ _)))
          go_wp2
          go_ret
          exact ⟨by simpa using hxy, HB_E.out.trans ((below_grow E _ _).mono HB_E.out.size)⟩
end Go.Proofs.YtapaccbffhcjdaaDoor
