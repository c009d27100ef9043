/-
  THE WALK of KeyBytes: the bytes and the texts of two keys.
-/
import Derived.Test.YtapaccbffhcjdaaDoorKeyLawP
import Derived.Deep.Cut
import Derived.Deep.DeepCutAuto
namespace Go.Proofs.YtapaccbffhcjdaaDoor
open Go.RowKit Go.Shelf Go.Sort

set_option maxRecDepth 100000 in
set_option maxHeartbeats 4000000 in
theorem keyBytes_calls (x y : Ky) (w : World) (hx : SmallK x) (hy : SmallK y) (ht : Tab w) :
    Calls Tryd.prog 6 #[.agg #[.int .u64 x.1, .int .u32 x.2.1, .int .u32 x.2.2], .agg #[.int .u64 y.1, .int .u32 y.2.1, .int .u32 y.2.2]] w fun e w' => e = .returned (.bool true) ∧ Below w.heap.size w w' := by
  have mixed : Tryd.prog.follows .mixedOrders = true := by kernel_rfl
  have hX := made_right hx
  have hY := made_right hy
  have HM1 := Lib.hid (fun W => madeK_calls x W hx)
  have HM2 := Lib.hid (fun W => madeK_calls y W hy)
  obtain ⟨X, hXe⟩ : ∃ X, madeK x = X := ⟨_, rfl⟩
  obtain ⟨Y, hYe⟩ : ∃ Y, madeK y = Y := ⟨_, rfl⟩
  rw [hXe] at hX HM1
  rw [hYe] at hY HM2
  have HX := Lib.hid hX; have HY := Lib.hid hY
  have HA0 := Lib.hid (((Below.refl w.heap.size w).alloc (Nat.le_refl _) (.cells #[.int .u64 x.1, .int .u32 x.2.1, .int .u32 x.2.2] 33)).alloc (by simp) (.cells #[.int .u64 y.1, .int .u32 y.2.1, .int .u32 y.2.2] 33))
  have HS1 := Lib.hid (show SAt ((w.alloc (.cells #[.int .u64 x.1, .int .u32 x.2.1, .int .u32 x.2.2] 33)).alloc (.cells #[.int .u64 y.1, .int .u32 y.2.1, .int .u32 y.2.2] 33)) w.heap.size x from (Below.heap_alloc _ _ _ (by simp)).trans (World.alloc_heap_new w _))
  have HS2 := Lib.hid (show SAt ((w.alloc (.cells #[.int .u64 x.1, .int .u32 x.2.1, .int .u32 x.2.2] 33)).alloc (.cells #[.int .u64 y.1, .int .u32 y.2.1, .int .u32 y.2.2] 33)) (w.heap.size + 1) y from by
    have := World.alloc_heap_new (w.alloc (.cells #[.int .u64 x.1, .int .u32 x.2.1, .int .u32 x.2.2] 33)) (.cells #[.int .u64 y.1, .int .u32 y.2.1, .int .u32 y.2.2] 33)
    rw [World.size_alloc] at this
    exact this)
  clear hX hY hXe hYe hx hy
  go_enter Tryd.func6, Tryd.ntmps6
  go_wp2_with fail
  refine (awakeK_calls _).mono ?_
  rintro e w1 ⟨rfl, hb1⟩
  have HB1 := Lib.hid (HA0.out.trans (hb1.mono HA0.out.size))
  have HS1_1 := Lib.hid (show SAt w1 w.heap.size x from (hb1.block _ HS1.out.lt).trans HS1.out)
  have HS2_1 := Lib.hid (show SAt w1 (w.heap.size + 1) y from (hb1.block _ HS2.out.lt).trans HS2.out)
  clear hb1
  go_wp2_with fail
  refine (wpIn_wide (n := 5)).1 ?_
  refine wpIn_region_inv (by kernel_rfl) (by kernel_rfl) (fun B a wc => ∃ p5 p6 : Nat, a = { tmps := #[.agg #[.int .u64 x.1, .int .u32 x.2.1, .int .u32 x.2.2], .agg #[.int .u64 y.1, .int .u32 y.2.1, .int .u32 y.2.2], .pointer (some ⟨w.heap.size, 0, none⟩), .pointer (some ⟨w.heap.size + 1, 0, none⟩), .bool false, bif B 4 then .pointer (some ⟨p5, 0, none⟩) else undef, bif B 5 then .pointer (some ⟨p6, 0, none⟩) else undef, undef, undef, undef, undef, undef, undef, undef, undef, undef, undef, undef, undef, .bool true, .bool false, bif B 0 then .agg #[.int .u64 x.1, .int .u32 x.2.1, .int .u32 x.2.2] else undef, bif B 1 then .agg #[.int .i64 X.1, .int .i64 X.2.1, .int .i64 X.2.2] else undef, bif B 2 then .agg #[.int .u64 y.1, .int .u32 y.2.1, .int .u32 y.2.2] else undef, bif B 3 then .agg #[.int .i64 Y.1, .int .i64 Y.2.1, .int .i64 Y.2.2] else undef, undef, undef, undef, undef, undef, undef, undef, undef, undef, undef, undef, undef, undef, undef, undef, undef, undef, undef, undef, undef, undef, undef, undef, undef, undef, undef, undef, undef, undef, undef, undef, undef, undef, undef, undef, undef, undef, undef, undef, undef, undef, undef, undef, undef, undef, undef, undef, undef, undef, undef, undef, undef, undef, undef, undef, undef, undef, undef, undef, undef, undef, undef, undef, undef, undef, undef, undef, undef, undef, undef, undef, undef, undef, undef, undef, undef, undef, undef, undef, undef, undef, undef, undef, undef, undef, undef, undef], defers := [] } ∧ Below w1.heap.size w1 wc ∧ (B 4 = true → w1.heap.size ≤ p5 ∧ KAt wc p5 (bif B 6 then X else (0, 0, 0))) ∧ (B 5 = true → w1.heap.size ≤ p6 ∧ KAt wc p6 (bif B 7 then Y else (0, 0, 0))) ∧ (B 4 = true → B 5 = true → p5 ≠ p6)) ?init ?step ?fin
  case init => exact ⟨0, 0, rfl, (Below.refl _ _).drew, by simp, by simp, by simp⟩
  case step =>
    intro B j a wc hj hbj hcl hw hI K hK
    obtain ⟨p5, p6, rfl, hB, h5, h6, hne⟩ := hI
    have hj : j < 8 := hj
    have s1 : SAt wc w.heap.size x := (hB.block _ HS1_1.out.lt).trans HS1_1.out
    have s2 : SAt wc (w.heap.size + 1) y := (hB.block _ HS2_1.out.lt).trans HS2_1.out
    obtain ⟨a1, a2, a3⟩ := s1.cells
    obtain ⟨b1, b2, b3⟩ := s2.cells
    have hcl6 := hcl 6 (by decide)
    have hcl7 := hcl 7 (by decide)
    clear hcl s1 s2
    obtain rfl | rfl | rfl | rfl | rfl | rfl | rfl | rfl : j = 0 ∨ j = 1 ∨ j = 2 ∨ j = 3 ∨ j = 4 ∨ j = 5 ∨ j = 6 ∨ j = 7 := by omega
    all_goals (simp [waits, Region.binds] at hw hcl6 hcl7)
    · simp only [hbj, cond_false]
      refine wpOpIn_step rfl ?_
      intro K' hK'
      go_simp
      exact hK' _ _ (hK _ _ ⟨p5, p6, by simp [upd], hB, by simpa [upd] using h5, by simpa [upd] using h6, by simpa [upd] using hne⟩)
    · simp only [hbj, hw, cond_true, cond_false]
      refine wpOpIn_step rfl ?_
      intro K' hK'
      go_simp
      refine ⟨trivial, (callsIn_wide.2 (HM1.out wc)).mono ?_⟩
      rintro e w' ⟨rfl, hb⟩
      exact hK' _ _ (hK _ _ ⟨p5, p6, by simp [upd, hw], hB.trans (hb.mono hB.size), fun h => by have h := h5 (by simpa [upd] using h); exact ⟨h.1, by simp only [upd]; exact (hb.block _ h.2.lt).trans h.2⟩, fun h => by have h := h6 (by simpa [upd] using h); exact ⟨h.1, by simp only [upd]; exact (hb.block _ h.2.lt).trans h.2⟩, by simpa [upd] using hne⟩)
    · simp only [hbj, cond_false]
      refine wpOpIn_step rfl ?_
      intro K' hK'
      go_simp
      exact hK' _ _ (hK _ _ ⟨p5, p6, by simp [upd], hB, by simpa [upd] using h5, by simpa [upd] using h6, by simpa [upd] using hne⟩)
    · simp only [hbj, hw, cond_true, cond_false]
      refine wpOpIn_step rfl ?_
      intro K' hK'
      go_simp
      refine ⟨trivial, (callsIn_wide.2 (HM2.out wc)).mono ?_⟩
      rintro e w' ⟨rfl, hb⟩
      exact hK' _ _ (hK _ _ ⟨p5, p6, by simp [upd, hw], hB.trans (hb.mono hB.size), fun h => by have h := h5 (by simpa [upd] using h); exact ⟨h.1, by simp only [upd]; exact (hb.block _ h.2.lt).trans h.2⟩, fun h => by have h := h6 (by simpa [upd] using h); exact ⟨h.1, by simp only [upd]; exact (hb.block _ h.2.lt).trans h.2⟩, by simpa [upd] using hne⟩)
    · have n6 : B 6 = false := by
        cases h : B 6 with
        | false => rfl
        | true => have h2 := hcl6 h; simp [hbj] at h2
      simp only [hbj, cond_false]
      refine wpOpIn_step rfl ?_
      intro K' hK'
      go_simp
      have hb := (Below.refl wc.heap.size wc).alloc (Nat.le_refl _) (.cells #[.int .i64 0, .int .i64 0, .int .i64 0] 23)
      exact hK' _ _ (hK _ _ ⟨wc.heap.size, p6, by simp [upd], hB.trans (hb.mono hB.size), fun _ => ⟨hB.size, by simp only [upd, n6]; exact World.alloc_heap_new wc _⟩, fun h => by have h := h6 (by simpa [upd] using h); exact ⟨h.1, by simp only [upd]; exact (hb.block _ h.2.lt).trans h.2⟩, fun _ h => by have h := (h6 (by simpa [upd] using h)).2.lt; omega⟩)
    · have n7 : B 7 = false := by
        cases h : B 7 with
        | false => rfl
        | true => have h2 := hcl7 h; simp [hbj] at h2
      simp only [hbj, cond_false]
      refine wpOpIn_step rfl ?_
      intro K' hK'
      go_simp
      have hb := (Below.refl wc.heap.size wc).alloc (Nat.le_refl _) (.cells #[.int .i64 0, .int .i64 0, .int .i64 0] 23)
      exact hK' _ _ (hK _ _ ⟨p5, wc.heap.size, by simp [upd], hB.trans (hb.mono hB.size), fun h => by have h := h5 (by simpa [upd] using h); exact ⟨h.1, by simp only [upd]; exact (hb.block _ h.2.lt).trans h.2⟩, fun _ => ⟨hB.size, by simp only [upd, n7]; exact World.alloc_heap_new wc _⟩, fun h _ => by have h := (h5 (by simpa [upd] using h)).2.lt; omega⟩)
    · have hk := (h5 (by simp [hw])).2
      have hge := (h5 (by simp [hw])).1
      rw [hbj, cond_false] at hk
      have c0 := (hk.cells 0 (by omega)).1
      have c1 := (hk.cells 1 (by omega)).1
      have c2 := (hk.cells 2 (by omega)).1
      have f0 := (hk.cells 0 (by omega)).2
      have f1 := (hk.cells 1 (by omega)).2
      have f2 := (hk.cells 2 (by omega)).2
      simp only [fldK] at c0 c1 c2
      have hk2 := Lib.hid (kat_set hk X.1 X.2.1 X.2.2)
      have hB2 := Lib.hid (set3_below hB hge (.int .i64 X.1) (.int .i64 X.2.1) (.int .i64 X.2.2))
      have hbl := Lib.hid (fun j (hj : j ≠ p5) => set3_block wc p5 (.int .i64 X.1) (.int .i64 X.2.1) (.int .i64 X.2.2) j hj)
      clear hk hge
      simp only [hw, cond_true]
      refine wpOpIn_step rfl ?_
      intro K' hK'
      go_simp
      exact hK' _ _ (hK _ _ ⟨p5, p6, by simp [upd, hw], hB2.out, fun h => by have h := h5 (by simpa [upd] using h); exact ⟨h.1, by simp only [upd]; exact hk2.out⟩, fun h => by
        have h' : B 5 = true := by simpa [upd] using h
        have hn := hne (by simp [hw]) h'
        have h := h6 h'
        exact ⟨h.1, by simp only [upd]; exact (hbl.out _ (fun e => hn e.symm)).trans h.2⟩, by simpa [upd] using hne⟩)
    · have hk := (h6 (by simp [hw])).2
      have hge := (h6 (by simp [hw])).1
      rw [hbj, cond_false] at hk
      have c0 := (hk.cells 0 (by omega)).1
      have c1 := (hk.cells 1 (by omega)).1
      have c2 := (hk.cells 2 (by omega)).1
      have f0 := (hk.cells 0 (by omega)).2
      have f1 := (hk.cells 1 (by omega)).2
      have f2 := (hk.cells 2 (by omega)).2
      simp only [fldK] at c0 c1 c2
      have hk2 := Lib.hid (kat_set hk Y.1 Y.2.1 Y.2.2)
      have hB2 := Lib.hid (set3_below hB hge (.int .i64 Y.1) (.int .i64 Y.2.1) (.int .i64 Y.2.2))
      have hbl := Lib.hid (fun j (hj : j ≠ p6) => set3_block wc p6 (.int .i64 Y.1) (.int .i64 Y.2.1) (.int .i64 Y.2.2) j hj)
      clear hk hge
      simp only [hw, cond_true]
      refine wpOpIn_step rfl ?_
      intro K' hK'
      go_simp
      exact hK' _ _ (hK _ _ ⟨p5, p6, by simp [upd, hw], hB2.out, fun h => by
        have h' : B 4 = true := by simpa [upd] using h
        have hn := hne h' (by simp [hw])
        have h := h5 h'
        exact ⟨h.1, by simp only [upd]; exact (hbl.out _ hn).trans h.2⟩, fun h => by have h := h6 (by simpa [upd] using h); exact ⟨h.1, by simp only [upd]; exact hk2.out⟩, by simpa [upd] using hne⟩)
  case fin =>
    intro B a w2 hall hI
    obtain ⟨p5, p6, rfl, hB, h5, h6, -⟩ := hI
    simp only [hall 0 (by decide), hall 1 (by decide), hall 2 (by decide), hall 3 (by decide), hall 4 (by decide), hall 5 (by decide), cond_true]
    have k5 := (h5 (hall 4 (by decide))).2
    have k6 := (h6 (hall 5 (by decide))).2
    rw [hall 6 (by decide), cond_true] at k5
    rw [hall 7 (by decide), cond_true] at k6
    have HB2 := Lib.hid (HB1.out.trans (hB.mono HB1.out.size))
    have HK5_2 := Lib.hid k5
    have HK6_2 := Lib.hid k6
    clear hall h5 h6 hB k5 k6 HA0 HS1 HS2 HS1_1 HS2_1
    obtain ⟨X1, X2, X3⟩ := X
    obtain ⟨Y1, Y2, Y3⟩ := Y
    have HTb := Lib.hid (fun (W : World) (hb : Below w.heap.size w W) => ht.below hb)
    have HBx := Lib.hid (fun W => bytesK_yes (X1, X2, X3) W HX.out)
    have HBy := Lib.hid (fun W => bytesK_yes (Y1, Y2, Y3) W HY.out)
    have HTx := Lib.hid (fun W (h : Tab W) => textK_yes (X1, X2, X3) W HX.out (.inl h))
    have HTy := Lib.hid (fun W (h : Tab W) => textK_yes (Y1, Y2, Y3) W HY.out (.inl h))
    obtain ⟨bx, hbx⟩ : ∃ l, bytesK (X1, X2, X3) = l := ⟨_, rfl⟩
    obtain ⟨by_, hby⟩ : ∃ l, bytesK (Y1, Y2, Y3) = l := ⟨_, rfl⟩
    obtain ⟨tx_, htx⟩ : ∃ l, textK (X1, X2, X3) = l := ⟨_, rfl⟩
    obtain ⟨ty_, hty⟩ : ∃ l, textK (Y1, Y2, Y3) = l := ⟨_, rfl⟩
    have hlx : bx.length = 12 := by rw [← hbx]; exact bytesK_length _
    have hrd : rdV bx = (X1, X2, X3) ∧ rdE bx = 0 := by
      have e : keyB bx = (X1, X2, X3) := by rw [← hbx]; exact keyB_bytes HX.out
      have := rd_yes hlx (by rw [e]; exact HX.out)
      rw [e] at this
      exact this
    have hok := textOk_text HX.out
    rw [htx] at hok
    have hle := text_le HX.out
    rw [htx] at hle
    have HRd := Lib.hid (fun W v (h : BR W v bx) => readK_calls v bx W h)
    rw [hrd.1, hrd.2] at HRd
    have HPs := Lib.hid (fun W => (parseK_calls tx_ W (by omega)).mono fun e W' (h : ((textOk tx_ ∧ e = .returned (.tuple #[.agg #[.int .i64 (keyT tx_).1, .int .i64 (keyT tx_).2.1, .int .i64 (keyT tx_).2.2], .int .i64 0])) ∨ (¬ textOk tx_ ∧ e = .returned (.tuple #[.agg #[.int .i64 0, .int .i64 0, .int .i64 0], .int .i64 72]))) ∧ Below W.heap.size W W') => (show e = .returned (.tuple #[.agg #[.int .i64 X1, .int .i64 X2, .int .i64 X3], .int .i64 0]) ∧ Below W.heap.size W W' from
      ⟨h.1.elim (fun k => by rw [k.2, hok.2]) (fun k => absurd hok.1 k.1), h.2⟩))
    have hst : decide (tx_ = ty_) = decide ((X1, X2, X3) = (Y1, Y2, Y3)) := decide_eq_decide.2 (by rw [← htx, ← hty]; exact textK_inj HX.out HY.out)
    have hlex : lexB bx by_ = cfK (X1, X2, X3) (Y1, Y2, Y3) := by rw [← hbx, ← hby]; exact lex_bytes HX.out HY.out
    have hanti := cfK_anti (X1, X2, X3) (Y1, Y2, Y3)
    have HO1 := Lib.hid (fun W => orderL_calls (X1, X2, X3) (Y1, Y2, Y3) W)
    have HO2 := Lib.hid (fun W => orderL_calls (Y1, Y2, Y3) (X1, X2, X3) W)
    have HCm := Lib.hid (fun W v v' (h : BR W v bx) (h' : BR W v' by_) => bytesCompareB_calls v v' bx by_ W h h')
    rw [hlex] at HCm
    rw [hanti] at HO2
    have hvals := cfK_vals (X1, X2, X3) (Y1, Y2, Y3)
    obtain ⟨z, hz⟩ : ∃ z, cfK (X1, X2, X3) (Y1, Y2, Y3) = z := ⟨_, rfl⟩
    rw [hz] at HO1 HO2 HCm hvals
    rw [hbx] at HBx
    rw [hby] at HBy
    rw [htx] at HTx
    rw [hty] at HTy
    have hneg : IntKind.i64.wrap (-z) = -z := by rw [IntKind.wrap_i64]; omega
    have HNeg := Lib.hid hneg
    have HLx := Lib.hid hlx
    have HSt := Lib.hid hst
    clear hbx hby htx hty hlx hrd hok hle hlex hanti hz hst hneg
    have a0 := (HK5_2.out.cells 0 (by omega)).1
    have a1 := (HK5_2.out.cells 1 (by omega)).1
    have a2 := (HK5_2.out.cells 2 (by omega)).1
    simp only [fldK] at a0 a1 a2
    go_wp2_with fail
    clear a0 a1 a2
    refine (HBx.out _).mono ?_
    rintro e w3 ⟨⟨vp, rfl, hvp⟩, hb⟩
    have K5_w3 := Lib.hid (show KAt w3 p5 (X1, X2, X3) from HK5_2.out.below hb)
    have K6_w3 := Lib.hid (show KAt w3 p6 (Y1, Y2, Y3) from HK6_2.out.below hb)
    have HB_w3 := Lib.hid (HB2.out.trans (hb.mono HB2.out.size))
    clear HK5_2 HK6_2 HB2
    have VP_w3 := Lib.hid (show BR w3 vp bx from hvp)
    clear hvp
    clear hb
    have b0 := (K6_w3.out.cells 0 (by omega)).1
    have b1 := (K6_w3.out.cells 1 (by omega)).1
    have b2 := (K6_w3.out.cells 2 (by omega)).1
    simp only [fldK] at b0 b1 b2
    go_wp2_with fail
    clear b0 b1 b2
    refine (HBy.out _).mono ?_
    rintro e w4 ⟨⟨vq, rfl, hvq⟩, hb⟩
    have K5_w4 := Lib.hid (show KAt w4 p5 (X1, X2, X3) from K5_w3.out.below hb)
    have K6_w4 := Lib.hid (show KAt w4 p6 (Y1, Y2, Y3) from K6_w3.out.below hb)
    have VP_w4 := Lib.hid (show BR w4 vp bx from VP_w3.out.below hb)
    have HB_w4 := Lib.hid (HB_w3.out.trans (hb.mono HB_w3.out.size))
    clear K5_w3 K6_w3 VP_w3 HB_w3
    have VQ_w4 := Lib.hid (show BR w4 vq by_ from hvq)
    clear hvq
    clear hb
    have a0 := (K5_w4.out.cells 0 (by omega)).1
    have a1 := (K5_w4.out.cells 1 (by omega)).1
    have a2 := (K5_w4.out.cells 2 (by omega)).1
    simp only [fldK] at a0 a1 a2
    go_wp2_with fail
    clear a0 a1 a2
    refine (HTx.out _ (HTb.out _ HB_w4.out)).mono ?_
    rintro e w5 ⟨rfl, hb⟩
    have K5_w5 := Lib.hid (show KAt w5 p5 (X1, X2, X3) from K5_w4.out.below hb)
    have K6_w5 := Lib.hid (show KAt w5 p6 (Y1, Y2, Y3) from K6_w4.out.below hb)
    have VP_w5 := Lib.hid (show BR w5 vp bx from VP_w4.out.below hb)
    have VQ_w5 := Lib.hid (show BR w5 vq by_ from VQ_w4.out.below hb)
    have HB_w5 := Lib.hid (HB_w4.out.trans (hb.mono HB_w4.out.size))
    clear K5_w4 K6_w4 VP_w4 VQ_w4 HB_w4
    clear hb
    have b0 := (K6_w5.out.cells 0 (by omega)).1
    have b1 := (K6_w5.out.cells 1 (by omega)).1
    have b2 := (K6_w5.out.cells 2 (by omega)).1
    simp only [fldK] at b0 b1 b2
    go_wp2_with fail
    clear b0 b1 b2
    refine (HTy.out _ (HTb.out _ HB_w5.out)).mono ?_
    rintro e w6 ⟨rfl, hb⟩
    have K5_w6 := Lib.hid (show KAt w6 p5 (X1, X2, X3) from K5_w5.out.below hb)
    have K6_w6 := Lib.hid (show KAt w6 p6 (Y1, Y2, Y3) from K6_w5.out.below hb)
    have VP_w6 := Lib.hid (show BR w6 vp bx from VP_w5.out.below hb)
    have VQ_w6 := Lib.hid (show BR w6 vq by_ from VQ_w5.out.below hb)
    have HB_w6 := Lib.hid (HB_w5.out.trans (hb.mono HB_w5.out.size))
    clear K5_w5 K6_w5 VP_w5 VQ_w5 HB_w5
    clear hb
    go_wp2_with fail
    refine (HRd.out _ _ VP_w6.out).mono ?_
    rintro e w7 ⟨rfl, hb⟩
    have K5_w7 := Lib.hid (show KAt w7 p5 (X1, X2, X3) from K5_w6.out.below hb)
    have K6_w7 := Lib.hid (show KAt w7 p6 (Y1, Y2, Y3) from K6_w6.out.below hb)
    have VP_w7 := Lib.hid (show BR w7 vp bx from VP_w6.out.below hb)
    have VQ_w7 := Lib.hid (show BR w7 vq by_ from VQ_w6.out.below hb)
    have HB_w7 := Lib.hid (HB_w6.out.trans (hb.mono HB_w6.out.size))
    clear K5_w6 K6_w6 VP_w6 VQ_w6 HB_w6
    clear hb
    have hb := (Below.refl w7.heap.size w7).alloc (Nat.le_refl _) (.cells #[.int .i64 X1, .int .i64 X2, .int .i64 X3] 23)
    have K5_w7a := Lib.hid (show KAt (w7.alloc (.cells #[.int .i64 X1, .int .i64 X2, .int .i64 X3] 23)) p5 (X1, X2, X3) from K5_w7.out.below hb)
    have K6_w7a := Lib.hid (show KAt (w7.alloc (.cells #[.int .i64 X1, .int .i64 X2, .int .i64 X3] 23)) p6 (Y1, Y2, Y3) from K6_w7.out.below hb)
    have VP_w7a := Lib.hid (show BR (w7.alloc (.cells #[.int .i64 X1, .int .i64 X2, .int .i64 X3] 23)) vp bx from VP_w7.out.below hb)
    have VQ_w7a := Lib.hid (show BR (w7.alloc (.cells #[.int .i64 X1, .int .i64 X2, .int .i64 X3] 23)) vq by_ from VQ_w7.out.below hb)
    have HB_w7a := Lib.hid (HB_w7.out.trans (hb.mono HB_w7.out.size))
    clear K5_w7 K6_w7 VP_w7 VQ_w7 HB_w7
    have K15_w7a := Lib.hid (show KAt (w7.alloc (.cells #[.int .i64 X1, .int .i64 X2, .int .i64 X3] 23)) (w7.heap.size) (X1, X2, X3) from World.alloc_heap_new w7 _)
    clear hb
    go_wp2_with fail
    refine (HPs.out _).mono ?_
    rintro e w8 ⟨rfl, hb⟩
    have K5_w8 := Lib.hid (show KAt w8 p5 (X1, X2, X3) from K5_w7a.out.below hb)
    have K6_w8 := Lib.hid (show KAt w8 p6 (Y1, Y2, Y3) from K6_w7a.out.below hb)
    have VP_w8 := Lib.hid (show BR w8 vp bx from VP_w7a.out.below hb)
    have VQ_w8 := Lib.hid (show BR w8 vq by_ from VQ_w7a.out.below hb)
    have K15_w8 := Lib.hid (show KAt w8 (w7.heap.size) (X1, X2, X3) from K15_w7a.out.below hb)
    have HB_w8 := Lib.hid (HB_w7a.out.trans (hb.mono HB_w7a.out.size))
    clear K5_w7a K6_w7a VP_w7a VQ_w7a K15_w7a HB_w7a
    clear hb
    have hb := (Below.refl w8.heap.size w8).alloc (Nat.le_refl _) (.cells #[.int .i64 X1, .int .i64 X2, .int .i64 X3] 23)
    have K5_w8a := Lib.hid (show KAt (w8.alloc (.cells #[.int .i64 X1, .int .i64 X2, .int .i64 X3] 23)) p5 (X1, X2, X3) from K5_w8.out.below hb)
    have K6_w8a := Lib.hid (show KAt (w8.alloc (.cells #[.int .i64 X1, .int .i64 X2, .int .i64 X3] 23)) p6 (Y1, Y2, Y3) from K6_w8.out.below hb)
    have VP_w8a := Lib.hid (show BR (w8.alloc (.cells #[.int .i64 X1, .int .i64 X2, .int .i64 X3] 23)) vp bx from VP_w8.out.below hb)
    have VQ_w8a := Lib.hid (show BR (w8.alloc (.cells #[.int .i64 X1, .int .i64 X2, .int .i64 X3] 23)) vq by_ from VQ_w8.out.below hb)
    have K15_w8a := Lib.hid (show KAt (w8.alloc (.cells #[.int .i64 X1, .int .i64 X2, .int .i64 X3] 23)) (w7.heap.size) (X1, X2, X3) from K15_w8.out.below hb)
    have HB_w8a := Lib.hid (HB_w8.out.trans (hb.mono HB_w8.out.size))
    clear K5_w8 K6_w8 VP_w8 VQ_w8 K15_w8 HB_w8
    have K17_w8a := Lib.hid (show KAt (w8.alloc (.cells #[.int .i64 X1, .int .i64 X2, .int .i64 X3] 23)) (w8.heap.size) (X1, X2, X3) from World.alloc_heap_new w8 _)
    clear hb
    have a0 := (K5_w8a.out.cells 0 (by omega)).1
    have a1 := (K5_w8a.out.cells 1 (by omega)).1
    have a2 := (K5_w8a.out.cells 2 (by omega)).1
    have b0 := (K6_w8a.out.cells 0 (by omega)).1
    have b1 := (K6_w8a.out.cells 1 (by omega)).1
    have b2 := (K6_w8a.out.cells 2 (by omega)).1
    have c0 := (K15_w8a.out.cells 0 (by omega)).1
    have c1 := (K15_w8a.out.cells 1 (by omega)).1
    have c2 := (K15_w8a.out.cells 2 (by omega)).1
    have d0 := (K17_w8a.out.cells 0 (by omega)).1
    have d1 := (K17_w8a.out.cells 1 (by omega)).1
    have d2 := (K17_w8a.out.cells 2 (by omega)).1
    simp only [fldK] at a0 a1 a2 b0 b1 b2 c0 c1 c2 d0 d1 d2
    have q1 := fun W => neqK X1 X2 X3 X1 X2 X3 W
    have q2 := fun W => eqlK X1 X2 X3 Y1 Y2 Y3 W
    obtain ⟨av, cv, rfl, -, -⟩ := VP_w8a.out.shape
    have hl12 : ((bx.length : Nat) : Int) = 12 := by rw [HLx.out]; rfl
    have hst : (tx_ == ty_) = decide ((X1, X2, X3) = (Y1, Y2, Y3)) := by
      rw [← HSt.out, Bool.eq_iff_iff, beq_iff_eq, decide_eq_true_iff]
    generalize decide ((X1, X2, X3) = (Y1, Y2, Y3)) = dd at *
    go_wp2_with fail
    clear a0 a1 a2 b0 b1 b2 c0 c1 c2 d0 d1 d2 q1 q2 hst hl12 HSt
    obtain ⟨E, hW⟩ : ∃ W, W = (w8.alloc (.cells #[.int .i64 X1, .int .i64 X2, .int .i64 X3] 23)) := ⟨_, rfl⟩
    have K5_E := Lib.hid (show KAt E p5 (X1, X2, X3) from by rw [hW]; exact K5_w8a.out)
    clear K5_w8a
    have K6_E := Lib.hid (show KAt E p6 (Y1, Y2, Y3) from by rw [hW]; exact K6_w8a.out)
    clear K6_w8a
    have VP_E := Lib.hid (show BR E (.slice av bx.length cv) bx from by rw [hW]; exact VP_w8a.out)
    clear VP_w8a
    have VQ_E := Lib.hid (show BR E vq by_ from by rw [hW]; exact VQ_w8a.out)
    clear VQ_w8a
    have K15_E := Lib.hid (show KAt E (w7.heap.size) (X1, X2, X3) from by rw [hW]; exact K15_w8a.out)
    clear K15_w8a
    have K17_E := Lib.hid (show KAt E (w8.heap.size) (X1, X2, X3) from by rw [hW]; exact K17_w8a.out)
    clear K17_w8a
    have HB_E := Lib.hid (show Below w.heap.size w E from by rw [hW]; exact HB_w8a.out)
    clear HB_w8a
    rw [← hW]
    clear hW
    have l0 := fun n os => Go.cell_grown (n := n) (os := os) (w := E) (a := ⟨p5, 0, none⟩) K5_E.out.lt (K5_E.out.cells 0 (by omega)).1
    have l1 := fun n os => Go.cell_grown (n := n) (os := os) (w := E) (a := ⟨p5, 1, none⟩) K5_E.out.lt (K5_E.out.cells 1 (by omega)).1
    have l2 := fun n os => Go.cell_grown (n := n) (os := os) (w := E) (a := ⟨p5, 2, none⟩) K5_E.out.lt (K5_E.out.cells 2 (by omega)).1
    have m0 := fun n os => Go.cell_grown (n := n) (os := os) (w := E) (a := ⟨p6, 0, none⟩) K6_E.out.lt (K6_E.out.cells 0 (by omega)).1
    have m1 := fun n os => Go.cell_grown (n := n) (os := os) (w := E) (a := ⟨p6, 1, none⟩) K6_E.out.lt (K6_E.out.cells 1 (by omega)).1
    have m2 := fun n os => Go.cell_grown (n := n) (os := os) (w := E) (a := ⟨p6, 2, none⟩) K6_E.out.lt (K6_E.out.cells 2 (by omega)).1
    simp only [fldK] at l0 l1 l2 m0 m1 m2
    have i0 := Lib.hid (fun n os => rightL_grown (X1, X2, X3) HX.out (Go.Sort.grow (E.drewN n) os))
    have i1 := Lib.hid (fun n os => grown_same (HCm.out (Go.Sort.grow (E.drewN n) os) _ _ (VP_E.out.below (below_grow E n os)) (VQ_E.out.below (below_grow E n os))))
    have i2 := Lib.hid (fun n os => Drawn.calls_grow (HO1.out (Go.Sort.grow (E.drewN n) os)))
    have i3 := Lib.hid (fun n os => Drawn.calls_grow (HO2.out (Go.Sort.grow (E.drewN n) os)))
    have hneg := HNeg.out
    simp only at i0 i2 i3
    go_quiet_grown (first | (with_reducible exact Calls.grown_of (i0.out _ _)) | (with_reducible exact Calls.grown_of (i1.out _ _)) | (with_reducible exact Calls.grown_of (i2.out _ _)) | (with_reducible exact Calls.grown_of (i3.out _ _)))
    go_wp2
    go_ret
    exact ⟨by simp, HB_E.out.trans ((below_grow E _ _).mono HB_E.out.size)⟩
end Go.Proofs.YtapaccbffhcjdaaDoor
