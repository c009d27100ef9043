/-
  CONTRACTS of the reference of layer 7: Right, Less, Compare, Next, Back, Ends.
-/
import Derived.Test.YtapaccbffhcjdaaDoorKeyLawP
namespace Go.Proofs.YtapaccbffhcjdaaDoor
open Go.RowKit Go.Shelf

set_option maxHeartbeats 1000000 in
theorem rRight_calls (k : Ky) (w : World) :
    Calls Tryd.prog 47 #[.agg #[.int .i64 k.1, .int .i64 k.2.1, .int .i64 k.2.2]] w fun e w' => e = .returned (.bool (decide (RightK k))) ∧ Below w.heap.size w w' := by
  have HB := Lib.hid ((Below.refl w.heap.size w).alloc (Nat.le_refl _) (.cells #[.int .i64 k.1, .int .i64 k.2.1, .int .i64 k.2.2] 23))
  obtain ⟨a, b, c⟩ := k
  simp only at HB ⊢
  by_cases h0 : 0 ≤ a
  · by_cases h1 : a ≤ 281474976710656
    · by_cases h2 : 0 ≤ b
      · by_cases h3 : b ≤ 16
        · by_cases h4 : 0 ≤ c
          · by_cases h5 : c ≤ 4294967295
            · have HD := Lib.hid (show decide (RightK (a, b, c)) = true from decide_eq_true (by unfold RightK; simp only; omega))
              rw [HD.out]
              go_enter Tryd.func47, Tryd.ntmps47
              go_wp2
              go_ret
              exact ⟨by simp, HB.out⟩
            · have HD := Lib.hid (show decide (RightK (a, b, c)) = false from decide_eq_false (fun h => by unfold RightK at h; simp only at h; omega))
              rw [HD.out]
              go_enter Tryd.func47, Tryd.ntmps47
              go_wp2
              go_ret
              exact ⟨by simp, HB.out⟩
          · have HD := Lib.hid (show decide (RightK (a, b, c)) = false from decide_eq_false (fun h => by unfold RightK at h; simp only at h; omega))
            rw [HD.out]
            go_enter Tryd.func47, Tryd.ntmps47
            go_wp2
            go_ret
            exact ⟨by simp, HB.out⟩
        · have HD := Lib.hid (show decide (RightK (a, b, c)) = false from decide_eq_false (fun h => by unfold RightK at h; simp only at h; omega))
          rw [HD.out]
          go_enter Tryd.func47, Tryd.ntmps47
          go_wp2
          go_ret
          exact ⟨by simp, HB.out⟩
      · have HD := Lib.hid (show decide (RightK (a, b, c)) = false from decide_eq_false (fun h => by unfold RightK at h; simp only at h; omega))
        rw [HD.out]
        go_enter Tryd.func47, Tryd.ntmps47
        go_wp2
        go_ret
        exact ⟨by simp, HB.out⟩
    · have HD := Lib.hid (show decide (RightK (a, b, c)) = false from decide_eq_false (fun h => by unfold RightK at h; simp only at h; omega))
      rw [HD.out]
      go_enter Tryd.func47, Tryd.ntmps47
      go_wp2
      go_ret
      exact ⟨by simp, HB.out⟩
  · have HD := Lib.hid (show decide (RightK (a, b, c)) = false from decide_eq_false (fun h => by unfold RightK at h; simp only at h; omega))
    rw [HD.out]
    go_enter Tryd.func47, Tryd.ntmps47
    go_wp2
    go_ret
    exact ⟨by simp, HB.out⟩
set_option maxHeartbeats 1000000 in
theorem rLess_calls (a b : Ky) (w : World) :
    Calls Tryd.prog 76 #[.agg #[.int .i64 a.1, .int .i64 a.2.1, .int .i64 a.2.2], .agg #[.int .i64 b.1, .int .i64 b.2.1, .int .i64 b.2.2]] w fun e w' => e = .returned (.bool (decide (LessK a b))) ∧ Below w.heap.size w w' := by
  have HB := Lib.hid (((Below.refl w.heap.size w).alloc (Nat.le_refl _) (.cells #[.int .i64 a.1, .int .i64 a.2.1, .int .i64 a.2.2] 23)).alloc (by simp) (.cells #[.int .i64 b.1, .int .i64 b.2.1, .int .i64 b.2.2] 23))
  obtain ⟨a1, a2, a3⟩ := a
  obtain ⟨b1, b2, b3⟩ := b
  simp only at HB ⊢
  by_cases h1 : a1 = b1
  · by_cases h2 : a2 = b2
    · have HD := Lib.hid (show decide (LessK (a1, a2, a3) (b1, b2, b3)) = decide (a3 < b3) from decide_eq_decide.2 (by unfold LessK; simp only; omega))
      rw [HD.out]
      have c1 : (a1 != b1) = false := by simp [h1]
      have c2 : (a2 != b2) = false := by simp [h2]
      clear h1 h2
      go_enter Tryd.func76, Tryd.ntmps76
      go_wp2
      go_ret
      exact ⟨rfl, HB.out⟩
    · have HD := Lib.hid (show decide (LessK (a1, a2, a3) (b1, b2, b3)) = decide (a2 < b2) from decide_eq_decide.2 (by unfold LessK; simp only; omega))
      rw [HD.out]
      have c1 : (a1 != b1) = false := by simp [h1]
      have c2 : (a2 != b2) = true := by simp [h2]
      clear h1 h2
      go_enter Tryd.func76, Tryd.ntmps76
      go_wp2
      go_ret
      exact ⟨rfl, HB.out⟩
  · have HD := Lib.hid (show decide (LessK (a1, a2, a3) (b1, b2, b3)) = decide (a1 < b1) from decide_eq_decide.2 (by unfold LessK; simp only; omega))
    rw [HD.out]
    have c1 : (a1 != b1) = true := by simp [h1]
    clear h1
    go_enter Tryd.func76, Tryd.ntmps76
    go_wp2
    go_ret
    exact ⟨rfl, HB.out⟩
set_option maxHeartbeats 4000000 in
theorem rCompare_calls (a b : Ky) (w : World) :
    Calls Tryd.prog 41 #[.agg #[.int .i64 a.1, .int .i64 a.2.1, .int .i64 a.2.2], .agg #[.int .i64 b.1, .int .i64 b.2.1, .int .i64 b.2.2]] w fun e w' => e = .returned (.tuple #[.int .i64 (cfK a b), .int .i64 (byK a b)]) ∧ Below w.heap.size w w' := by
  obtain ⟨a1, a2, a3⟩ := a
  obtain ⟨b1, b2, b3⟩ := b
  have HB := Lib.hid (((Below.refl w.heap.size w).alloc (Nat.le_refl _) (.cells #[.int .i64 a1, .int .i64 a2, .int .i64 a3] 23)).alloc (by simp) (.cells #[.int .i64 b1, .int .i64 b2, .int .i64 b3] 23))
  have HA := Lib.hid (show KAt ((w.alloc (.cells #[.int .i64 a1, .int .i64 a2, .int .i64 a3] 23)).alloc (.cells #[.int .i64 b1, .int .i64 b2, .int .i64 b3] 23)) w.heap.size (a1, a2, a3) from (Below.heap_alloc _ _ _ (by simp)).trans (World.alloc_heap_new w _))
  have HC := Lib.hid (show KAt ((w.alloc (.cells #[.int .i64 a1, .int .i64 a2, .int .i64 a3] 23)).alloc (.cells #[.int .i64 b1, .int .i64 b2, .int .i64 b3] 23)) (w.heap.size + 1) (b1, b2, b3) from by
    have := World.alloc_heap_new (w.alloc (.cells #[.int .i64 a1, .int .i64 a2, .int .i64 a3] 23)) (.cells #[.int .i64 b1, .int .i64 b2, .int .i64 b3] 23)
    rw [World.size_alloc] at this
    exact this)
  have HL := Lib.hid (fun W => rLess_calls (a1, a2, a3) (b1, b2, b3) W)
  have HG := Lib.hid (fun W => rLess_calls (b1, b2, b3) (a1, a2, a3) W)
  have HCf := Lib.hid (show cfK (a1, a2, a3) (b1, b2, b3) = if decide (LessK (a1, a2, a3) (b1, b2, b3)) = true then -1 else if decide (LessK (b1, b2, b3) (a1, a2, a3)) = true then 1 else 0 by unfold cfK; simp only [decide_eq_true_eq])
  have HBy := Lib.hid (show byK (a1, a2, a3) (b1, b2, b3) = if a1 ≠ b1 then 1 else if a2 ≠ b2 then 2 else if a3 ≠ b3 then 3 else 0 from rfl)
  have HEq := Lib.hid (show decide (LessK (a1, a2, a3) (b1, b2, b3)) = false → decide (LessK (b1, b2, b3) (a1, a2, a3)) = false → a1 = b1 ∧ a2 = b2 ∧ a3 = b3 from fun h1 h2 => by
    have h1 := of_decide_eq_false h1
    have h2 := of_decide_eq_false h2
    unfold LessK at h1 h2
    simp only at h1 h2
    omega)
  rw [HCf.out, HBy.out]
  generalize decide (LessK (a1, a2, a3) (b1, b2, b3)) = d1 at *
  generalize decide (LessK (b1, b2, b3) (a1, a2, a3)) = d2 at *
  clear HCf HBy
  simp only at HL HG
  by_cases h1 : a1 = b1
  · by_cases h2 : a2 = b2
    · by_cases h3 : a3 = b3
      · have c1 : (a1 != b1) = false := by simp [h1]
        have c2 : (a2 != b2) = false := by simp [h2]
        have c3 : (a3 != b3) = false := by simp [h3]
        have hH1 := Lib.hid h1
        clear h1
        have hH2 := Lib.hid h2
        clear h2
        have hH3 := Lib.hid h3
        clear h3
        go_enter Tryd.func41, Tryd.ntmps41
        go_wp2_with fail
        refine (HL.out _).mono ?_
        rintro e w1 ⟨rfl, hb⟩
        have HB1 := Lib.hid (HB.out.trans (hb.mono HB.out.size))
        have HA1 := Lib.hid (HA.out.below hb)
        have HC1 := Lib.hid (HC.out.below hb)
        clear hb
        cases d1
        · have x0 := (HA1.out.cells 0 (by omega)).1
          have x1 := (HA1.out.cells 1 (by omega)).1
          have x2 := (HA1.out.cells 2 (by omega)).1
          have y0 := (HC1.out.cells 0 (by omega)).1
          have y1 := (HC1.out.cells 1 (by omega)).1
          have y2 := (HC1.out.cells 2 (by omega)).1
          simp only [fldK] at x0 x1 x2 y0 y1 y2
          go_wp2_with fail
          clear x0 x1 x2 y0 y1 y2
          refine (HG.out _).mono ?_
          rintro e w2 ⟨rfl, hb⟩
          have HB2 := Lib.hid (HB1.out.trans (hb.mono HB1.out.size))
          clear hb
          cases d2
          · have HQ := Lib.hid (HEq.out (by first | rfl | trivial) (by first | rfl | trivial))
            go_wp2
            go_ret2
            exact ⟨by have := HQ.out; simp, HB2.out⟩
          · go_wp2
            go_ret2
            exact ⟨by simp, HB2.out⟩
        · go_wp2
          go_ret2
          exact ⟨by simp, HB1.out⟩
      · have c1 : (a1 != b1) = false := by simp [h1]
        have c2 : (a2 != b2) = false := by simp [h2]
        have c3 : (a3 != b3) = true := by simp [h3]
        have hH1 := Lib.hid h1
        clear h1
        have hH2 := Lib.hid h2
        clear h2
        have hH3 := Lib.hid h3
        clear h3
        go_enter Tryd.func41, Tryd.ntmps41
        go_wp2_with fail
        refine (HL.out _).mono ?_
        rintro e w1 ⟨rfl, hb⟩
        have HB1 := Lib.hid (HB.out.trans (hb.mono HB.out.size))
        have HA1 := Lib.hid (HA.out.below hb)
        have HC1 := Lib.hid (HC.out.below hb)
        clear hb
        cases d1
        · have x0 := (HA1.out.cells 0 (by omega)).1
          have x1 := (HA1.out.cells 1 (by omega)).1
          have x2 := (HA1.out.cells 2 (by omega)).1
          have y0 := (HC1.out.cells 0 (by omega)).1
          have y1 := (HC1.out.cells 1 (by omega)).1
          have y2 := (HC1.out.cells 2 (by omega)).1
          simp only [fldK] at x0 x1 x2 y0 y1 y2
          go_wp2_with fail
          clear x0 x1 x2 y0 y1 y2
          refine (HG.out _).mono ?_
          rintro e w2 ⟨rfl, hb⟩
          have HB2 := Lib.hid (HB1.out.trans (hb.mono HB1.out.size))
          clear hb
          cases d2
          · exact absurd (HEq.out (by first | rfl | trivial) (by first | rfl | trivial)).2.2 hH3.out
          · go_wp2
            go_ret2
            exact ⟨by simp, HB2.out⟩
        · go_wp2
          go_ret2
          exact ⟨by simp, HB1.out⟩
    · by_cases h3 : a3 = b3
      · have c1 : (a1 != b1) = false := by simp [h1]
        have c2 : (a2 != b2) = true := by simp [h2]
        have c3 : (a3 != b3) = false := by simp [h3]
        have hH1 := Lib.hid h1
        clear h1
        have hH2 := Lib.hid h2
        clear h2
        have hH3 := Lib.hid h3
        clear h3
        go_enter Tryd.func41, Tryd.ntmps41
        go_wp2_with fail
        refine (HL.out _).mono ?_
        rintro e w1 ⟨rfl, hb⟩
        have HB1 := Lib.hid (HB.out.trans (hb.mono HB.out.size))
        have HA1 := Lib.hid (HA.out.below hb)
        have HC1 := Lib.hid (HC.out.below hb)
        clear hb
        cases d1
        · have x0 := (HA1.out.cells 0 (by omega)).1
          have x1 := (HA1.out.cells 1 (by omega)).1
          have x2 := (HA1.out.cells 2 (by omega)).1
          have y0 := (HC1.out.cells 0 (by omega)).1
          have y1 := (HC1.out.cells 1 (by omega)).1
          have y2 := (HC1.out.cells 2 (by omega)).1
          simp only [fldK] at x0 x1 x2 y0 y1 y2
          go_wp2_with fail
          clear x0 x1 x2 y0 y1 y2
          refine (HG.out _).mono ?_
          rintro e w2 ⟨rfl, hb⟩
          have HB2 := Lib.hid (HB1.out.trans (hb.mono HB1.out.size))
          clear hb
          cases d2
          · exact absurd (HEq.out (by first | rfl | trivial) (by first | rfl | trivial)).2.1 hH2.out
          · go_wp2
            go_ret2
            exact ⟨by simp [hH3.out], HB2.out⟩
        · go_wp2
          go_ret2
          exact ⟨by simp [hH3.out], HB1.out⟩
      · have c1 : (a1 != b1) = false := by simp [h1]
        have c2 : (a2 != b2) = true := by simp [h2]
        have c3 : (a3 != b3) = true := by simp [h3]
        have hH1 := Lib.hid h1
        clear h1
        have hH2 := Lib.hid h2
        clear h2
        have hH3 := Lib.hid h3
        clear h3
        go_enter Tryd.func41, Tryd.ntmps41
        go_wp2_with fail
        refine (HL.out _).mono ?_
        rintro e w1 ⟨rfl, hb⟩
        have HB1 := Lib.hid (HB.out.trans (hb.mono HB.out.size))
        have HA1 := Lib.hid (HA.out.below hb)
        have HC1 := Lib.hid (HC.out.below hb)
        clear hb
        cases d1
        · have x0 := (HA1.out.cells 0 (by omega)).1
          have x1 := (HA1.out.cells 1 (by omega)).1
          have x2 := (HA1.out.cells 2 (by omega)).1
          have y0 := (HC1.out.cells 0 (by omega)).1
          have y1 := (HC1.out.cells 1 (by omega)).1
          have y2 := (HC1.out.cells 2 (by omega)).1
          simp only [fldK] at x0 x1 x2 y0 y1 y2
          go_wp2_with fail
          clear x0 x1 x2 y0 y1 y2
          refine (HG.out _).mono ?_
          rintro e w2 ⟨rfl, hb⟩
          have HB2 := Lib.hid (HB1.out.trans (hb.mono HB1.out.size))
          clear hb
          cases d2
          · exact absurd (HEq.out (by first | rfl | trivial) (by first | rfl | trivial)).2.1 hH2.out
          · go_wp2
            go_ret2
            exact ⟨by simp, HB2.out⟩
        · go_wp2
          go_ret2
          exact ⟨by simp, HB1.out⟩
  · by_cases h2 : a2 = b2
    · by_cases h3 : a3 = b3
      · have c1 : (a1 != b1) = true := by simp [h1]
        have c2 : (a2 != b2) = false := by simp [h2]
        have c3 : (a3 != b3) = false := by simp [h3]
        have hH1 := Lib.hid h1
        clear h1
        have hH2 := Lib.hid h2
        clear h2
        have hH3 := Lib.hid h3
        clear h3
        go_enter Tryd.func41, Tryd.ntmps41
        go_wp2_with fail
        refine (HL.out _).mono ?_
        rintro e w1 ⟨rfl, hb⟩
        have HB1 := Lib.hid (HB.out.trans (hb.mono HB.out.size))
        have HA1 := Lib.hid (HA.out.below hb)
        have HC1 := Lib.hid (HC.out.below hb)
        clear hb
        cases d1
        · have x0 := (HA1.out.cells 0 (by omega)).1
          have x1 := (HA1.out.cells 1 (by omega)).1
          have x2 := (HA1.out.cells 2 (by omega)).1
          have y0 := (HC1.out.cells 0 (by omega)).1
          have y1 := (HC1.out.cells 1 (by omega)).1
          have y2 := (HC1.out.cells 2 (by omega)).1
          simp only [fldK] at x0 x1 x2 y0 y1 y2
          go_wp2_with fail
          clear x0 x1 x2 y0 y1 y2
          refine (HG.out _).mono ?_
          rintro e w2 ⟨rfl, hb⟩
          have HB2 := Lib.hid (HB1.out.trans (hb.mono HB1.out.size))
          clear hb
          cases d2
          · exact absurd (HEq.out (by first | rfl | trivial) (by first | rfl | trivial)).1 hH1.out
          · go_wp2
            go_ret2
            exact ⟨by simp [hH2.out, hH3.out], HB2.out⟩
        · go_wp2
          go_ret2
          exact ⟨by simp [hH2.out, hH3.out], HB1.out⟩
      · have c1 : (a1 != b1) = true := by simp [h1]
        have c2 : (a2 != b2) = false := by simp [h2]
        have c3 : (a3 != b3) = true := by simp [h3]
        have hH1 := Lib.hid h1
        clear h1
        have hH2 := Lib.hid h2
        clear h2
        have hH3 := Lib.hid h3
        clear h3
        go_enter Tryd.func41, Tryd.ntmps41
        go_wp2_with fail
        refine (HL.out _).mono ?_
        rintro e w1 ⟨rfl, hb⟩
        have HB1 := Lib.hid (HB.out.trans (hb.mono HB.out.size))
        have HA1 := Lib.hid (HA.out.below hb)
        have HC1 := Lib.hid (HC.out.below hb)
        clear hb
        cases d1
        · have x0 := (HA1.out.cells 0 (by omega)).1
          have x1 := (HA1.out.cells 1 (by omega)).1
          have x2 := (HA1.out.cells 2 (by omega)).1
          have y0 := (HC1.out.cells 0 (by omega)).1
          have y1 := (HC1.out.cells 1 (by omega)).1
          have y2 := (HC1.out.cells 2 (by omega)).1
          simp only [fldK] at x0 x1 x2 y0 y1 y2
          go_wp2_with fail
          clear x0 x1 x2 y0 y1 y2
          refine (HG.out _).mono ?_
          rintro e w2 ⟨rfl, hb⟩
          have HB2 := Lib.hid (HB1.out.trans (hb.mono HB1.out.size))
          clear hb
          cases d2
          · exact absurd (HEq.out (by first | rfl | trivial) (by first | rfl | trivial)).2.2 hH3.out
          · go_wp2
            go_ret2
            exact ⟨by simp [hH2.out], HB2.out⟩
        · go_wp2
          go_ret2
          exact ⟨by simp [hH2.out], HB1.out⟩
    · by_cases h3 : a3 = b3
      · have c1 : (a1 != b1) = true := by simp [h1]
        have c2 : (a2 != b2) = true := by simp [h2]
        have c3 : (a3 != b3) = false := by simp [h3]
        have hH1 := Lib.hid h1
        clear h1
        have hH2 := Lib.hid h2
        clear h2
        have hH3 := Lib.hid h3
        clear h3
        go_enter Tryd.func41, Tryd.ntmps41
        go_wp2_with fail
        refine (HL.out _).mono ?_
        rintro e w1 ⟨rfl, hb⟩
        have HB1 := Lib.hid (HB.out.trans (hb.mono HB.out.size))
        have HA1 := Lib.hid (HA.out.below hb)
        have HC1 := Lib.hid (HC.out.below hb)
        clear hb
        cases d1
        · have x0 := (HA1.out.cells 0 (by omega)).1
          have x1 := (HA1.out.cells 1 (by omega)).1
          have x2 := (HA1.out.cells 2 (by omega)).1
          have y0 := (HC1.out.cells 0 (by omega)).1
          have y1 := (HC1.out.cells 1 (by omega)).1
          have y2 := (HC1.out.cells 2 (by omega)).1
          simp only [fldK] at x0 x1 x2 y0 y1 y2
          go_wp2_with fail
          clear x0 x1 x2 y0 y1 y2
          refine (HG.out _).mono ?_
          rintro e w2 ⟨rfl, hb⟩
          have HB2 := Lib.hid (HB1.out.trans (hb.mono HB1.out.size))
          clear hb
          cases d2
          · exact absurd (HEq.out (by first | rfl | trivial) (by first | rfl | trivial)).2.1 hH2.out
          · go_wp2
            go_ret2
            exact ⟨by simp [hH3.out], HB2.out⟩
        · go_wp2
          go_ret2
          exact ⟨by simp [hH3.out], HB1.out⟩
      · have c1 : (a1 != b1) = true := by simp [h1]
        have c2 : (a2 != b2) = true := by simp [h2]
        have c3 : (a3 != b3) = true := by simp [h3]
        have hH1 := Lib.hid h1
        clear h1
        have hH2 := Lib.hid h2
        clear h2
        have hH3 := Lib.hid h3
        clear h3
        go_enter Tryd.func41, Tryd.ntmps41
        go_wp2_with fail
        refine (HL.out _).mono ?_
        rintro e w1 ⟨rfl, hb⟩
        have HB1 := Lib.hid (HB.out.trans (hb.mono HB.out.size))
        have HA1 := Lib.hid (HA.out.below hb)
        have HC1 := Lib.hid (HC.out.below hb)
        clear hb
        cases d1
        · have x0 := (HA1.out.cells 0 (by omega)).1
          have x1 := (HA1.out.cells 1 (by omega)).1
          have x2 := (HA1.out.cells 2 (by omega)).1
          have y0 := (HC1.out.cells 0 (by omega)).1
          have y1 := (HC1.out.cells 1 (by omega)).1
          have y2 := (HC1.out.cells 2 (by omega)).1
          simp only [fldK] at x0 x1 x2 y0 y1 y2
          go_wp2_with fail
          clear x0 x1 x2 y0 y1 y2
          refine (HG.out _).mono ?_
          rintro e w2 ⟨rfl, hb⟩
          have HB2 := Lib.hid (HB1.out.trans (hb.mono HB1.out.size))
          clear hb
          cases d2
          · exact absurd (HEq.out (by first | rfl | trivial) (by first | rfl | trivial)).2.1 hH2.out
          · go_wp2
            go_ret2
            exact ⟨by simp, HB2.out⟩
        · go_wp2
          go_ret2
          exact ⟨by simp, HB1.out⟩
set_option maxRecDepth 100000 in
set_option maxHeartbeats 1000000 in
theorem rNextK_calls (k : Ky) (w : World) :
    Calls Tryd.prog 44 #[.agg #[.int .i64 k.1, .int .i64 k.2.1, .int .i64 k.2.2]] w fun e w' => e = .returned (.tuple #[.agg #[.int .i64 (nextK k).1.1, .int .i64 (nextK k).1.2.1, .int .i64 (nextK k).1.2.2], .int .i64 (nextK k).2]) ∧ Below w.heap.size w w' := by
  have HRt := Lib.hid (fun W => rRight_calls k W)
  have HB := Lib.hid (((Below.refl w.heap.size w).alloc (Nat.le_refl _) (.cells #[.int .i64 k.1, .int .i64 k.2.1, .int .i64 k.2.2] 23)).alloc (by simp) (.cells #[.int .i64 0, .int .i64 0, .int .i64 0] 23))
  have hk0 : KAt ((w.alloc (.cells #[.int .i64 k.1, .int .i64 k.2.1, .int .i64 k.2.2] 23)).alloc (.cells #[.int .i64 0, .int .i64 0, .int .i64 0] 23)) w.heap.size k := (Below.heap_alloc _ _ _ (by simp)).trans (World.alloc_heap_new w _)
  have hr0 : KAt ((w.alloc (.cells #[.int .i64 k.1, .int .i64 k.2.1, .int .i64 k.2.2] 23)).alloc (.cells #[.int .i64 0, .int .i64 0, .int .i64 0] 23)) (w.heap.size + 1) (0, 0, 0) := by
    have := World.alloc_heap_new (w.alloc (.cells #[.int .i64 k.1, .int .i64 k.2.1, .int .i64 k.2.2] 23)) (.cells #[.int .i64 0, .int .i64 0, .int .i64 0] 23)
    rwa [World.size_alloc] at this
  have HK0 := Lib.hid hk0
  have HR0 := Lib.hid hr0
  have HG := Lib.hid (fun W (hb : Below ((w.alloc (.cells #[.int .i64 k.1, .int .i64 k.2.1, .int .i64 k.2.2] 23)).alloc (.cells #[.int .i64 0, .int .i64 0, .int .i64 0] 23)).heap.size ((w.alloc (.cells #[.int .i64 k.1, .int .i64 k.2.1, .int .i64 k.2.2] 23)).alloc (.cells #[.int .i64 0, .int .i64 0, .int .i64 0] 23)) W) =>
    (show KAt W w.heap.size k ∧ KAt W (w.heap.size + 1) (0, 0, 0) ∧ Below w.heap.size w W from ⟨(hb.block _ hk0.lt).trans hk0, (hb.block _ hr0.lt).trans hr0, HB.out.trans (hb.mono HB.out.size)⟩))
  clear hk0 hr0
  have HS := Lib.hid (show nextK k = nextK k from rfl)
  unfold nextK at HS
  obtain ⟨a, b, c⟩ := k
  simp only at HS HRt HG ⊢
  by_cases hyes : RightK (a, b, c)
  · rw [decide_eq_true hyes] at HRt
    have HY := Lib.hid hyes
    obtain ⟨⟨ha0, ha1⟩, ⟨hb0, hb1⟩, ⟨hc0, hc1⟩⟩ := id hyes
    simp only at ha0 ha1 hb0 hb1 hc0 hc1
    by_cases h0 : c < 4294967295
    · have HI := HY
      have HV := Lib.hid (show nextK (a, b, c) = ((a, b, c + 1), 0) by unfold nextK; simp only; rw [if_pos hyes, if_pos h0])
      rw [HV.out]
      clear HS HV hyes
      go_enter Tryd.func44, Tryd.ntmps44
      go_wp2_with fail
      refine (HRt.out _).mono ?_
      rintro e w1 ⟨rfl, hb⟩
      obtain ⟨hk1, hr1, hb1⟩ := HG.out _ hb
      have HR1 := Lib.hid hr1
      have HB1 := Lib.hid hb1
      have t0 := (hk1.cells 0 (by omega)).1
      have t1 := (hk1.cells 1 (by omega)).1
      have t2 := (hk1.cells 2 (by omega)).1
      have r0 := hr1.cells 0 (by omega)
      have r1 := hr1.cells 1 (by omega)
      have r2 := hr1.cells 2 (by omega)
      simp only [fldK] at t0 t1 t2 r0 r1 r2
      obtain ⟨r0, q0⟩ := r0
      obtain ⟨r1, q1⟩ := r1
      obtain ⟨r2, q2⟩ := r2
      clear hb hk1 hr1 hb1
      go_wp2
      have HR3 := kat_set HR1.out (a) (b) (c + 1)
      have v0 := (HR3.cells 0 (by omega)).1
      have v1 := (HR3.cells 1 (by omega)).1
      have v2 := (HR3.cells 2 (by omega)).1
      simp only [fldK] at v0 v1 v2
      exact bodyPost_ret (v := .tuple #[.agg #[.int .i64 (a), .int .i64 (b), .int .i64 (c + 1)], .int .i64 0]) (by simp [results, Tryd.f44, go_sem, v0, v1, v2]) rfl ⟨rfl, set3_below HB1.out (by simp) _ _ _⟩
    · skip
      by_cases h1 : b < 16
      · have HI := HY
        have HV := Lib.hid (show nextK (a, b, c) = ((a, b + 1, 0), 0) by unfold nextK; simp only; rw [if_pos hyes, if_neg h0, if_pos h1])
        rw [HV.out]
        clear HS HV hyes
        go_enter Tryd.func44, Tryd.ntmps44
        go_wp2_with fail
        refine (HRt.out _).mono ?_
        rintro e w1 ⟨rfl, hb⟩
        obtain ⟨hk1, hr1, hb1⟩ := HG.out _ hb
        have HR1 := Lib.hid hr1
        have HB1 := Lib.hid hb1
        have t0 := (hk1.cells 0 (by omega)).1
        have t1 := (hk1.cells 1 (by omega)).1
        have t2 := (hk1.cells 2 (by omega)).1
        have r0 := hr1.cells 0 (by omega)
        have r1 := hr1.cells 1 (by omega)
        have r2 := hr1.cells 2 (by omega)
        simp only [fldK] at t0 t1 t2 r0 r1 r2
        obtain ⟨r0, q0⟩ := r0
        obtain ⟨r1, q1⟩ := r1
        obtain ⟨r2, q2⟩ := r2
        clear hb hk1 hr1 hb1
        go_wp2
        have HR3 := kat_set HR1.out (a) (b + 1) (0)
        have v0 := (HR3.cells 0 (by omega)).1
        have v1 := (HR3.cells 1 (by omega)).1
        have v2 := (HR3.cells 2 (by omega)).1
        simp only [fldK] at v0 v1 v2
        exact bodyPost_ret (v := .tuple #[.agg #[.int .i64 (a), .int .i64 (b + 1), .int .i64 (0)], .int .i64 0]) (by simp [results, Tryd.f44, go_sem, v0, v1, v2]) rfl ⟨rfl, set3_below HB1.out (by simp) _ _ _⟩
      · skip
        by_cases h2 : a < 281474976710656
        · have HI := HY
          have HV := Lib.hid (show nextK (a, b, c) = ((a + 1, 0, 0), 0) by unfold nextK; simp only; rw [if_pos hyes, if_neg h0, if_neg h1, if_pos h2])
          rw [HV.out]
          clear HS HV hyes
          go_enter Tryd.func44, Tryd.ntmps44
          go_wp2_with fail
          refine (HRt.out _).mono ?_
          rintro e w1 ⟨rfl, hb⟩
          obtain ⟨hk1, hr1, hb1⟩ := HG.out _ hb
          have HR1 := Lib.hid hr1
          have HB1 := Lib.hid hb1
          have t0 := (hk1.cells 0 (by omega)).1
          have t1 := (hk1.cells 1 (by omega)).1
          have t2 := (hk1.cells 2 (by omega)).1
          have r0 := hr1.cells 0 (by omega)
          have r1 := hr1.cells 1 (by omega)
          have r2 := hr1.cells 2 (by omega)
          simp only [fldK] at t0 t1 t2 r0 r1 r2
          obtain ⟨r0, q0⟩ := r0
          obtain ⟨r1, q1⟩ := r1
          obtain ⟨r2, q2⟩ := r2
          clear hb hk1 hr1 hb1
          go_wp2
          have HR3 := kat_set HR1.out (a + 1) (0) (0)
          have v0 := (HR3.cells 0 (by omega)).1
          have v1 := (HR3.cells 1 (by omega)).1
          have v2 := (HR3.cells 2 (by omega)).1
          simp only [fldK] at v0 v1 v2
          exact bodyPost_ret (v := .tuple #[.agg #[.int .i64 (a + 1), .int .i64 (0), .int .i64 (0)], .int .i64 0]) (by simp [results, Tryd.f44, go_sem, v0, v1, v2]) rfl ⟨rfl, set3_below HB1.out (by simp) _ _ _⟩
        · skip
          have HV := Lib.hid (show nextK (a, b, c) = ((0, 0, 0), 6) by unfold nextK; simp only; rw [if_pos hyes, if_neg h0, if_neg h1, if_neg h2])
          rw [HV.out]
          clear HS HV hyes
          go_enter Tryd.func44, Tryd.ntmps44
          go_wp2_with fail
          refine (HRt.out _).mono ?_
          rintro e w1 ⟨rfl, hb⟩
          obtain ⟨hk1, hr1, hb1⟩ := HG.out _ hb
          have HR1 := Lib.hid hr1
          have HB1 := Lib.hid hb1
          have t0 := (hk1.cells 0 (by omega)).1
          have t1 := (hk1.cells 1 (by omega)).1
          have t2 := (hk1.cells 2 (by omega)).1
          have r0 := hr1.cells 0 (by omega)
          have r1 := hr1.cells 1 (by omega)
          have r2 := hr1.cells 2 (by omega)
          simp only [fldK] at t0 t1 t2 r0 r1 r2
          obtain ⟨r0, q0⟩ := r0
          obtain ⟨r1, q1⟩ := r1
          obtain ⟨r2, q2⟩ := r2
          clear hb hk1 hr1 hb1
          go_wp2
          have HR3 := kat_set HR1.out (0) (0) (0)
          have v0 := (HR3.cells 0 (by omega)).1
          have v1 := (HR3.cells 1 (by omega)).1
          have v2 := (HR3.cells 2 (by omega)).1
          simp only [fldK] at v0 v1 v2
          exact bodyPost_ret (v := .tuple #[.agg #[.int .i64 (0), .int .i64 (0), .int .i64 (0)], .int .i64 6]) (by simp [results, Tryd.f44, go_sem, v0, v1, v2]) rfl ⟨rfl, set3_below HB1.out (by simp) _ _ _⟩
  · rw [decide_eq_false hyes] at HRt
    have HV := Lib.hid (show nextK (a, b, c) = ((0, 0, 0), 70) by unfold nextK; simp only; rw [if_neg hyes])
    rw [HV.out]
    clear HS HV hyes
    go_enter Tryd.func44, Tryd.ntmps44
    go_wp2_with fail
    refine (HRt.out _).mono ?_
    rintro e w1 ⟨rfl, hb⟩
    obtain ⟨hk1, hr1, hb1⟩ := HG.out _ hb
    have HR1 := Lib.hid hr1
    have HB1 := Lib.hid hb1
    have t0 := (hk1.cells 0 (by omega)).1
    have t1 := (hk1.cells 1 (by omega)).1
    have t2 := (hk1.cells 2 (by omega)).1
    have r0 := hr1.cells 0 (by omega)
    have r1 := hr1.cells 1 (by omega)
    have r2 := hr1.cells 2 (by omega)
    simp only [fldK] at t0 t1 t2 r0 r1 r2
    obtain ⟨r0, q0⟩ := r0
    obtain ⟨r1, q1⟩ := r1
    obtain ⟨r2, q2⟩ := r2
    clear hb hk1 hr1 hb1
    go_wp2
    have HR3 := kat_set HR1.out (0) (0) (0)
    have v0 := (HR3.cells 0 (by omega)).1
    have v1 := (HR3.cells 1 (by omega)).1
    have v2 := (HR3.cells 2 (by omega)).1
    simp only [fldK] at v0 v1 v2
    exact bodyPost_ret (v := .tuple #[.agg #[.int .i64 (0), .int .i64 (0), .int .i64 (0)], .int .i64 70]) (by simp [results, Tryd.f44, go_sem, v0, v1, v2]) rfl ⟨rfl, set3_below HB1.out (by simp) _ _ _⟩

set_option maxRecDepth 100000 in
set_option maxHeartbeats 1000000 in
theorem rBackK_calls (k : Ky) (w : World) :
    Calls Tryd.prog 45 #[.agg #[.int .i64 k.1, .int .i64 k.2.1, .int .i64 k.2.2]] w fun e w' => e = .returned (.tuple #[.agg #[.int .i64 (backK k).1.1, .int .i64 (backK k).1.2.1, .int .i64 (backK k).1.2.2], .int .i64 (backK k).2]) ∧ Below w.heap.size w w' := by
  have HRt := Lib.hid (fun W => rRight_calls k W)
  have HB := Lib.hid (((Below.refl w.heap.size w).alloc (Nat.le_refl _) (.cells #[.int .i64 k.1, .int .i64 k.2.1, .int .i64 k.2.2] 23)).alloc (by simp) (.cells #[.int .i64 0, .int .i64 0, .int .i64 0] 23))
  have hk0 : KAt ((w.alloc (.cells #[.int .i64 k.1, .int .i64 k.2.1, .int .i64 k.2.2] 23)).alloc (.cells #[.int .i64 0, .int .i64 0, .int .i64 0] 23)) w.heap.size k := (Below.heap_alloc _ _ _ (by simp)).trans (World.alloc_heap_new w _)
  have hr0 : KAt ((w.alloc (.cells #[.int .i64 k.1, .int .i64 k.2.1, .int .i64 k.2.2] 23)).alloc (.cells #[.int .i64 0, .int .i64 0, .int .i64 0] 23)) (w.heap.size + 1) (0, 0, 0) := by
    have := World.alloc_heap_new (w.alloc (.cells #[.int .i64 k.1, .int .i64 k.2.1, .int .i64 k.2.2] 23)) (.cells #[.int .i64 0, .int .i64 0, .int .i64 0] 23)
    rwa [World.size_alloc] at this
  have HK0 := Lib.hid hk0
  have HR0 := Lib.hid hr0
  have HG := Lib.hid (fun W (hb : Below ((w.alloc (.cells #[.int .i64 k.1, .int .i64 k.2.1, .int .i64 k.2.2] 23)).alloc (.cells #[.int .i64 0, .int .i64 0, .int .i64 0] 23)).heap.size ((w.alloc (.cells #[.int .i64 k.1, .int .i64 k.2.1, .int .i64 k.2.2] 23)).alloc (.cells #[.int .i64 0, .int .i64 0, .int .i64 0] 23)) W) =>
    (show KAt W w.heap.size k ∧ KAt W (w.heap.size + 1) (0, 0, 0) ∧ Below w.heap.size w W from ⟨(hb.block _ hk0.lt).trans hk0, (hb.block _ hr0.lt).trans hr0, HB.out.trans (hb.mono HB.out.size)⟩))
  clear hk0 hr0
  have HS := Lib.hid (show backK k = backK k from rfl)
  unfold backK at HS
  obtain ⟨a, b, c⟩ := k
  simp only at HS HRt HG ⊢
  by_cases hyes : RightK (a, b, c)
  · rw [decide_eq_true hyes] at HRt
    have HY := Lib.hid hyes
    obtain ⟨⟨ha0, ha1⟩, ⟨hb0, hb1⟩, ⟨hc0, hc1⟩⟩ := id hyes
    simp only at ha0 ha1 hb0 hb1 hc0 hc1
    by_cases h0 : 0 < c
    · have HI := HY
      have HV := Lib.hid (show backK (a, b, c) = ((a, b, c - 1), 0) by unfold backK; simp only; rw [if_pos hyes, if_pos h0])
      rw [HV.out]
      clear HS HV hyes
      go_enter Tryd.func45, Tryd.ntmps45
      go_wp2_with fail
      refine (HRt.out _).mono ?_
      rintro e w1 ⟨rfl, hb⟩
      obtain ⟨hk1, hr1, hb1⟩ := HG.out _ hb
      have HR1 := Lib.hid hr1
      have HB1 := Lib.hid hb1
      have t0 := (hk1.cells 0 (by omega)).1
      have t1 := (hk1.cells 1 (by omega)).1
      have t2 := (hk1.cells 2 (by omega)).1
      have r0 := hr1.cells 0 (by omega)
      have r1 := hr1.cells 1 (by omega)
      have r2 := hr1.cells 2 (by omega)
      simp only [fldK] at t0 t1 t2 r0 r1 r2
      obtain ⟨r0, q0⟩ := r0
      obtain ⟨r1, q1⟩ := r1
      obtain ⟨r2, q2⟩ := r2
      clear hb hk1 hr1 hb1
      go_wp2
      have HR3 := kat_set HR1.out (a) (b) (c - 1)
      have v0 := (HR3.cells 0 (by omega)).1
      have v1 := (HR3.cells 1 (by omega)).1
      have v2 := (HR3.cells 2 (by omega)).1
      simp only [fldK] at v0 v1 v2
      exact bodyPost_ret (v := .tuple #[.agg #[.int .i64 (a), .int .i64 (b), .int .i64 (c - 1)], .int .i64 0]) (by simp [results, Tryd.f45, go_sem, v0, v1, v2]) rfl ⟨rfl, set3_below HB1.out (by simp) _ _ _⟩
    · skip
      by_cases h1 : 0 < b
      · have HI := HY
        have HV := Lib.hid (show backK (a, b, c) = ((a, b - 1, 4294967295), 0) by unfold backK; simp only; rw [if_pos hyes, if_neg h0, if_pos h1])
        rw [HV.out]
        clear HS HV hyes
        go_enter Tryd.func45, Tryd.ntmps45
        go_wp2_with fail
        refine (HRt.out _).mono ?_
        rintro e w1 ⟨rfl, hb⟩
        obtain ⟨hk1, hr1, hb1⟩ := HG.out _ hb
        have HR1 := Lib.hid hr1
        have HB1 := Lib.hid hb1
        have t0 := (hk1.cells 0 (by omega)).1
        have t1 := (hk1.cells 1 (by omega)).1
        have t2 := (hk1.cells 2 (by omega)).1
        have r0 := hr1.cells 0 (by omega)
        have r1 := hr1.cells 1 (by omega)
        have r2 := hr1.cells 2 (by omega)
        simp only [fldK] at t0 t1 t2 r0 r1 r2
        obtain ⟨r0, q0⟩ := r0
        obtain ⟨r1, q1⟩ := r1
        obtain ⟨r2, q2⟩ := r2
        clear hb hk1 hr1 hb1
        go_wp2
        have HR3 := kat_set HR1.out (a) (b - 1) (4294967295)
        have v0 := (HR3.cells 0 (by omega)).1
        have v1 := (HR3.cells 1 (by omega)).1
        have v2 := (HR3.cells 2 (by omega)).1
        simp only [fldK] at v0 v1 v2
        exact bodyPost_ret (v := .tuple #[.agg #[.int .i64 (a), .int .i64 (b - 1), .int .i64 (4294967295)], .int .i64 0]) (by simp [results, Tryd.f45, go_sem, v0, v1, v2]) rfl ⟨rfl, set3_below HB1.out (by simp) _ _ _⟩
      · skip
        by_cases h2 : 0 < a
        · have HI := HY
          have HV := Lib.hid (show backK (a, b, c) = ((a - 1, 16, 4294967295), 0) by unfold backK; simp only; rw [if_pos hyes, if_neg h0, if_neg h1, if_pos h2])
          rw [HV.out]
          clear HS HV hyes
          go_enter Tryd.func45, Tryd.ntmps45
          go_wp2_with fail
          refine (HRt.out _).mono ?_
          rintro e w1 ⟨rfl, hb⟩
          obtain ⟨hk1, hr1, hb1⟩ := HG.out _ hb
          have HR1 := Lib.hid hr1
          have HB1 := Lib.hid hb1
          have t0 := (hk1.cells 0 (by omega)).1
          have t1 := (hk1.cells 1 (by omega)).1
          have t2 := (hk1.cells 2 (by omega)).1
          have r0 := hr1.cells 0 (by omega)
          have r1 := hr1.cells 1 (by omega)
          have r2 := hr1.cells 2 (by omega)
          simp only [fldK] at t0 t1 t2 r0 r1 r2
          obtain ⟨r0, q0⟩ := r0
          obtain ⟨r1, q1⟩ := r1
          obtain ⟨r2, q2⟩ := r2
          clear hb hk1 hr1 hb1
          go_wp2
          have HR3 := kat_set HR1.out (a - 1) (16) (4294967295)
          have v0 := (HR3.cells 0 (by omega)).1
          have v1 := (HR3.cells 1 (by omega)).1
          have v2 := (HR3.cells 2 (by omega)).1
          simp only [fldK] at v0 v1 v2
          exact bodyPost_ret (v := .tuple #[.agg #[.int .i64 (a - 1), .int .i64 (16), .int .i64 (4294967295)], .int .i64 0]) (by simp [results, Tryd.f45, go_sem, v0, v1, v2]) rfl ⟨rfl, set3_below HB1.out (by simp) _ _ _⟩
        · skip
          have HV := Lib.hid (show backK (a, b, c) = ((0, 0, 0), 6) by unfold backK; simp only; rw [if_pos hyes, if_neg h0, if_neg h1, if_neg h2])
          rw [HV.out]
          clear HS HV hyes
          go_enter Tryd.func45, Tryd.ntmps45
          go_wp2_with fail
          refine (HRt.out _).mono ?_
          rintro e w1 ⟨rfl, hb⟩
          obtain ⟨hk1, hr1, hb1⟩ := HG.out _ hb
          have HR1 := Lib.hid hr1
          have HB1 := Lib.hid hb1
          have t0 := (hk1.cells 0 (by omega)).1
          have t1 := (hk1.cells 1 (by omega)).1
          have t2 := (hk1.cells 2 (by omega)).1
          have r0 := hr1.cells 0 (by omega)
          have r1 := hr1.cells 1 (by omega)
          have r2 := hr1.cells 2 (by omega)
          simp only [fldK] at t0 t1 t2 r0 r1 r2
          obtain ⟨r0, q0⟩ := r0
          obtain ⟨r1, q1⟩ := r1
          obtain ⟨r2, q2⟩ := r2
          clear hb hk1 hr1 hb1
          go_wp2
          have HR3 := kat_set HR1.out (0) (0) (0)
          have v0 := (HR3.cells 0 (by omega)).1
          have v1 := (HR3.cells 1 (by omega)).1
          have v2 := (HR3.cells 2 (by omega)).1
          simp only [fldK] at v0 v1 v2
          exact bodyPost_ret (v := .tuple #[.agg #[.int .i64 (0), .int .i64 (0), .int .i64 (0)], .int .i64 6]) (by simp [results, Tryd.f45, go_sem, v0, v1, v2]) rfl ⟨rfl, set3_below HB1.out (by simp) _ _ _⟩
  · rw [decide_eq_false hyes] at HRt
    have HV := Lib.hid (show backK (a, b, c) = ((0, 0, 0), 70) by unfold backK; simp only; rw [if_neg hyes])
    rw [HV.out]
    clear HS HV hyes
    go_enter Tryd.func45, Tryd.ntmps45
    go_wp2_with fail
    refine (HRt.out _).mono ?_
    rintro e w1 ⟨rfl, hb⟩
    obtain ⟨hk1, hr1, hb1⟩ := HG.out _ hb
    have HR1 := Lib.hid hr1
    have HB1 := Lib.hid hb1
    have t0 := (hk1.cells 0 (by omega)).1
    have t1 := (hk1.cells 1 (by omega)).1
    have t2 := (hk1.cells 2 (by omega)).1
    have r0 := hr1.cells 0 (by omega)
    have r1 := hr1.cells 1 (by omega)
    have r2 := hr1.cells 2 (by omega)
    simp only [fldK] at t0 t1 t2 r0 r1 r2
    obtain ⟨r0, q0⟩ := r0
    obtain ⟨r1, q1⟩ := r1
    obtain ⟨r2, q2⟩ := r2
    clear hb hk1 hr1 hb1
    go_wp2
    have HR3 := kat_set HR1.out (0) (0) (0)
    have v0 := (HR3.cells 0 (by omega)).1
    have v1 := (HR3.cells 1 (by omega)).1
    have v2 := (HR3.cells 2 (by omega)).1
    simp only [fldK] at v0 v1 v2
    exact bodyPost_ret (v := .tuple #[.agg #[.int .i64 (0), .int .i64 (0), .int .i64 (0)], .int .i64 70]) (by simp [results, Tryd.f45, go_sem, v0, v1, v2]) rfl ⟨rfl, set3_below HB1.out (by simp) _ _ _⟩

set_option maxRecDepth 100000 in
theorem rEndsK_yes (t : Int) (w : World) (h : endsOk t) :
    Calls Tryd.prog 46 #[.int .i64 t] w fun e w' => e = .returned (.tuple #[.agg #[.int .i64 t, .int .i64 0, .int .i64 0], .agg #[.int .i64 t, .int .i64 16, .int .i64 4294967295], .int .i64 0]) ∧ Below w.heap.size w w' := by
  obtain ⟨h0, h1⟩ := h
  have g0 : decide (t < 0) = false := decide_eq_false (by omega)
  have g1 : decide (281474976710656 < t) = false := decide_eq_false (by omega)
  go_enter Tryd.func46, Tryd.ntmps46
  go_wp2
  refine bodyPost_ret (v := .tuple #[.agg #[.int .i64 t, .int .i64 0, .int .i64 0], .agg #[.int .i64 t, .int .i64 16, .int .i64 4294967295], .int .i64 0]) (by simp [results, Tryd.f46, go_sem]) rfl ⟨rfl, ?_⟩
  first | exact ((Below.refl _ w).alloc (Nat.le_refl _) _).alloc (by simp) _ | go_grown
set_option maxRecDepth 100000 in
theorem rEndsK_no (t : Int) (w : World) (h : ¬ endsOk t) :
    Calls Tryd.prog 46 #[.int .i64 t] w fun e w' => e = .returned (.tuple #[.agg #[.int .i64 0, .int .i64 0, .int .i64 0], .agg #[.int .i64 0, .int .i64 0, .int .i64 0], .int .i64 2]) ∧ Below w.heap.size w w' := by
  unfold endsOk at h
  by_cases h0 : t < 0
  · have g0 : decide (t < 0) = true := decide_eq_true h0
    go_enter Tryd.func46, Tryd.ntmps46
    go_wp2
    refine bodyPost_ret (v := .tuple #[.agg #[.int .i64 0, .int .i64 0, .int .i64 0], .agg #[.int .i64 0, .int .i64 0, .int .i64 0], .int .i64 2]) (by simp [results, Tryd.f46, go_sem]) rfl ⟨rfl, ?_⟩
    first | exact ((Below.refl _ w).alloc (Nat.le_refl _) _).alloc (by simp) _ | go_grown
  · have g0 : decide (t < 0) = false := decide_eq_false h0
    have g1 : decide (281474976710656 < t) = true := decide_eq_true (by omega)
    go_enter Tryd.func46, Tryd.ntmps46
    go_wp2
    refine bodyPost_ret (v := .tuple #[.agg #[.int .i64 0, .int .i64 0, .int .i64 0], .agg #[.int .i64 0, .int .i64 0, .int .i64 0], .int .i64 2]) (by simp [results, Tryd.f46, go_sem]) rfl ⟨rfl, ?_⟩
    first | exact ((Below.refl _ w).alloc (Nat.le_refl _) _).alloc (by simp) _ | go_grown
end Go.Proofs.YtapaccbffhcjdaaDoor
