/-
  THE WALK of fermatalaw06.RngWrong: it returns true, and writes nothing that was there.
-/
import Derived.Test.YtfcajgfhmfpchaaFrame
import Derived.Test.YtfcajgfhmfpchaaRngF
namespace Go.Proofs.Ytfcajgfhmfpchaa
open Go.RowKit Pl

/-- A row of two numbers of the walk's own. -/
structure Two (W0 W : World) (b : Nat) (x y : Int) : Prop where
  size : W0.heap.size ≤ b
  lt : b < W.heap.size
  c0 : W.cell? ⟨b, 0, none⟩ = some (.int .i64 x)
  c1 : W.cell? ⟨b, 1, none⟩ = some (.int .i64 y)
theorem Two.new (W0 W : World) (x y : Int) (t : TypeId) (h : W0.heap.size ≤ W.heap.size) : Two W0 (W.alloc (.cells #[.int .i64 x, .int .i64 y] t)) W.heap.size x y :=
  ⟨h, by simp, by simp, by simp⟩
theorem Two.below {W0 W w' : World} {b : Nat} {x y : Int} (h : Two W0 W b x y) (hb : Below W.heap.size W w') : Two W0 w' b x y :=
  ⟨h.size, Nat.lt_of_lt_of_le h.lt hb.size, cell_below hb h.lt h.c0, cell_below hb h.lt h.c1⟩

set_option maxRecDepth 100000 in
set_option maxHeartbeats 2000000 in
theorem rngWrong_walk (s : BitVec 64) (n k : Int) (w : World) :
    Calls Try.prog 11 #[.int .u64 (s.toNat : Int), .int .i64 n, .int .i64 k] w fun e w' => e = .returned (.bool true) ∧ Below w.heap.size w w' := by
  have AW := Lib.hid (fun W => awakeR_calls W)
  have hK := Lib.hid (fun p hp W => key_no s p hp W)
  have hV := Lib.hid (fun p hp W => value_no s p 0 (.inl hp) W)
  have hD := Lib.hid (fun p hp W => draw_no s p 0 0 (.inl hp) W)
  have hF := Lib.hid (fun p hp W => find_no s p 0#64 hp W)
  have hN := Lib.hid (fun p hp W => newR_no s p hp W)
  have hN1 := Lib.hid (fun W => newR_yes s 1 (by omega) W)
  have hV1 := Lib.hid (fun i hi W => value_no s 1 i (.inr hi) W)
  have hD1 := Lib.hid (fun i hi W => draw_no s 1 i 0 (.inr hi) W)
  have hM1 := Lib.hid (fun X j hj W hs => moveR_no X 0 j (keyB s 1) W hs hj)
  have hB5 := Lib.hid (fun y hy W => below_no 5 y hy W)
  have hR0 := Lib.hid (fun y hy W => range_none y 0 hy W)
  have hD0 := Lib.hid (fun y hy W => draw_bound s 1 0 y (by omega) (by omega) hy W)
  have hDS := Lib.hid (fun X y hy W hs => drawR_bound X 0 y (keyB s 1) W hs hy)
  have hR7 := Lib.hid (fun z hz W => range_off 7 z (by omega) hz W)
  have hIx := Lib.hid (fun X W hs => indexR_calls X 0 (keyB s 1) W hs)
  have z0 : ((0#64).toNat : Int) = 0 := rfl
  rw [z0] at hF
  generalize keyB s 1 = key at *
  generalize s.toNat = sn at *
  go_enter Try.func11, Try.ntmps11
  go_upto_region 1 with fail
  go_cut [49, 50, 51] (fun a b c wx => ∃ (B : Nat) (x y : Int), a = .slice (some ⟨B, 0, none⟩) 2 2 ∧ b = .int .i64 2 ∧ c = .int .i64 0 ∧ x < 0 ∧ 65536 < y ∧ Two w wx B x y ∧ Below w.heap.size w wx)
  case first =>
    rcases (show n ≤ -1 ∨ (-1 < n ∧ n < 65537) ∨ 65537 ≤ n by omega) with h1 | ⟨h1, h2⟩ | h1
    all_goals
      go_wp2_with fail
      go_meet
      exact ⟨_, _, _, rfl, rfl, rfl, by omega, by omega, Two.new w _ _ _ _ (Nat.le_refl _), by go_grown⟩
  case rest =>
    obtain ⟨B, x, y, rfl, rfl, rfl, hx, hy, ht, hb0⟩ := hcut
    have T0 := Lib.hid ht
    have HB0 := Lib.hid hb0
    clear ht hb0
    obtain ⟨c0, c1⟩ : wc.cell? ⟨B, 0, none⟩ = some (.int .i64 x) ∧ wc.cell? ⟨B, 1, none⟩ = some (.int .i64 y) := ⟨T0.out.c0, T0.out.c1⟩
    go_wp2_with fail
    refine wp_loop_rounds 3 ?_
    rw [rounds_succ]
    go_wp2_with fail
    refine (hK.out _ (by omega) _).mono ?_
    rintro e w1 ⟨rfl, hb⟩
    have T1 := Lib.hid (T0.out.below hb)
    have HB1 := Lib.hid (HB0.out.trans (hb.mono HB0.out.size))
    clear hb
    clear c0 c1
    go_wp2_with fail
    refine (hV.out _ (by omega) _).mono ?_
    rintro e w2 ⟨rfl, hb⟩
    have T2 := Lib.hid (T1.out.below hb)
    have HB2 := Lib.hid (HB1.out.trans (hb.mono HB1.out.size))
    clear hb
    go_wp2_with fail
    refine (hD.out _ (by omega) _).mono ?_
    rintro e w3 ⟨rfl, hb⟩
    have T3 := Lib.hid (T2.out.below hb)
    have HB3 := Lib.hid (HB2.out.trans (hb.mono HB2.out.size))
    clear hb
    go_wp2_with fail
    refine (hF.out _ (by omega) _).mono ?_
    rintro e w4 ⟨rfl, hb⟩
    have T4 := Lib.hid (T3.out.below hb)
    have HB4 := Lib.hid (HB3.out.trans (hb.mono HB3.out.size))
    clear hb
    go_wp2_with fail
    refine (hN.out _ (by omega) _).mono ?_
    rintro e w5 ⟨rfl, hb⟩
    have T5 := Lib.hid (T4.out.below hb)
    have HB5 := Lib.hid (HB4.out.trans (hb.mono HB4.out.size))
    clear hb
    have c0 := T5.out.c0
    have c1 := T5.out.c1
    go_wp2_with fail
    rw [rounds_succ]
    go_wp2_with fail
    refine (hK.out _ (by omega) _).mono ?_
    rintro e w6 ⟨rfl, hb⟩
    have T6 := Lib.hid (T5.out.below hb)
    have HB6 := Lib.hid (HB5.out.trans (hb.mono HB5.out.size))
    clear hb
    clear c0 c1
    go_wp2_with fail
    refine (hV.out _ (by omega) _).mono ?_
    rintro e w7 ⟨rfl, hb⟩
    have T7 := Lib.hid (T6.out.below hb)
    have HB7 := Lib.hid (HB6.out.trans (hb.mono HB6.out.size))
    clear hb
    go_wp2_with fail
    refine (hD.out _ (by omega) _).mono ?_
    rintro e w8 ⟨rfl, hb⟩
    have T8 := Lib.hid (T7.out.below hb)
    have HB8 := Lib.hid (HB7.out.trans (hb.mono HB7.out.size))
    clear hb
    go_wp2_with fail
    refine (hF.out _ (by omega) _).mono ?_
    rintro e w9 ⟨rfl, hb⟩
    have T9 := Lib.hid (T8.out.below hb)
    have HB9 := Lib.hid (HB8.out.trans (hb.mono HB8.out.size))
    clear hb
    go_wp2_with fail
    refine (hN.out _ (by omega) _).mono ?_
    rintro e w10 ⟨rfl, hb⟩
    have T10 := Lib.hid (T9.out.below hb)
    have HB10 := Lib.hid (HB9.out.trans (hb.mono HB9.out.size))
    clear hb
    have c0 := T10.out.c0
    have c1 := T10.out.c1
    go_wp2_with fail
    rw [rounds_succ]
    go_wp2_with fail
    refine (hN1.out _).mono ?_
    rintro e w11 ⟨X, rfl, hX, hs, hb⟩
    have HX := Lib.hid (Nat.le_trans HB10.out.size hX)
    have S11 := Lib.hid hs
    have HB11 := Lib.hid (HB10.out.trans (hb.mono HB10.out.size))
    clear hb hs c0 c1 hX
    clear hx hy
    go_upto_region 15 with fail
    go_cut [127, 128, 129] (fun a b c wx => ∃ (B : Nat) (x y : Int), a = .slice (some ⟨B, 0, none⟩) 2 2 ∧ b = .int .i64 2 ∧ c = .int .i64 0 ∧ x < 0 ∧ 281474976710657 ≤ y ∧ Two w wx B x y ∧ Below w.heap.size w wx ∧ SIs wx X key 0)
    case first =>
      rcases (show n ≤ -1 ∨ (-1 < n ∧ n < 281474976710657) ∨ 281474976710657 ≤ n by omega) with h1 | ⟨h1, h2⟩ | h1
      all_goals
        have hsz := HB11.out.size
        have hbb := HB11.out
        go_wp2_with fail
        go_meet
        exact ⟨_, _, _, rfl, rfl, rfl, by omega, by omega, Two.new w w11 _ _ _ hsz, by go_grown, S11.out.below ((Below.refl _ _).alloc (Nat.le_refl _) _)⟩
    case rest =>
      obtain ⟨B2, x, y, rfl, rfl, rfl, hx, hy, ht, hb0, hs⟩ := hcut
      have T100 := Lib.hid ht
      have HB100 := Lib.hid hb0
      have S100 := Lib.hid hs
      clear ht hb0 hs
      have c0 := T100.out.c0
      have c1 := T100.out.c1
      go_wp2_with fail
      refine wp_loop_rounds 3 ?_
      rw [rounds_succ]
      have hx1 : (x == 281474976710657) = false := by rw [beq_eq_false_iff_ne]; omega
      go_wp2_with fail
      refine (hV1.out _ (by omega) _).mono ?_
      rintro e w101 ⟨rfl, hb⟩
      have T101 := Lib.hid (T100.out.below hb)
      have HB101 := Lib.hid (HB100.out.trans (hb.mono HB100.out.size))
      have S101 := Lib.hid (S100.out.below hb)
      clear hb
      clear c0 c1
      go_wp2_with fail
      refine (hD1.out _ (by omega) _).mono ?_
      rintro e w102 ⟨rfl, hb⟩
      have T102 := Lib.hid (T101.out.below hb)
      have HB102 := Lib.hid (HB101.out.trans (hb.mono HB101.out.size))
      have S102 := Lib.hid (S101.out.below hb)
      clear hb
      go_wp2_with fail
      refine (hM1.out X _ (by omega) _ S102.out).mono ?_
      rintro e w' ⟨rfl, rfl⟩
      have c0 := T102.out.c0
      have c1 := T102.out.c1
      go_wp2_with fail
      rw [rounds_succ]
      go_wp2_with fail
      refine (hV1.out _ (by omega) _).mono ?_
      rintro e w103 ⟨rfl, hb⟩
      have T103 := Lib.hid (T102.out.below hb)
      have HB103 := Lib.hid (HB102.out.trans (hb.mono HB102.out.size))
      have S103 := Lib.hid (S102.out.below hb)
      clear hb
      clear c0 c1 hx1
      go_wp2_with fail
      refine (hD1.out _ (by omega) _).mono ?_
      rintro e w104 ⟨rfl, hb⟩
      have T104 := Lib.hid (T103.out.below hb)
      have HB104 := Lib.hid (HB103.out.trans (hb.mono HB103.out.size))
      have S104 := Lib.hid (S103.out.below hb)
      clear hb
      go_upto_region 20 with fail
      rcases (show y = 281474976710657 ∨ 281474976710657 < y by omega) with h1 | h1
      · skip
        have hy1 : (y == 281474976710657) = true := by rw [beq_iff_eq]; omega
        have hy2 : y + 1 = 281474976710658 := by omega
        have hy3 : wrap64 (y + 1) = 281474976710658 := by rw [hy2]; unfold wrap64; omega
        clear hy h1
        go_wp2_with fail
        refine (hM1.out X _ (by omega) _ S104.out).mono ?_
        rintro e w' ⟨rfl, rfl⟩
        go_wp2_with fail
        rw [rounds_succ]
        rcases (show k < -1 ∨ k = -1 ∨ k = 0 ∨ (0 < k ∧ k < 7) ∨ k = 7 ∨ 7 < k by omega) with g1 | rfl | rfl | ⟨g1, g2⟩ | rfl | g1
        all_goals
          go_wp2_with fail
          refine (hB5.out _ (by omega) _).mono ?_
          rintro e w' ⟨rfl, rfl⟩
          go_wp2_with fail
          refine (hR0.out _ (by omega) _).mono ?_
          rintro e w' ⟨rfl, rfl⟩
          go_wp2_with fail
          refine (hD0.out _ (by omega) _).mono ?_
          rintro e w105 ⟨rfl, hb⟩
          have T105 := Lib.hid (T104.out.below hb)
          have HB105 := Lib.hid (HB104.out.trans (hb.mono HB104.out.size))
          have S105 := Lib.hid (S104.out.below hb)
          clear hb
          go_wp2_with fail
          refine (hDS.out X _ (by omega) _ S105.out).mono ?_
          rintro e w' ⟨rfl, rfl⟩
          go_wp2_with fail
          refine (hR7.out _ (by omega) _).mono ?_
          rintro e w' ⟨rfl, rfl⟩
          go_wp2_with fail
          refine (hR7.out _ (by omega) _).mono ?_
          rintro e w' ⟨rfl, rfl⟩
          go_wp2_with fail
          refine (hIx.out X _ S105.out).mono ?_
          rintro e w' ⟨rfl, rfl⟩
          go_wp2_with fail
          refine (AW.out _).mono ?_
          rintro e w200 ⟨rfl, hb⟩
          have HBz := Lib.hid (HB105.out.trans (hb.mono HB105.out.size))
          clear hb
          go_wp2
          go_ret
          exact ⟨rfl, HBz.out⟩
      · skip
        have hy1 : (y == 281474976710657) = false := by rw [beq_eq_false_iff_ne]; omega
        go_wp2_with fail
        refine (hM1.out X _ (by omega) _ S104.out).mono ?_
        rintro e w' ⟨rfl, rfl⟩
        go_wp2_with fail
        rw [rounds_succ]
        rcases (show k < -1 ∨ k = -1 ∨ k = 0 ∨ (0 < k ∧ k < 7) ∨ k = 7 ∨ 7 < k by omega) with g1 | rfl | rfl | ⟨g1, g2⟩ | rfl | g1
        all_goals
          go_wp2_with fail
          refine (hB5.out _ (by omega) _).mono ?_
          rintro e w' ⟨rfl, rfl⟩
          go_wp2_with fail
          refine (hR0.out _ (by omega) _).mono ?_
          rintro e w' ⟨rfl, rfl⟩
          go_wp2_with fail
          refine (hD0.out _ (by omega) _).mono ?_
          rintro e w105 ⟨rfl, hb⟩
          have T105 := Lib.hid (T104.out.below hb)
          have HB105 := Lib.hid (HB104.out.trans (hb.mono HB104.out.size))
          have S105 := Lib.hid (S104.out.below hb)
          clear hb
          go_wp2_with fail
          refine (hDS.out X _ (by omega) _ S105.out).mono ?_
          rintro e w' ⟨rfl, rfl⟩
          go_wp2_with fail
          refine (hR7.out _ (by omega) _).mono ?_
          rintro e w' ⟨rfl, rfl⟩
          go_wp2_with fail
          refine (hR7.out _ (by omega) _).mono ?_
          rintro e w' ⟨rfl, rfl⟩
          go_wp2_with fail
          refine (hIx.out X _ S105.out).mono ?_
          rintro e w' ⟨rfl, rfl⟩
          go_wp2_with fail
          refine (AW.out _).mono ?_
          rintro e w200 ⟨rfl, hb⟩
          have HBz := Lib.hid (HB105.out.trans (hb.mono HB105.out.size))
          clear hb
          go_wp2
          go_ret
          exact ⟨rfl, HBz.out⟩
end Go.Proofs.Ytfcajgfhmfpchaa
