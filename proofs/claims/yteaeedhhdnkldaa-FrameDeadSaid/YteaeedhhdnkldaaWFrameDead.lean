/-
  THE WALK of fermatalaw03.FrameDead: it returns true; nothing that was there is written.
-/
import Derived.Test.YteaeedhhdnkldaaWrong03
import Derived.Test.YteaeedhhdnkldaaStep8
import Derived.Test.YteaeedhhdnkldaaWrites01
import Derived.Deep.CutBlock
namespace Go.Proofs.Yteaeedhhdnkldaa
open Go.RowKit Go.Shelf Pl

/-- What the first playing leaves. -/
def DeadP (w9 : World) (gs : Nat) (b : List Nat) (x y : Value) (wx : World) : Prop := ∃ wA, Below w9.heap.size w9 wA ∧ PlyP wA gs b (.returned (.tuple #[x, y])) wx

set_option maxRecDepth 100000 in
set_option maxHeartbeats 4000000 in
theorem frameDead_walk (sv hv cv : Value) (S : List (Nat × Nat)) (way : Nat) (cuts behind : List Nat) (w : World) (hS : SRow w sv S) (hway : way < 256) (hcu : BRow w cv cuts) (hbe : BRow w hv behind) :
    Calls Try.prog 9 #[sv, .int .u8 way, hv, cv] w fun e w' => e = .returned (.bool true) ∧ Below w.heap.size w w' := by
  have hb64 := hbe.len_le
  obtain ⟨ha, hc, rfl⟩ := hbe.shape
  have HAw := Lib.hid (awake3_calls w)
  have HMd := Lib.hid (fun W (hb : Below w.heap.size w W) => made3_calls sv S W (hS.below hb))
  have HCu := Lib.hid hcu
  have HBe := Lib.hid hbe
  have hL30 := madeS_length S
  have HL599 := Lib.hid (madeS_len S)
  have HLB := Lib.hid (madeS_allB hS)
  generalize madeS S = L at *
  clear hS hcu hbe
  go_enter Try.func9, Try.ntmps9
  go_wp2_with fail
  refine HAw.out.mono ?_
  rintro e w1 ⟨rfl, hb1⟩
  have HB1 := Lib.hid hb1
  clear hb1 HAw
  go_wp2_with fail
  refine (HMd.out _ HB1.out).mono ?_
  rintro e w2 ⟨v2, rfl, ho2, hb2⟩
  have HB2 := Lib.hid (HB1.out.trans (hb2.mono HB1.out.size))
  obtain ⟨a2, c2, rfl⟩ : ∃ a c, v2 = .slice a L.length c := by obtain ⟨V, hV, _⟩ := ho2; exact owns_shape hV
  have HO2 := Lib.hid ho2
  clear ho2 hb2 HMd
  have hjle : ∀ k, (joinF (L.take k)).length ≤ 100000000 := fun k => by
    have h1 := joinF_le (L := L.take k) (c := 599) (fun l hl => HL599.out l (List.mem_of_mem_take hl))
    have h2 : (L.take k).length ≤ 30 := by rw [List.length_take]; omega
    have := Nat.mul_le_mul_right 608 h2
    omega
  have hj := join_calls _ L w2 HO2.out.trow (by omega) hjle
  rw [joinV_ok (fun l hl => by have := HL599.out l hl; omega)] at hj
  have HJ := Lib.hid hj
  clear hj hjle
  go_wp2_with fail
  refine HJ.out.mono ?_
  rintro e w3 ⟨v3, rfl, ho3, hb3⟩
  have hjb := joinF_AllB HLB.out
  have hjl := joinF_le (L := L) (c := 599) HL599.out
  have hjl2 : (joinF L).length ≤ 20000 := by have := Nat.mul_le_mul_right 608 hL30; omega
  have hL16 : ∀ l ∈ L, l.length ≤ 16384 := fun l hl => by have := HL599.out l hl; omega
  have hr3 := BRow.of_own ho3 hjb
  obtain ⟨a3, c3, rfl⟩ := hr3.shape
  obtain ⟨s1, s2, s3⟩ := spl_joined L hL16
  obtain ⟨f1, f2⟩ := feedW_joined hL16
  have HSp := Lib.hid (And.intro s1 (And.intro s3 (And.intro f1 f2)))
  have HBg := Lib.hid (fun r (hr : ferr r = 30) => join_begin hL16 hr)
  have HWr := Lib.hid (fun r (hr : ferr r = 31) => join_wrong hL16 hr)
  have HJB := Lib.hid hjb
  have HB3 := Lib.hid (HB2.out.trans (hb3.mono HB2.out.size))
  have HO3 := Lib.hid (HO2.out.below hb3)
  have HR3 := Lib.hid hr3
  clear ho3 hb3 hjb hjl s1 s2 s3 f1 f2 hr3 HO2 HJ hL16
  generalize joinF L = J at *
  go_wp2_with fail
  refine (new_calls w3).mono ?_
  rintro e w5 ⟨rfl, hs5, hb5, -⟩
  have hgs : w.heap.size ≤ w3.heap.size := HB3.out.size
  have HB5 := Lib.hid (HB3.out.trans (hb5.mono hgs))
  have HGs := Lib.hid hgs
  have HS5 := Lib.hid hs5
  have HO5 := Lib.hid (HO3.out.below hb5)
  have HR5 := Lib.hid (HR3.out.below hb5)
  clear hs5 hb5 hgs HO3 HR3 HB3
  generalize w3.heap.size = gs at *
  go_upto_region 8 with fail
  obtain ⟨r, hr, hr5⟩ : ∃ r, way % 5 = r ∧ r < 5 := ⟨_, rfl, by omega⟩
  have hri : (way : Int) % 5 = (r : Int) := by omega
  obtain ⟨q7, hq7, hq7b⟩ : ∃ q, way % 7 = q ∧ q < 7 := ⟨_, rfl, by omega⟩
  obtain ⟨q2, hq2, hq2b⟩ : ∃ q, way % 247 = q ∧ q < 247 := ⟨_, rfl, by omega⟩
  obtain ⟨q1, hq1, hq1b⟩ : ∃ q, way % 191 = q ∧ q < 191 := ⟨_, rfl, by omega⟩
  obtain ⟨q5, hq5, hq5b⟩ : ∃ q, way % 255 = q ∧ q < 255 := ⟨_, rfl, by omega⟩
  have i7 : (way : Int) % 7 = (q7 : Int) := by omega
  have i2 : (way : Int) % 247 = (q2 : Int) := by omega
  have i1 : (way : Int) % 191 = (q1 : Int) := by omega
  have i5 : (way : Int) % 255 = (q5 : Int) := by omega
  have HQ := Lib.hid (And.intro hq7 (And.intro hq2 (And.intro hq1 hq5)))
  clear hr hq7 hq2 hq1 hq5
  go_cut [14] (fun x wx => ∃ g, x = .slice (some ⟨g, 0, none⟩) (wrongL way r).length (wrongL way r).length ∧ BRow wx x (wrongL way r) ∧ Below w5.heap.size w5 wx)
  case first =>
    have HRows := Lib.hid (fun o => wrong_rows w5 way q7 q2 q1 q5 HQ.out o)
    rcases (show r = 0 ∨ r = 1 ∨ r = 2 ∨ r = 3 ∨ r = 4 by omega) with rfl | rfl | rfl | rfl | rfl
    all_goals
      go_wp2_with fail
      go_meet
      first
        | exact ⟨_, rfl, (HRows.out _).1.1, (HRows.out _).2⟩
        | exact ⟨_, rfl, (HRows.out _).1.2.1, (HRows.out _).2⟩
        | exact ⟨_, rfl, (HRows.out _).1.2.2.1, (HRows.out _).2⟩
        | exact ⟨_, rfl, (HRows.out _).1.2.2.2.1, (HRows.out _).2⟩
        | exact ⟨_, rfl, (HRows.out _).1.2.2.2.2, (HRows.out _).2⟩
  case rest =>
    obtain ⟨gw, rfl, hrw, hbw⟩ := hcut
    have hwl := wrongL_length way r
    have hwi := wrongL_init way r
    have hwf := wrongL_ferr way r []
    rw [List.append_nil] at hwf
    have hwb := wrongL_AllB way r
    clear HQ i7 i2 i1 i5 hri hq7b hq2b hq1b hq5b hr5 hway
    generalize wrongL way r = X at *
    obtain ⟨p0, hp0⟩ : ∃ p0, X.length = p0 + 1 := ⟨X.length - 1, by omega⟩
    rw [hp0] at hrw hwi hwl
    rw [show p0 + 1 - 1 = p0 by omega] at hwi
    have hHs := HBg.out _ hwi
    have hXw := HWr.out _ hwf
    have HHs := Lib.hid hHs
    have HXw := Lib.hid hXw
    have HX0 := Lib.hid hp0
    have HBw := Lib.hid (HB5.out.trans (hbw.mono HB5.out.size))
    have HSw := Lib.hid (HS5.out.below hbw)
    have HOw := Lib.hid (HO5.out.below hbw)
    have HRw := Lib.hid (HR5.out.below hbw)
    have HXr := Lib.hid hrw
    have hPl : (X.take p0).length = p0 := by rw [List.length_take]; omega
    have hPi : BRow wc (.slice (some ⟨gw, 0, none⟩) p0 (p0 + 1)) (X.take p0) := hrw.headW p0 (by omega)
    have hXe : X.take p0 ++ X.drop p0 = X := List.take_append_drop _ _
    have hlast : BRow wc (.slice (some ⟨gw, p0, none⟩) 1 1) (X.drop p0) := hrw.drop p0 p0 1 1 (by omega) (by omega) (by omega) (by omega) (by unfold maxLen; omega)
    have HPi := Lib.hid hPi
    have HLa := Lib.hid hlast
    have HXe := Lib.hid hXe
    have HXb := Lib.hid hwb
    have HPl := Lib.hid hPl
    have HDl := Lib.hid (show (X.drop p0).length = 1 by rw [List.length_drop]; omega)
    have hp3 : p0 ≤ 2 := by omega
    rw [hp0]
    clear hHs hXw hwi hwf hwb hrw hbw hwl HB5 HS5 HO5 HR5 hPl hPi hXe hlast hp0 HBg HWr
    generalize hP : X.take p0 = P at *
    generalize hD : X.drop p0 = D at *
    clear hP hD
    go_upto_region 9 with fail
    have hpi : ((p0 + 1 : Nat) : Int) - 1 = (p0 : Int) := by omega
    have HD9 := Lib.hid (show Below wc.heap.size wc wc.drew from ⟨rfl, rfl, rfl, Nat.le_refl _, fun _ _ => rfl⟩)
    have HC9 := Lib.hid (fun W (hb : Below wc.heap.size wc W) => sclone_calls (.slice a3 J.length c3) J W (HRw.out.below hb) (by omega))
    have HLn := Lib.hid (show J.length + P.length ≤ 140737488355328 by rw [HPl.out]; omega)
    have HLn2 := Lib.hid (show (J ++ P).length ≤ 500000 by rw [List.length_append, HPl.out]; omega)
    have HCw := Lib.hid (HCu.out.below HBw.out)
    have HBeW := Lib.hid (HBe.out.below HBw.out)
    clear HCu HBe
    go_cut [15, 16] (fun x y wx => DeadP wc gs (J ++ P) x y wx)
    case first =>
      have hwq : IntKind.i64.wrap ((p0 : Int) + 1 - 1) = (p0 : Int) := by rw [IntWalk.i64_in _ (by omega)]; omega
      have hwq2 : IntKind.i64.wrap (((p0 + 1 : Nat) : Int) - 1) = (p0 : Int) := by rw [IntWalk.i64_in _ (by omega)]; omega
      have hp1 : (p0 : Int) ≤ (p0 : Int) + 1 := by omega
      have hp00 : (0 : Int) ≤ (p0 : Int) := by omega
      have hwp : IntKind.i64.wrap (p0 : Int) = (p0 : Int) := IntWalk.i64_in _ (by omega)
      go_region_law (first
        | (go_simp; go_at_call 26; (refine (HC9.out _ HD9.out).mono ?_; rintro e wC ⟨vC, rfl, hoC, hbC⟩; obtain ⟨aC, cC, rfl⟩ := owns_shape hoC; have HBc := Lib.hid (HD9.out.trans (hbC.mono HD9.out.size)); have HOc := Lib.hid (own_base hoC HD9.out.size); clear hoC hbC))
        | (refine step_append8 rfl (.tmp 66) (.tmp 71) (by rfl) wc.heap.size _ J (by first | (simp [Act.eval]; done) | rfl) HOc.out _ P (by first | (simp [Act.eval]; done) | rfl) (HPi.out.below HBc.out) HLn.out HBc.out.size ?_; intro vA wA hoA hgA; have HBA := Lib.hid (HBc.out.grown hgA HBc.out.size (fun j hj => (HOc.out.lt j hj).1)); have HOA := Lib.hid (BRow.of_own hoA (HJB.out.append HPi.out.1)); clear hoA hgA)
        | (go_simp; go_at_call 35; (refine (played_calls gs _ _ (J ++ P) cuts _ (HSw.out.below HBA.out) HOA.out (HCw.out.below HBA.out) HLn2.out).mono ?_; rintro e wP ⟨vP, hP', VP, rfl, hsP, hoP, hrP, hmP, hgP⟩; have HDP := Lib.hid (show DeadP wc gs (J ++ P) vP (.int .i64 (feedE (J ++ P) : Nat)) wP from ⟨_, HBA.out, vP, hP', VP, rfl, hsP, hoP, hrP, hmP, hgP⟩); clear hsP hoP hrP hmP hgP))
        | fail)
      all_goals
        go_wp2_with fail
        go_meet
        exact HDP.out
    case rest =>
      obtain ⟨wA, hbA, v7, h7, V7, he, hs7, ho7, hr7, hm7, hg7⟩ := hcut
      simp only [Ending.returned.injEq, Value.tuple.injEq, Array.mk.injEq, List.cons.injEq, and_true] at he
      obtain ⟨rfl, rfl⟩ := he
      have hoU := ho7
      have hsU := hs7
      rw [HHs.out.2.2.1]
      rw [HHs.out.1] at hs7 hr7 hm7
      rw [if_neg HHs.out.2.1] at hs7
      rw [HHs.out.2.2.2] at ho7
      obtain ⟨a7, c7, rfl⟩ := owns_shape hr7
      obtain ⟨b7, d7, rfl⟩ := owns_shape ho7
      have HsA := Lib.hid (HSw.out.below hbA)
      have HBA := Lib.hid (HBw.out.trans (hbA.mono HBw.out.size))
      have HOA := Lib.hid (HOw.out.below hbA)
      have HRA := Lib.hid (HRw.out.below hbA)
      have HLaA := Lib.hid (HLa.out.below hbA)
      have HCA := Lib.hid (HCw.out.below hbA)
      have HBeA := Lib.hid (HBeW.out.below hbA)
      have HG7 := Lib.hid hg7
      have HT7 := Lib.hid (trow_of hr7 hm7 HLB.out)
      have HO7 := Lib.hid (hownW_sat HOA.out HsA.out hg7)
      have hh7 := held_calls gs 1 L.length _ b7 _ d7 wc hs7 rfl (.inl rfl)
      rw [HPl.out] at hh7
      have HH7 := Lib.hid hh7
      have HS7 := Lib.hid hs7
      have HoU := Lib.hid hoU
      have HsU := Lib.hid hsU
      have HPb := Lib.hid HPi.out.1
      have HJP := Lib.hid HLn2.out
      clear hs7 ho7 hr7 hm7 hg7 hh7 hoU hsU hbA HSw HBw HOw HRw HLa HCw HBeW HC9 HD9 HLn HPi HXr
      have hp1 : (p0 : Int) ≤ (p0 : Int) + 1 := by omega
      have hp00 : (0 : Int) ≤ (p0 : Int) := by omega
      go_wp2_with fail
      refine (equalM_calls _ _ L L wc HT7.out HO7.out.trow).mono ?_
      rintro e w8 ⟨rfl, rfl⟩
      rw [show decide (L = L) = true from decide_eq_true rfl]
      go_wp2_with fail
      refine (dead_calls gs 1 L.length _ wc HS7.out).mono ?_
      rintro e w8 ⟨rfl, rfl⟩
      go_wp2_with fail
      refine HH7.out.mono ?_
      rintro e w8 ⟨rfl, rfl⟩
      go_wp2_with fail
      have hbr := brow_sat HLaA.out HsA.out ⟨_, _, _, rfl⟩ HG7.out
      have hfa := feed_any gs wA.heap.size _ (J ++ P) _ D wc HsU.out HoU.out (HJB.out.append HPb.out) hbr HG7.out.size (by have := HJP.out; have := HDl.out; omega)
      have HFa := Lib.hid hfa
      clear hbr hfa HH7 HT7
      refine HFa.out.mono ?_
      rintro e w9 ⟨v9, h9, V9, L9, rfl, hsp9, hs9, ho9, hr9, -, -, ⟨w9', g91, g92⟩, -⟩
      have hZ : (J ++ P) ++ D = J ++ X := by rw [List.append_assoc, HXe.out]
      rw [hZ, HXw.out.1, HXw.out.2.2, if_pos rfl] at hs9
      rw [hZ, HXw.out.1, HHs.out.1] at hsp9
      have hL9 : L9 = [] := by
        have := congrArg List.length hsp9
        rw [List.length_append] at this
        exact List.eq_nil_of_length_eq_zero (by omega)
      subst hL9
      rw [hZ, feedH_31 HXw.out.2.2] at ho9
      rw [hZ, feedE_31 HXw.out.2.2]
      obtain ⟨a9, c9, rfl⟩ := owns_shape hr9
      obtain ⟨b9, d9, rfl⟩ := owns_shape ho9
      have HG9 := Lib.hid ((grownBy_chain HG7.out g91 (.inr fun q hq => (HoU.out.lt q hq).1)).trans g92)
      have HS9 := Lib.hid hs9
      have HH9 := Lib.hid (held_calls gs 2 L.length _ b9 _ d9 w9 hs9 rfl (.inr rfl))
      have hn9 := sneed_calls gs 2 L.length _ [] w9 hs9 (BRow.of_own ho9 AllB.nil)
      rw [if_neg (by decide)] at hn9
      have HN9 := Lib.hid hn9
      clear hsp9 hs9 ho9 hr9 g91 g92 hZ hn9 HFa HS7 HoU HsU HO7 HLaA HXe HXw HHs HG7
      obtain ⟨K2, hK2a, hK2b, hmin1, hmin2⟩ : ∃ K2 : Nat, K2 ≤ behind.length ∧ K2 ≤ 100 ∧ (if (100 : Int) < (behind.length : Int) then (100 : Int) else (behind.length : Int)) = (K2 : Int) ∧ min (behind.length : Int) 100 = (K2 : Int) := by
        by_cases h : (100 : Int) < (behind.length : Int)
        · exact ⟨100, by omega, by omega, by rw [if_pos h]; rfl, by omega⟩
        · exact ⟨behind.length, by omega, by omega, by rw [if_neg h], by omega⟩
      have hmc : behind.length ≤ hc := by
        obtain ⟨_, ⟨_, _, _, h, _⟩ | ⟨_, _, _, e, h, _⟩⟩ := HBeA.out
        · rw [h]; exact Nat.zero_le _
        · cases e; exact h
      have hmi : (K2 : Int) ≤ (hc : Int) := by omega
      go_wp2_with fail
      all_goals
        refine (feed_dead gs L.length _ _ w9 HS9.out).mono ?_
        rintro e w10 ⟨rfl, rfl⟩
        go_wp2_with fail
        refine (feed_dead gs L.length _ _ w9 HS9.out).mono ?_
        rintro e w10 ⟨rfl, rfl⟩
        go_wp2_with fail
        refine (dead_calls gs 2 L.length _ w9 HS9.out).mono ?_
        rintro e w10 ⟨rfl, rfl⟩
        go_wp2_with fail
        refine (frames_calls gs 2 L.length _ w9 HS9.out (.inr rfl)).mono ?_
        rintro e w10 ⟨rfl, rfl⟩
        go_wp2_with fail
        refine HH9.out.mono ?_
        rintro e w10 ⟨rfl, rfl⟩
        go_wp2_with fail
        refine HN9.out.mono ?_
        rintro e w10 ⟨rfl, hb10⟩
        have HG10 := Lib.hid (HG9.out.trans (grownBy_of_below hb10 (some gs)))
        have HS10 := Lib.hid (HS9.out.below hb10)
        clear hb10 HG9 HS9 HH9 HN9
        go_wp2_with fail
        refine (reset_calls gs 2 L.length _ w10 HS10.out (.inr rfl)).mono ?_
        rintro e w11 ⟨rfl, hs11, hg11⟩
        have HG11 := Lib.hid (HG10.out.trans hg11)
        have HS11 := Lib.hid hs11
        have hn11 := sneed_calls gs 1 0 _ [] w11 hs11 (BRow.empty none 0 (Nat.zero_le _))
        rw [if_pos rfl, show fneed [] = 1 from rfl] at hn11
        have HN11 := Lib.hid hn11
        clear hs11 hg11 hn11 HG10 HS10
        go_wp2_with fail
        refine (dead_calls gs 1 0 _ w11 HS11.out).mono ?_
        rintro e w12 ⟨rfl, rfl⟩
        go_wp2_with fail
        refine (frames_calls gs 1 0 _ w11 HS11.out (.inl rfl)).mono ?_
        rintro e w12 ⟨rfl, rfl⟩
        go_wp2_with fail
        refine HN11.out.mono ?_
        rintro e w12 ⟨rfl, hb12⟩
        have HG12 := Lib.hid (HG11.out.trans (grownBy_of_below hb12 (some gs)))
        have HS12 := Lib.hid (HS11.out.below hb12)
        have HR12 := Lib.hid (brow_sat HRA.out HsA.out ⟨_, _, _, rfl⟩ HG12.out)
        have HC12 := Lib.hid (brow_sat HCA.out HsA.out ⟨_, _, _, rfl⟩ HG12.out)
        clear hb12 HG11 HS11 HN11
        go_wp2_with fail
        refine (played_calls gs _ _ J cuts w12 HS12.out HR12.out HC12.out (by omega)).mono ?_
        rintro e w13 ⟨v13, h13, V13, he13, -, -, hr13, hm13, hg13⟩
        rw [HSp.out.1] at hr13 hm13
        rw [HSp.out.2.2.1] at he13
        subst he13
        obtain ⟨a13, c13, rfl⟩ := owns_shape hr13
        have HG13 := Lib.hid (HG12.out.trans hg13)
        have HT13 := Lib.hid (trow_of hr13 hm13 HLB.out)
        have HO13 := Lib.hid (hownW_sat HOA.out HsA.out HG13.out)
        have HB13 := Lib.hid (HBA.out.grown HG13.out HBA.out.size (fun k e => by cases e; exact HGs.out))
        clear hr13 hm13 hg13 HG12 HS12 HR12 HC12
        go_wp2_with fail
        refine (equalM_calls _ _ L L w13 HT13.out HO13.out.trow).mono ?_
        rintro e w14 ⟨rfl, rfl⟩
        rw [show decide (L = L) = true from decide_eq_true rfl]
        go_wp2
        go_ret
        exact ⟨rfl, HB13.out⟩
end Go.Proofs.Yteaeedhhdnkldaa
