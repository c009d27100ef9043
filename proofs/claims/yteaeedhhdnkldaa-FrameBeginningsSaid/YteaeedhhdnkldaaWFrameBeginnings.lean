/-
  THE WALK of fermatalaw03.FrameBeginnings: it returns true; nothing that was there is written.
-/
import Derived.Test.YteaeedhhdnkldaaLeast03
import Derived.Test.YteaeedhhdnkldaaAwake03
import Derived.Test.YteaeedhhdnkldaaStep8
import Derived.Test.YteaeedhhdnkldaaWrites01
import Derived.Deep.CutBlock
namespace Go.Proofs.Yteaeedhhdnkldaa
open Go.RowKit Go.Shelf Pl

theorem madeS_one (s d : Nat) : madeS [(s, d)] = [List.replicate (s % 600) d] := by simp [madeS, madeB, sz, sb, List.range_succ]
theorem srow_one (W : World) (s d : Nat) (hs : s < 65536) (hd : d < 256) (t : TypeId) : SRow (W.alloc (.cells #[.int .u16 s, .int .u8 d] t)) (.slice (some ⟨W.heap.size, 0, none⟩) 1 1) [(s, d)] := by
  refine ⟨fun p hp => by rw [List.mem_singleton.1 hp]; exact ⟨hs, hd⟩, .inr ⟨W.heap.size, 0, 1, rfl, Nat.le_refl _, by unfold maxLen; omega, fun i hi => ?_⟩⟩
  have hi0 : i = 0 := by simp at hi; omega
  subst hi0
  refine ⟨?_, ?_⟩
  · rw [cell_of_row _ _ _ _ _ (0, 0) (heap_alloc_new W _)]; rfl
  · rw [cell_of_row _ _ _ _ _ (0, 0) (heap_alloc_new W _)]; rfl

set_option maxRecDepth 100000 in
set_option maxHeartbeats 4000000 in
theorem frameBeg_walk (s d c : Nat) (mv : Value) (more : List Nat) (w : World) (hs : s < 65536) (hd : d < 256) (hc : c < 65536) (hm : BRow w mv more) :
    Calls Try.prog 8 #[.agg #[.int .u16 s, .int .u8 d], .int .u16 c, mv] w fun e w' => e = .returned (.bool true) ∧ Below w.heap.size w w' := by
  have hm64 := hm.len_le
  obtain ⟨ma, mc, rfl⟩ := hm.shape
  have hba : Below w.heap.size w (w.alloc (.cells #[.int .u16 s, .int .u8 d] 71)) := (Below.refl _ w).alloc (Nat.le_refl _) _
  have HAw := Lib.hid (awake3_calls (w.alloc (.cells #[.int .u16 s, .int .u8 d] 71)))
  have HBa := Lib.hid hba
  have HMo := Lib.hid hm
  have HNew := Lib.hid (heap_alloc_new w (.cells #[.int .u16 s, .int .u8 d] 71))
  have HSz := Lib.hid (World.size_alloc w (.cells #[.int .u16 s, .int .u8 d] 71))
  clear hba hm
  go_enter Try.func8, Try.ntmps8
  go_wp2_with fail
  refine HAw.out.mono ?_
  rintro e w1 ⟨rfl, hb1⟩
  have hn1 := (hb1.block w.heap.size (by rw [HSz.out]; omega)).trans HNew.out
  have c0 : w1.cell? ⟨w.heap.size, 0, none⟩ = some (.int .u16 s) := by rw [cell_of_row _ _ _ _ _ (0, 0) hn1]; rfl
  have c1 : w1.cell? ⟨w.heap.size, 1, none⟩ = some (.int .u8 d) := by rw [cell_of_row _ _ _ _ _ (0, 0) hn1]; rfl
  have HB1 := Lib.hid (HBa.out.trans (hb1.mono HBa.out.size))
  have HMd := Lib.hid (made3_calls (.slice (some ⟨w1.heap.size, 0, none⟩) 1 1) [(s, d)] (w1.alloc (.cells #[.int .u16 s, .int .u8 d] 71)) (srow_one w1 s d hs hd _))
  have HB2 := Lib.hid (HB1.out.alloc HB1.out.size (.cells #[.int .u16 s, .int .u8 d] 71))
  clear hb1 hn1 HAw HBa HNew HSz
  go_wp2_with fail
  refine HMd.out.mono ?_
  rintro e w2 ⟨v2, rfl, ho2, hb2⟩
  rw [madeS_one] at ho2
  have hB : AllB (List.replicate (s % 600) d) := fun x hx => by rw [List.eq_of_mem_replicate hx]; exact hd
  have hBl : (List.replicate (s % 600) d).length ≤ 599 := by rw [List.length_replicate]; omega
  generalize List.replicate (s % 600) d = B at *
  have ht2 := ho2.trow
  obtain ⟨_, _, _, e2, _⟩ | ⟨b2, o2, k2, A2, C2, rfl, hk2, hkm, hcell2⟩ := ht2
  · simp at e2
  obtain ⟨d2, r2⟩ := hcell2 0 (by simp)
  simp only [Nat.add_zero, List.getD_cons_zero] at d2 r2
  have HB3 := Lib.hid (HB2.out.trans (hb2.mono HB2.out.size))
  generalize A2 0 = A at *
  generalize C2 0 = C at *
  have HRB := Lib.hid r2
  clear hb2 ho2 hcell2 r2 HMd HB2 hkm hk2 c0 c1 hs
  have HW := Lib.hid (writeB_calls (.slice A B.length C) B w2 HRB.out)
  rw [if_neg (by omega), if_neg (by omega)] at HW
  go_wp2_with fail
  refine HW.out.mono ?_
  rintro e w3 ⟨v3, rfl, ho3, hb3⟩
  have hfl : (fr1 B).length = (form B.length).length + B.length := fr1_length B
  have hff := form_length B.length
  have hfb : AllB (fr1 B) := fr1_AllB hB
  have hr3 := BRow.of_own ho3 hfb
  obtain ⟨a3, c3, rfl⟩ := hr3.shape
  have hcap3 : (fr1 B).length ≤ c3 := own8_le ho3
  have hbeg := bnd_begin B (by omega)
  have HB4 := Lib.hid (HB3.out.trans (hb3.mono HB3.out.size))
  have HR3 := Lib.hid hr3
  have hn : (fr1 B).length ≤ 700 ∧ B.length < (fr1 B).length := by omega
  obtain ⟨hn1, hn2⟩ := hn
  have HBeg := Lib.hid hbeg
  have HFb := Lib.hid hfb
  clear hb3 ho3 hr3 hbeg hfl hff hfb HB3 HW HRB hB
  generalize fr1 B = F at *
  obtain ⟨n, hnn⟩ : ∃ n, F.length = n := ⟨_, rfl⟩
  rw [hnn] at hcap3 hn1 hn2 HBeg HR3
  have HN := Lib.hid hnn
  clear hnn
  have hlt : decide (n ≤ B.length) = false := decide_eq_false (by omega)
  obtain ⟨k, hk⟩ : ∃ k, c % n = k := ⟨_, rfl⟩
  have hkn : k < n := by rw [← hk]; exact Nat.mod_lt _ (by omega)
  have hki : (c : Int) % (n : Int) = (k : Int) := by rw [← hk]; rfl
  have hn0 : (0 : Int) < (n : Int) := by omega
  have hc0 : (0 : Int) ≤ (c : Int) := by omega
  clear hk
  rw [HN.out]
  have hP3 : BRow w3 (.slice a3 k c3) (F.take k) := HR3.out.headW k (by rw [HN.out]; omega)
  obtain ⟨f, t, hbd, hkt, htn⟩ := HBeg.out k hkn
  have hPl : (F.take k).length = k := by rw [List.length_take, HN.out]; omega
  clear HBeg
  generalize F.take k = P at *
  have e1 : fsize P = 0 := by unfold fsize; rw [hbd]; exact if_pos (by omega)
  have e2 : ferr P = 30 := by unfold ferr; rw [hbd]; exact if_pos (by omega)
  have e3 : fneed P = t - k := by unfold fneed; rw [hbd, ← hPl]
  have e4 : fneedE P = 0 := by unfold fneedE; rw [hbd]
  have HBd := Lib.hid hbd
  obtain ⟨q, hq⟩ : ∃ q, t - k = q := ⟨_, rfl⟩
  have htq : t = k + q := by omega
  have hq1 : 1 ≤ q := by omega
  have hqn : k + q ≤ n := by omega
  subst htq
  rw [hq] at e3
  have hr1 := readB_calls (.slice a3 k c3) P w3 hP3
  rw [e1, e2] at hr1
  have hr2 := fun W (hb : Below w3.heap.size w3 W) => need_calls (.slice a3 k c3) P W (hP3.below hb)
  rw [e3, e4] at hr2
  have HR1 := Lib.hid hr1
  have HR2 := Lib.hid hr2
  have HP3 := Lib.hid hP3
  have HPl := Lib.hid hPl
  clear hr1 hr2 hP3 hPl e1 e2 e3 e4 hbd hkt htn hq HR3
  have hki0 : (k : Int) ≤ (c3 : Int) := by omega
  have hkn0 : (k : Int) ≤ (n : Int) := by omega
  go_wp2_with fail
  refine HR1.out.mono ?_
  rintro e w4 ⟨v4, rfl, -, hb4⟩
  have HX4 := Lib.hid hb4
  clear hb4 HR1
  go_wp2_with fail
  refine (HR2.out _ HX4.out).mono ?_
  rintro e w5 ⟨rfl, hb5⟩
  have HX5 := Lib.hid (HX4.out.trans (hb5.mono HX4.out.size))
  clear hb5 HR2 HX4
  have hd1 : ¬ (q : Int) < 1 := by omega
  have hd2 : ¬ ((n : Int) - (k : Int) < (q : Int)) := by omega
  obtain ⟨K2, hK2a, hK2b, hmin1, hmin2⟩ : ∃ K2 : Nat, K2 ≤ more.length ∧ K2 < q ∧ (if (q : Int) - 1 < (more.length : Int) then (q : Int) - 1 else (more.length : Int)) = (K2 : Int) ∧ min (more.length : Int) ((q : Int) - 1) = (K2 : Int) := by
    by_cases h : (q : Int) - 1 < (more.length : Int)
    · exact ⟨q - 1, by omega, by omega, by rw [if_pos h]; omega, by omega⟩
    · exact ⟨more.length, by omega, by omega, by rw [if_neg h], by omega⟩
  have hmc : more.length ≤ mc := by
    obtain ⟨_, ⟨_, _, e, h, _⟩ | ⟨_, _, _, e, h, _⟩⟩ := HMo.out
    · rw [h]; exact Nat.zero_le _
    · cases e; exact h
  have hmi : (K2 : Int) ≤ (mc : Int) := by omega
  have hq0 : (1 : Int) ≤ (q : Int) := by omega
  go_upto_region 12 with fail
  have HB5 := Lib.hid (HB4.out.trans (HX5.out.mono HB4.out.size))
  have HP5 := Lib.hid (HP3.out.below HX5.out)
  have HM5 := Lib.hid ((HMo.out.below HB5.out).headW K2 hK2a)
  have HD5 := Lib.hid (show Below w5.heap.size w5 w5.drew from ⟨rfl, rfl, rfl, Nat.le_refl _, fun _ _ => rfl⟩)
  have HCl := Lib.hid (fun W (hb : Below w5.heap.size w5 W) => sclone_calls (.slice a3 k c3) P W (HP5.out.below hb) (by have := HPl.out; omega))
  have hll : (P ++ more.take K2).length ≤ 140737488355328 ∧ P.length + (more.take K2).length < k + q := by
    rw [List.length_append, List.length_take]; have := HPl.out; omega
  have HLl := Lib.hid hll
  clear HP3 HMo HX5 hll
  go_cut [16] (fun x wx => Own8 wx w5.heap.size x (P ++ more.take K2) ∧ Below w5.heap.size w5 wx)
  case first =>
    have hwq : IntKind.i64.wrap ((q : Int) - 1) = (q : Int) - 1 := IntWalk.i64_in _ (by omega)
    go_region_law (first
      | (go_simp; go_at_call 26; (refine (HCl.out _ HD5.out).mono ?_; rintro e w6 ⟨v6, rfl, ho6, hb6⟩; obtain ⟨a6, c6, rfl⟩ := owns_shape ho6; have HO6 := Lib.hid (own_base ho6 HD5.out.size); have HB6 := Lib.hid (HD5.out.trans (hb6.mono HD5.out.size)); clear ho6 hb6))
      | (refine step_append8 rfl (.tmp 84) (.tmp 91) (by rfl) w5.heap.size _ P (by first | (simp [Act.eval, Act.put]; done) | rfl) HO6.out _ (more.take K2) (by first | (simp [Act.eval, Act.put]; done) | rfl) (HM5.out.below HB6.out) (by have := HLl.out.1; rwa [List.length_append] at this) HB6.out.size ?_; intro v7 w7 ho7 hg7; have HO7 := Lib.hid ho7; have HB7 := Lib.hid (HB6.out.grown hg7 HB6.out.size (fun j hj => (HO6.out.lt j hj).1)); clear ho7 hg7)
      | fail)
    all_goals
      go_wp2_with fail
      go_meet
      exact ⟨HO7.out, HB7.out⟩
  case rest =>
    obtain ⟨ho8, hb8⟩ := hcut
    have hPb := HP5.out.1
    have hrow8 := BRow.of_own ho8 (hPb.append HM5.out.1)
    have hne := ferr_less HBd.out (q := more.take K2) HLl.out.2
    have hr3 := readB_calls _ (P ++ more.take K2) wc hrow8
    obtain ⟨fe, hfe⟩ : ∃ fe, ferr (P ++ more.take K2) = fe := ⟨_, rfl⟩
    rw [hfe] at hr3 hne
    have hfe0 : ((fe : Int) == 0) = false := by rw [beq_eq_false_iff_ne]; omega
    have HR3 := Lib.hid hr3
    have HB8 := Lib.hid hb8
    obtain ⟨l1, l2⟩ := ferr_least HBd.out (by rw [HPl.out]; omega)
    rw [HPl.out, show k + q - k = q by omega] at l1 l2
    have HL1 := Lib.hid (And.intro l1 l2)
    clear ho8 hb8 hrow8 hne hr3 hfe HLl HM5 HBd l1 l2 hPb hmin1 hmin2 hmi hd1 hd2 hq0
    go_wp2_with fail
    refine HR3.out.mono ?_
    rintro e w9 ⟨v9, rfl, -, hb9⟩
    have HB9 := Lib.hid (HB8.out.trans (hb9.mono HB8.out.size))
    clear hb9 HR3 HB8
    go_upto_region 16 with fail
    have HP9 := Lib.hid (HP5.out.below HB9.out)
    have HBw := Lib.hid (HB5.out.trans (HB9.out.mono HB5.out.size))
    have HD9 := Lib.hid (show Below w9.heap.size w9 w9.drew from ⟨rfl, rfl, rfl, Nat.le_refl _, fun _ _ => rfl⟩)
    have HC9 := Lib.hid (fun W (hb : Below w9.heap.size w9 W) => sclone_calls (.slice a3 k c3) P W (HP9.out.below hb) (by have := HPl.out; omega))
    have HL9 := Lib.hid (fun W (hb : Below w9.heap.size w9 W) => least_calls (.slice a3 k c3) P q W (HP9.out.below hb) hq1 (by omega))
    have hlb : AllB (leastL P q) := by
      unfold leastL
      have hz : ∀ m, AllB (List.replicate m 0) := fun m x hx => by rw [List.eq_of_mem_replicate hx]; decide
      split
      · exact AllB.cons (by decide) (hz _)
      · split
        · exact AllB.cons (by decide) (hz _)
        · exact hz _
    have HLb := Lib.hid hlb
    have HLn := Lib.hid (show P.length + (leastL P q).length ≤ 140737488355328 by rw [leastL_length _ _ hq1, HPl.out]; omega)
    clear HB5 HB9 HP5 HCl HD5 hlb
    go_cut [9, 21] (fun x y wx => x = .int .i64 0 ∧ y = .int .i64 ((k : Int) + (q : Int)) ∧ Below w9.heap.size w9 wx)
    case first =>
      go_region_law (first
        | (go_simp; go_at_call 26; (refine (HC9.out _ (by first | exact HD9.out | exact HBl.out)).mono ?_; rintro e wC ⟨vC, rfl, hoC, hbC⟩; obtain ⟨aC, cC, rfl⟩ := owns_shape hoC; have HBc := Lib.hid (by first | exact HD9.out.trans (hbC.mono HD9.out.size) | exact HBl.out.trans (hbC.mono HBl.out.size) : Below w9.heap.size w9 wC); have HOc := Lib.hid (own_base hoC (by first | exact HD9.out.size | exact HBl.out.size)); have HBc2 := Lib.hid hbC; clear hoC hbC))
        | (go_simp; go_at_call 44; (refine (HL9.out _ (by first | exact HD9.out | exact HBc.out)).mono ?_; rintro e wL ⟨vL, rfl, hoL, hbL⟩; obtain ⟨aL, cL, rfl⟩ := owns_shape hoL; have HBl := Lib.hid (by first | exact HD9.out.trans (hbL.mono HD9.out.size) | exact HBc.out.trans (hbL.mono HBc.out.size) : Below w9.heap.size w9 wL); have HOl := Lib.hid (BRow.of_own hoL HLb.out); have HBl2 := Lib.hid hbL; clear hoL hbL))
        | (refine step_append8 rfl (.tmp 105) (.tmp 110) (by rfl) w9.heap.size _ P (by first | (simp [Act.eval]; done) | rfl) (by first | exact HOc.out | exact ownsRow_below HOc.out HBl2.out) _ (leastL P q) (by first | (simp [Act.eval]; done) | rfl) (by first | exact HOl.out | exact HOl.out.below HBc2.out) HLn.out (by first | exact HBl.out.size | exact HBc.out.size) ?_; intro vA wA hoA hgA; have HBA := Lib.hid (by first | exact HBl.out.grown hgA HBl.out.size (fun j hj => (HOc.out.lt j hj).1) | exact HBc.out.grown hgA HBc.out.size (fun j hj => (HOc.out.lt j hj).1) : Below w9.heap.size w9 wA); have HOA := Lib.hid (BRow.of_own hoA (HP9.out.1.append HLb.out)); clear hoA hgA)
        | (go_simp; go_at_call 41; (refine (readB_calls _ _ _ HOA.out).mono ?_; rintro e wR ⟨vR, rfl, -, hbR⟩; have HBR := Lib.hid (HBA.out.trans (hbR.mono HBA.out.size)); clear hbR; rw [HL1.out.1, HL1.out.2]))
        | fail)
      all_goals
        go_wp2_with fail
        go_meet
        exact ⟨rfl, by first | rfl | go_num, HBR.out⟩
    case rest =>
      obtain ⟨rfl, rfl, hbz⟩ := hcut
      have HBz := Lib.hid (HBw.out.trans (hbz.mono HBw.out.size))
      clear hbz
      go_wp2
      go_ret
      exact ⟨rfl, HBz.out⟩
end Go.Proofs.Yteaeedhhdnkldaa
