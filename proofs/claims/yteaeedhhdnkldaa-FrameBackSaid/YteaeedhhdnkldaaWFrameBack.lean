/-
  THE WALK of fermatalaw03.FrameBack: it returns true; nothing that was there is written.
-/
import Derived.Test.YteaeedhhdnkldaaLeast03
import Derived.Test.YteaeedhhdnkldaaPlayed2
import Derived.Test.YteaeedhhdnkldaaStep8
import Derived.Test.YteaeedhhdnkldaaWrites01
import Derived.Deep.CutBlock
namespace Go.Proofs.Yteaeedhhdnkldaa
open Go.RowKit Go.Shelf Pl

theorem hown_sat {w w' : World} {base k st fr : Nat} {h v : Value} {L : List (List Nat)} (hr : HOwn w base v L) (s : SAt w k st fr h) (hg : w.grownBy w' (some k)) : HOwn w' base v L := by
  obtain ⟨V, h1, h2⟩ := hr
  refine ⟨V, h1.kept hg ?_, h2.keep hg fun r c t e hh => by cases e; rw [show w.heap[k]? = _ from s] at hh; cases hh; decide⟩
  rcases h1.2 with ⟨rfl, _⟩ | ⟨g, cap, cur, rfl, _, q, _⟩
  · exact .inl rfl
  · refine .inr fun e => ?_
    have e2 : g = k := by simpa [Value.ownBlock] using e
    rw [e2, show w.heap[k]? = _ from s] at q
    simp at q
theorem feed_joined {L : List (List Nat)} (hL : ∀ l ∈ L, l.length ≤ 16384) : feedE (joinF L) = 0 ∧ feedH (joinF L) = [] := by
  obtain ⟨_, h2, h3⟩ := spl_joined L hL
  refine ⟨by unfold feedE; rw [h3]; rfl, ?_⟩
  unfold feedH
  rw [h3, h2, if_neg (by decide), List.drop_length]
/-- What a round of FrameBack finds. -/
def BackCell (w : World) (b off : Nat) (L : List (List Nat)) (A : Nat → Option Addr) (C : Nat → Nat) : Prop := ∀ i, i < L.length → w.cell? ⟨b, off + i, none⟩ = some (.slice (A i) (L.getD i []).length (C i)) ∧ BRow w (.slice (A i) (L.getD i []).length (C i)) (L.getD i [])

set_option maxRecDepth 100000 in
set_option maxHeartbeats 4000000 in
theorem frameBack_walk (sv cv hv : Value) (S : List (Nat × Nat)) (cuts behind : List Nat) (w : World) (hS : SRow w sv S) (hcu : BRow w cv cuts) (hbe : BRow w hv behind) :
    Calls Try.prog 7 #[sv, cv, hv] w fun e w' => e = .returned (.bool true) ∧ Below w.heap.size w w' := by
  have hb64 := hbe.len_le
  obtain ⟨ha, hc, rfl⟩ := hbe.shape
  have HAw := Lib.hid (awake3_calls w)
  have HMd := Lib.hid (fun W (hb : Below w.heap.size w W) => made3_calls sv S W (hS.below hb))
  have HCu := Lib.hid hcu
  have HBe := Lib.hid hbe
  have hL30 := madeS_length S
  have HL599 := Lib.hid (madeS_len S)
  have HLB := Lib.hid (madeS_allB hS)
  generalize madeS S = L at *
  clear hS hcu hbe
  go_enter Try.func7, Try.ntmps7
  go_wp2_with fail
  refine HAw.out.mono ?_
  rintro e w1 ⟨rfl, hb1⟩
  have HB1 := Lib.hid hb1
  clear hb1 HAw
  go_wp2_with fail
  refine (HMd.out _ HB1.out).mono ?_
  rintro e w2 ⟨v2, rfl, ho2, hb2⟩
  have HB2 := Lib.hid (HB1.out.trans (hb2.mono HB1.out.size))
  obtain ⟨a2, c2, rfl⟩ : ∃ a c, v2 = .slice a L.length c := by obtain ⟨V, hV, _⟩ := ho2; exact owns_shape hV
  have HO2 := Lib.hid ho2
  clear ho2 hb2 HMd
  have hjle : ∀ k, (joinF (L.take k)).length ≤ 100000000 := fun k => by
    have h1 := joinF_le (L := L.take k) (c := 599) (fun l hl => HL599.out l (List.mem_of_mem_take hl))
    have h2 : (L.take k).length ≤ 30 := by rw [List.length_take]; omega
    have := Nat.mul_le_mul_right 608 h2
    omega
  have hj := join_calls _ L w2 HO2.out.trow (by omega) hjle
  rw [joinV_ok (fun l hl => by have := HL599.out l hl; omega)] at hj
  have HJ := Lib.hid hj
  clear hj hjle
  go_wp2_with fail
  refine HJ.out.mono ?_
  rintro e w3 ⟨v3, rfl, ho3, hb3⟩
  have hjb := joinF_AllB HLB.out
  have hjl := joinF_le (L := L) (c := 599) HL599.out
  have hjl2 : (joinF L).length ≤ 20000 := by have := Nat.mul_le_mul_right 608 hL30; omega
  obtain ⟨s1, s2, s3⟩ := spl_joined L (fun l hl => by have := HL599.out l hl; omega)
  obtain ⟨f1, f2⟩ := feed_joined (L := L) (fun l hl => by have := HL599.out l hl; omega)
  have hr3 := BRow.of_own ho3 hjb
  obtain ⟨a3, c3, rfl⟩ := hr3.shape
  have HB3 := Lib.hid (HB2.out.trans (hb3.mono HB2.out.size))
  have HO3 := Lib.hid (HO2.out.below hb3)
  have HR3 := Lib.hid hr3
  have HSp := Lib.hid (And.intro s1 (And.intro s2 (And.intro s3 (And.intro f1 f2))))
  clear ho3 hb3 hjb hjl s1 s2 s3 f1 f2 hr3 HO2 HJ
  generalize joinF L = J at *
  have hsp := split3_calls _ J w3 HR3.out (by omega)
  rw [HSp.out.1, HSp.out.2.1, HSp.out.2.2.1] at hsp
  have HSplit := Lib.hid hsp
  clear hsp
  go_wp2_with fail
  refine HSplit.out.mono ?_
  rintro e w4 ⟨v4, rfl, hm4, hb4⟩
  obtain ⟨a4, c4, rfl⟩ := hm4.shape
  have HT4 := Lib.hid (hm4.trow HLB.out)
  have HB4 := Lib.hid (HB3.out.trans (hb4.mono HB3.out.size))
  have HO4 := Lib.hid (HO3.out.below hb4)
  have HR4 := Lib.hid (HR3.out.below hb4)
  clear hm4 hb4 HSplit HO3 HR3
  go_wp2_with fail
  refine (new_calls w4).mono ?_
  rintro e w5 ⟨rfl, hs5, hb5, -⟩
  have hgs : w.heap.size ≤ w4.heap.size := HB4.out.size
  have HB5 := Lib.hid (HB4.out.trans (hb5.mono hgs))
  have HGs := Lib.hid hgs
  have HS5 := Lib.hid hs5
  have HO5 := Lib.hid (HO4.out.below hb5)
  have HR5 := Lib.hid (HR4.out.below hb5)
  have HT5 := Lib.hid (HT4.out.below hb5)
  clear hs5 hb5 hgs HO4 HR4 HT4 HB4
  generalize w4.heap.size = gs at *
  go_wp2_with fail
  refine (equalM_b _ _ L L w5 HT5.out HO5.out.trow true (decide_eq_true rfl)).mono ?_
  rintro e w6 ⟨rfl, hb6⟩
  have HB6 := Lib.hid (HB5.out.trans (hb6.mono HB5.out.size))
  have HS6 := Lib.hid (HS5.out.below hb6)
  have HO6 := Lib.hid (HO5.out.below hb6)
  have HR6 := Lib.hid (HR5.out.below hb6)
  have HCu6 := Lib.hid (HCu.out.below HB6.out)
  clear hb6 HB5 HS5 HO5 HR5 HT5 HCu
  go_wp2_with fail
  refine (played_calls gs _ _ J cuts w6 HS6.out HR6.out HCu6.out (by omega)).mono ?_
  rintro e w7 ⟨v7, h7, V7, he7, hs7, ho7, hr7, hm7, hg7⟩
  rw [HSp.out.1, HSp.out.2.2.1] at hs7
  rw [HSp.out.1] at hr7 hm7
  rw [HSp.out.2.2.2.1] at he7
  rw [HSp.out.2.2.2.2] at ho7
  subst he7
  have HB7 := Lib.hid (HB6.out.grown hg7 HB6.out.size (fun k e => by cases e; exact HGs.out))
  have HO7 := Lib.hid (hown_sat HO6.out HS6.out hg7)
  have HT7 := Lib.hid (trow_of hr7 hm7 HLB.out)
  obtain ⟨a7, c7, rfl⟩ := owns_shape hr7
  obtain ⟨b7, d7, rfl⟩ := owns_shape ho7
  rw [if_neg (by decide)] at hs7
  have HS7 := Lib.hid hs7
  have hn7 := sneed_calls gs 1 L.length _ [] w7 hs7 (BRow.of_own ho7 AllB.nil)
  rw [if_pos rfl, show fneed [] = 1 from rfl] at hn7
  have HN7 := Lib.hid hn7
  clear hs7 ho7 hr7 hm7 hg7 hn7 HB6 HS6 HO6 HR6 HCu6 HSp HGs
  go_wp2_with fail
  refine (equalM_calls _ _ L L w7 HT7.out HO7.out.trow).mono ?_
  rintro e w8 ⟨rfl, rfl⟩
  have hdt : decide (L = L) = true := decide_eq_true rfl
  rw [hdt]
  clear hdt
  go_wp2_with fail
  refine (held_calls gs 1 L.length _ b7 _ d7 w7 HS7.out rfl (.inl rfl)).mono ?_
  rintro e w8 ⟨rfl, rfl⟩
  go_wp2_with fail
  refine HN7.out.mono ?_
  rintro e w8 ⟨rfl, hb8⟩
  have HB8 := Lib.hid (HB7.out.trans (hb8.mono HB7.out.size))
  have HS8 := Lib.hid (HS7.out.below hb8)
  have HO8 := Lib.hid (HO7.out.below hb8)
  clear hb8 HN7 HB7 HS7 HO7 HT7
  go_wp2_with fail
  refine (frames_calls gs 1 L.length _ w8 HS8.out (.inl rfl)).mono ?_
  rintro e w9 ⟨rfl, rfl⟩
  go_wp2_with fail
  refine (dead_calls gs 1 L.length _ w8 HS8.out).mono ?_
  rintro e w9 ⟨rfl, rfl⟩
  go_wp2_with fail
  have HBe8 := Lib.hid (HBe.out.below HB8.out)
  have ht8 := HO8.out.trow
  clear HBe HS8 HO8
  obtain ⟨a, c, e, e2, _⟩ | ⟨b, off, cap, A, C, e, hk1, hk2, hcell⟩ := ht8
  · subst e2
    clear HL599 HLB hL30 hjl2
    go_loopw [103] (fun i wr => i = .int .i64 0 ∧ wr = w8) (fun i _ => 0)
    case atStart => exact ⟨rfl, rfl⟩
    case round =>
      obtain ⟨rfl, rfl⟩ := hrel
      go_wp2
      go_ret
      exact ⟨rfl, HB8.out⟩
  · simp only [Value.slice.injEq, true_and] at e
    obtain ⟨rfl, rfl⟩ := e
    have HC := Lib.hid (show BackCell w8 b off L A C from hcell)
    obtain ⟨K2, hK2a, hK2b, hmin1, hmin2⟩ : ∃ K2 : Nat, K2 ≤ behind.length ∧ K2 ≤ 50 ∧ (if (50 : Int) < (behind.length : Int) then (50 : Int) else (behind.length : Int)) = (K2 : Int) ∧ min (behind.length : Int) 50 = (K2 : Int) := by
      by_cases h : (50 : Int) < (behind.length : Int)
      · exact ⟨50, by omega, by omega, by rw [if_pos h]; rfl, by omega⟩
      · exact ⟨behind.length, by omega, by omega, by rw [if_neg h], by omega⟩
    have hmc : behind.length ≤ hc := by
      obtain ⟨_, ⟨_, _, _, h, _⟩ | ⟨_, _, _, e, h, _⟩⟩ := HBe8.out
      · rw [h]; exact Nat.zero_le _
      · cases e; exact h
    have hmi : (K2 : Int) ≤ (hc : Int) := by omega
    have HBh := Lib.hid (HBe8.out.headW K2 hK2a)
    have hbl : (behind.take K2).length ≤ 50 := by rw [List.length_take]; omega
    have HBl := Lib.hid hbl
    generalize behind.take K2 = R at *
    clear hcell hmc HBe8 hbl hk1 hk2
    go_loopw [103] (fun i wr => ∃ k : Nat, k ≤ L.length ∧ i = .int .i64 k ∧ Below w8.heap.size w8 wr) (fun i _ => L.length - (intOf i).toNat)
    case atStart => exact ⟨0, Nat.zero_le _, rfl, Below.refl _ _⟩
    case round =>
      obtain ⟨k, hk, rfl, hbel⟩ := hrel
      have HX := Lib.hid hbel
      by_cases hlt : k < L.length
      · obtain ⟨d1, r1⟩ := HC.out k hlt
        have d1' := (hbel.cell (p := ⟨b, off + k, none⟩) (block_lt_of_cell d1)).trans d1
        have hmem : L.getD k [] ∈ L := by rw [List.getD_eq_getElem?_getD, List.getElem?_eq_getElem hlt]; exact List.getElem_mem hlt
        have hml := HL599.out _ hmem
        have hmb := HLB.out _ hmem
        generalize L.getD k [] = m at *
        generalize A k = Ak at *
        generalize C k = Ck at *
        have r1' := r1.below hbel
        have HM := Lib.hid r1
        have HW := Lib.hid (writeB_calls (.slice Ak m.length Ck) m wr r1')
        rw [if_neg (by omega), if_neg (by omega)] at HW
        have HMb := Lib.hid hmb
        clear d1 r1 r1' hbel hmem hmb
        go_wp2_with fail
        refine HW.out.mono ?_
        rintro e w9 ⟨v9, rfl, ho9, hb9⟩
        have hfb := fr1_AllB HMb.out
        have hr9 := BRow.of_own ho9 hfb
        obtain ⟨a9, c9, rfl⟩ := hr9.shape
        have hfl := fr1_length m
        have hff := form_length m.length
        have hfn : (fr1 m).length ≤ 700 := by omega
        obtain ⟨q1, q2, q3⟩ := fr_read m R (by omega)
        have HQ := Lib.hid (And.intro q1 (And.intro q2 q3))
        have HFl := Lib.hid hfl
        have HFb := Lib.hid hfb
        have HX9 := Lib.hid (HX.out.trans (hb9.mono HX.out.size))
        have HR9 := Lib.hid hr9
        clear ho9 hb9 hr9 hff hfl hfb q1 q2 q3 HW HX
        generalize fr1 m = F at *
        obtain ⟨n, hn⟩ : ∃ n, F.length = n := ⟨_, rfl⟩
        have HNn := Lib.hid hn
        rw [hn] at hfn
        rw [hn] at HQ HFl HR9
        rw [hn]
        clear hn
        go_upto_region 16 with fail
        have HBh9 := Lib.hid (HBh.out.below HX9.out)
        have HD9 := Lib.hid (show Below w9.heap.size w9 w9.drew from ⟨rfl, rfl, rfl, Nat.le_refl _, fun _ _ => rfl⟩)
        have HC9 := Lib.hid (fun W (hb : Below w9.heap.size w9 W) => sclone_calls (.slice a9 n c9) F W (HR9.out.below hb) (by have := HNn.out; omega))
        have HLn := Lib.hid (show F.length + R.length ≤ 140737488355328 by rw [HNn.out]; have := HBl.out; omega)
        go_cut [21, 22, 23] (fun x y z wx => (∃ a c, x = .slice a m.length c ∧ BRow wx (.slice a m.length c) m) ∧ y = .int .i64 n ∧ z = .int .i64 0 ∧ Below w9.heap.size w9 wx)
        case first =>
          go_region_law (first
            | (go_simp; go_at_call 26; (refine (HC9.out _ HD9.out).mono ?_; rintro e wC ⟨vC, rfl, hoC, hbC⟩; obtain ⟨aC, cC, rfl⟩ := owns_shape hoC; have HBc := Lib.hid (HD9.out.trans (hbC.mono HD9.out.size)); have HOc := Lib.hid (own_base hoC HD9.out.size); clear hoC hbC))
            | (refine step_append8 rfl (.tmp 114) (.tmp 119) (by rfl) w9.heap.size _ F (by first | (simp [Act.eval, Act.put]; done) | rfl) HOc.out _ R (by first | (simp [Act.eval, Act.put]; done) | rfl) (HBh9.out.below HBc.out) HLn.out HBc.out.size ?_; intro vA wA hoA hgA; have HBA := Lib.hid (HBc.out.grown hgA HBc.out.size (fun j hj => (HOc.out.lt j hj).1)); have HOA := Lib.hid (BRow.of_own hoA (HFb.out.append HBh9.out.1)); clear hoA hgA)
            | (go_simp; go_at_call 41; (refine (readB_calls _ _ _ HOA.out).mono ?_; rintro e wR ⟨vR, rfl, hoR, hbR⟩; rw [HQ.out.2.2] at hoR; have HRR := Lib.hid (BRow.of_own hoR HMb.out); have HBR := Lib.hid (HBA.out.trans (hbR.mono HBA.out.size)); obtain ⟨aR, cR, rfl⟩ := owns_shape hoR; clear hoR hbR; rw [HQ.out.1, HQ.out.2.1]))
            | fail)
          all_goals
            go_wp2_with fail
            go_meet
            exact ⟨⟨_, _, rfl, HRR.out⟩, rfl, rfl, HBR.out⟩
        case rest =>
          obtain ⟨⟨aR, cR, rfl, hrR⟩, rfl, rfl, hbR⟩ := hcut
          have HXR := Lib.hid (HX9.out.trans (hbR.mono HX9.out.size))
          have hE := bytesEqual_calls (.slice aR m.length cR) (.slice Ak m.length Ck) m m wc hrR (HM.out.below HXR.out)
          rw [decide_eq_true (show m = m from rfl)] at hE
          have HE := Lib.hid hE
          have hsz := size_calls m.length wc (by omega)
          obtain ⟨fl, hfl⟩ : ∃ fl, (form m.length).length = fl := ⟨_, rfl⟩
          have hfl9 : fl ≤ 9 := by rw [← hfl]; exact (form_length _).2
          rw [hfl] at hsz HFl
          have HSz := Lib.hid hsz
          have hw0 : IntKind.u64.wrap (m.length : Int) = (m.length : Int) := IntWalk.u64_in _ (by omega)
          have hsum : ((n : Int) != (m.length : Int) + (fl : Int)) = false := by
            rw [bne_eq_false_iff_eq]; have := HFl.out; omega
          clear hsz hfl hrR hbR hE hmin1 hmin2 hmi
          go_wp2_with fail
          refine HE.out.mono ?_
          rintro e wE ⟨rfl, rfl⟩
          go_wp2_with fail
          refine HSz.out.mono ?_
          rintro e wZ ⟨rfl, hbZ⟩
          have HXZ := Lib.hid (HXR.out.trans (hbZ.mono HXR.out.size))
          clear hbZ
          go_wp2_with fail
          go_roundw
          case rel =>
            have hfin : ∃ k' : Nat, k' ≤ L.length ∧ Value.int .i64 ((k : Int) + 1) = .int .i64 k' ∧ Below w8.heap.size w8 wZ := ⟨k + 1, by omega, by go_num, HXZ.out⟩
            first | exact hfin | ((repeat apply Exists.intro); exact ⟨hfin, rfl⟩)
          case measure => simp [intOf]; omega
      · obtain rfl : k = L.length := by omega
        go_wp2
        go_ret
        exact ⟨rfl, HB8.out.trans (HX.out.mono HB8.out.size)⟩
end Go.Proofs.Yteaeedhhdnkldaa
