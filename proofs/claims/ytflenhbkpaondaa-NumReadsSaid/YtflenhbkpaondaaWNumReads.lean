/-
  THE WALK of fermatalaw01.reads and NumReads: they return true, and write nothing that was there.
-/
import Derived.Test.YtflenhbkpaondaaKept
import Derived.Test.YtflenhbkpaondaaNumRefRead3
import Derived.Test.YtflenhbkpaondaaNumCmp
import Derived.Test.YtflenhbkpaondaaNumSplitB
import Derived.Test.YtflenhbkpaondaaNumLast
import Derived.Test.YtflenhbkpaondaaSame
import Derived.Test.YtflenhbkpaondaaNumReadB
namespace Go.Proofs.Ytflenhbkpaondaa
open Go.RowKit Pl

set_option maxRecDepth 100000 in
set_option maxHeartbeats 2000000 in
theorem reads_calls (a b : Option Addr) (ca cb : Nat) (la lb : List Nat) (k least most : Int) (w : World) (hk1 : -9223372036854775808 ≤ k) (hk2 : k ≤ 9223372036854775807) (ha : BRow w (.slice a la.length ca) la) (hb : BRow w (.slice b lb.length cb) lb) :
    Calls Try.prog 13 #[.slice a la.length ca, .slice b lb.length cb, .int .i64 k, .int .i64 least, .int .i64 most] w fun e w' => e = .returned (.bool true) ∧ Below w.heap.size w w' := by
  by_cases h1 : 500 < la.length
  · have d1 : decide ((500 : Int) < (la.length : Int)) = true := by simp; omega
    clear ha hb
    go_enter Try.func13, Try.ntmps13
    go_wp2
    go_ret
    exact ⟨rfl, Below.refl _ _⟩
  have d1 : decide ((500 : Int) < (la.length : Int)) = false := by simp; omega
  by_cases h2 : 500 < lb.length
  · have d2 : decide ((500 : Int) < (lb.length : Int)) = true := by simp; omega
    clear ha hb
    go_enter Try.func13, Try.ntmps13
    go_wp2
    go_ret
    exact ⟨rfl, Below.refl _ _⟩
  have d2 : decide ((500 : Int) < (lb.length : Int)) = false := by simp; omega
  have HA := Lib.hid ha
  have HB := Lib.hid hb
  have HK := Lib.hid (And.intro hk1 hk2)
  clear ha hb hk1 hk2
  go_enter Try.func13, Try.ntmps13
  go_wp2_with fail
  refine (lentBytes_calls _ la w HA.out (by omega)).mono ?_
  rintro e w1 ⟨g1, rfl, hp, hb1⟩
  have HP1 := Lib.hid hp
  have HW1 := Lib.hid hb1
  clear hp hb1
  go_wp2_with fail
  refine (lentBytes_calls _ lb w1 (HB.out.below HW1.out) (by omega)).mono ?_
  rintro e w2 ⟨g2, rfl, hq, hb2⟩
  have HQ2 := Lib.hid hq
  have HP2 := Lib.hid (HP1.out.below hb2)
  have HW2 := Lib.hid (HW1.out.trans (hb2.mono HW1.out.size))
  clear hq hb2
  have HPF := Lib.hid (HP2.out.front (la.length + 12) (by omega) (by unfold maxLen; omega))
  have HQF := Lib.hid (HQ2.out.front (lb.length + 12) (by omega) (by unfold maxLen; omega))
  clear HP1
  go_wp2_with fail
  refine (read_calls _ la w2 HPF.out k HK.out.1 HK.out.2).mono ?_
  rintro e w' ⟨rfl, rfl⟩
  have HR3 := Lib.hid (refRead_calls _ la w2 (HA.out.below HW2.out) k)
  have HF3 := Lib.hid (fun (W : World) (hW : BRow W (.slice (some ⟨g1, 0, none⟩) la.length (la.length + 12)) la) => int_calls _ la W hW k HK.out.1 HK.out.2 least most)
  have HG3 := Lib.hid (fun (W : World) (hW : BRow W (.slice a la.length ca) la) => refInt_calls _ la W hW k least most)
  clear HK
  generalize rdAt la k = r at HR3 ⊢
  obtain ⟨x, n, er⟩ := r
  generalize intN la k least most = ri at HF3 HG3
  obtain ⟨xi, ni, ei⟩ := ri
  dsimp only at HR3 HF3 HG3 ⊢
  go_wp2_with fail
  refine HR3.out.mono ?_
  rintro e w3 ⟨rfl, hb3⟩
  have HP3 := Lib.hid (HPF.out.below hb3)
  have HQ3 := Lib.hid (HQF.out.below hb3)
  have HPP3 := Lib.hid (HP2.out.below hb3)
  have HQQ3 := Lib.hid (HQ2.out.below hb3)
  have HW3 := Lib.hid (HW2.out.trans (hb3.mono HW2.out.size))
  clear HP2 HQ2 HPF HQF HR3 hb3
  have HL3 := Lib.hid (last_calls _ la w3 HP3.out)
  have HM3 := Lib.hid (refLast_calls _ la w3 (HA.out.below HW3.out))
  generalize lastN la = rl at HL3 HM3
  obtain ⟨xl, nl, el⟩ := rl
  dsimp only at HL3 HM3
  go_wp2_with fail
  refine HL3.out.mono ?_
  rintro e w' ⟨rfl, rfl⟩
  go_wp2_with fail
  refine HM3.out.mono ?_
  rintro e w4 ⟨rfl, hb4⟩
  have HP4 := Lib.hid (HP3.out.below hb4)
  have HQ4 := Lib.hid (HQ3.out.below hb4)
  have HPP4 := Lib.hid (HPP3.out.below hb4)
  have HQQ4 := Lib.hid (HQQ3.out.below hb4)
  have HW4 := Lib.hid (HW3.out.trans (hb4.mono HW3.out.size))
  clear HP3 HQ3 HPP3 HQQ3 HL3 HM3 hb4
  go_wp2_with fail
  refine (HF3.out w4 HP4.out).mono ?_
  rintro e w' ⟨rfl, rfl⟩
  go_wp2_with fail
  refine (HG3.out w4 (HA.out.below HW4.out)).mono ?_
  rintro e w5 ⟨rfl, hb5⟩
  have HP5 := Lib.hid (HP4.out.below hb5)
  have HQ5 := Lib.hid (HQ4.out.below hb5)
  have HPP5 := Lib.hid (HPP4.out.below hb5)
  have HQQ5 := Lib.hid (HQQ4.out.below hb5)
  have HW5 := Lib.hid (HW4.out.trans (hb5.mono HW4.out.size))
  clear HP4 HQ4 HPP4 HQQ4 HF3 HG3 hb5
  have hsl : (sq la).length ≤ 10000000000000 := by have := sq_length la; omega
  have HSR := Lib.hid (splitV_range la HA.out.1)
  have HS5 := Lib.hid (split_calls _ la w5 HP5.out hsl)
  clear hsl
  go_wp2_with fail
  refine HS5.out.mono ?_
  rintro e w6 ⟨v6, rfl, hown6, hb6⟩
  have HN6 := Lib.hid (NRow.of_own (show Own64 w6 w5.heap.size v6 (splitV la) from hown6) HSR.out)
  have HP6 := Lib.hid (HP5.out.below hb6)
  have HQ6 := Lib.hid (HQ5.out.below hb6)
  have HPP6 := Lib.hid (HPP5.out.below hb6)
  have HQQ6 := Lib.hid (HQQ5.out.below hb6)
  have HW6 := Lib.hid (HW5.out.trans (hb6.mono HW5.out.size))
  clear HP5 HQ5 HPP5 HQQ5 HS5 hb6 hown6
  have HT6 := Lib.hid (refSplit_calls _ la w6 (HA.out.below HW6.out) (by omega))
  go_wp2_with fail
  refine HT6.out.mono ?_
  rintro e w7 ⟨v7, rfl, hown7, hb7⟩
  have HM7 := Lib.hid (NRow.of_own hown7 HSR.out)
  have HN7 := Lib.hid (HN6.out.below hb7)
  have HP7 := Lib.hid (HP6.out.below hb7)
  have HQ7 := Lib.hid (HQ6.out.below hb7)
  have HPP7 := Lib.hid (HPP6.out.below hb7)
  have HQQ7 := Lib.hid (HQQ6.out.below hb7)
  have HW7 := Lib.hid (HW6.out.trans (hb7.mono HW6.out.size))
  clear HP6 HQ6 HPP6 HQQ6 HT6 hb7 hown7 HN6
  have HC7 := Lib.hid (compare_calls _ _ la lb w7 HP7.out HQ7.out)
  have HD7 := Lib.hid (refCompare_calls _ _ la lb w7 (HA.out.below HW7.out) (HB.out.below HW7.out))
  generalize compareN la lb = rc at HC7 HD7
  obtain ⟨xc, ec⟩ := rc
  generalize splitE la = es at HC7 HD7 ⊢
  generalize splitV la = vs at HN7 HM7
  dsimp only at HC7 HD7
  go_wp2_with fail
  refine HC7.out.mono ?_
  rintro e w' ⟨rfl, rfl⟩
  go_wp2_with fail
  refine HD7.out.mono ?_
  rintro e w8 ⟨rfl, hb8⟩
  have HM8 := Lib.hid (HM7.out.below hb8)
  have HN8 := Lib.hid (HN7.out.below hb8)
  have HPP8 := Lib.hid (HPP7.out.below hb8)
  have HQQ8 := Lib.hid (HQQ7.out.below hb8)
  have HW8 := Lib.hid (HW7.out.trans (hb8.mono HW7.out.size))
  have HA8 := Lib.hid (HA.out.below HW8.out)
  have HB8 := Lib.hid (HB.out.below HW8.out)
  clear HP7 HQ7 HPP7 HQQ7 HC7 HD7 HM7 HN7 hb8
  have HSN := Lib.hid (sameNums_calls v6 v7 vs vs w8 HN8.out HM8.out)
  have HKA := Lib.hid (fun n => keptBytes_calls _ la g1 (w8.drewN n) (HA8.out.below (below_drewN' ⟨n, rfl⟩)) (by omega) (HPP8.out.below (below_drewN' ⟨n, rfl⟩)))
  have HKB := Lib.hid (fun n => keptBytes_calls _ lb g2 (w8.drewN n) (HB8.out.below (below_drewN' ⟨n, rfl⟩)) (by omega) (HQQ8.out.below (below_drewN' ⟨n, rfl⟩)))
  rw [show decide (vs = vs) = true by simp] at HSN
  go_wp2_with fail
  refine HSN.out.mono ?_
  rintro e w' ⟨rfl, n9, rfl⟩
  go_wp2_with fail
  refine (HKA.out n9).mono ?_
  rintro e w' ⟨rfl, n10, rfl⟩
  rw [drewN_two]
  go_wp2_with fail
  refine (HKB.out (n9 + n10)).mono ?_
  rintro e w' ⟨rfl, n11, rfl⟩
  go_wp2
  go_ret
  exact ⟨rfl, HW8.out.trans ((below_drewN' ⟨_, rfl⟩).mono HW8.out.size)⟩

set_option maxHeartbeats 1000000 in
theorem numReads_walk (a b : Option Addr) (ca cb : Nat) (la lb : List Nat) (k least most : Int) (w : World) (hk1 : -9223372036854775808 ≤ k) (hk2 : k ≤ 9223372036854775807) (ha : BRow w (.slice a la.length ca) la) (hb : BRow w (.slice b lb.length cb) lb) :
    Calls Try.prog 4 #[.slice a la.length ca, .slice b lb.length cb, .int .i64 k, .int .i64 least, .int .i64 most] w fun e w' => e = .returned (.bool true) ∧ Below w.heap.size w w' := by
  have HW := Lib.hid (reads_calls a b ca cb la lb k least most w hk1 hk2 ha hb)
  clear hk1 hk2 ha hb
  go_enter Try.func4, Try.ntmps4
  go_wp2_with fail
  refine HW.out.mono ?_
  rintro e w1 ⟨rfl, hb1⟩
  have HB1 := Lib.hid hb1
  clear hb1
  go_wp2_with fail
  refine (awake_calls w1).mono ?_
  rintro e w2 ⟨rfl, hb2⟩
  have HB2 := Lib.hid hb2
  clear hb2
  go_wp2
  go_ret
  exact ⟨rfl, HB1.out.trans (HB2.out.mono HB1.out.size)⟩
end Go.Proofs.Ytflenhbkpaondaa
