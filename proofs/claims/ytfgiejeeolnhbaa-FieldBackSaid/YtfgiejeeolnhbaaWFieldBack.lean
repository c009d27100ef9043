/-
  THE WALK of fermatalaw02.FieldBack: it returns true, and writes nothing that was there.
-/
import Derived.Test.YtfgiejeeolnhbaaRec02
import Derived.Test.YtfgiejeeolnhbaaAwake02
namespace Go.Proofs.Ytfgiejeeolnhbaa
open Go.RowKit Pl

set_option maxRecDepth 100000 in
set_option maxHeartbeats 4000000 in
theorem fieldBack_walk (vp vq vt : Value) (an : Option Addr) (cn : Nat) (p q : List Nat) (T : List (List Nat)) (ay : List Nat) (w : World) (hp : BRow w vp p) (hq : BRow w vq q) (ht : TRow w vt T) (hy : BRow w (.slice an ay.length cn) ay) :
    Calls Try.prog 7 #[vp, vq, vt, .slice an ay.length cn] w fun e w' => e = .returned (.bool true) ∧ Below w.heap.size w w' := by
  have hcap : ay.length ≤ cn := by
    obtain ⟨_, ⟨_, _, e, rfl, _⟩ | ⟨_, _, _, e, h1, _⟩⟩ := hy
    · simp
    · cases e; exact h1
  have hlen := hy.len_le
  have hcut : ∃ K : Nat, K ≤ 300 ∧ K ≤ ay.length ∧ (if (300 : Int) < (ay.length : Int) then (300 : Int) else (ay.length : Int)) = (K : Int) := by
    by_cases h : ay.length ≤ 300
    · exact ⟨ay.length, h, Nat.le_refl _, by rw [if_neg (by omega)]⟩
    · exact ⟨300, Nat.le_refl _, by omega, by rw [if_pos (by omega)]; rfl⟩
  obtain ⟨K, hK1, hK2, hmin⟩ := hcut
  have hkc1 : (0 : Int) ≤ (K : Int) := by omega
  have hkc2 : (K : Int) ≤ (cn : Int) := by omega
  have hkl : (ay.take K).length = K := by rw [List.length_take]; omega
  have HY := Lib.hid (hy.headW K hK2)
  generalize ay.take K = y at *
  subst hkl
  have HP := Lib.hid hp
  have HQ := Lib.hid hq
  have HT := Lib.hid ht
  have HTa := Lib.hid ht.allB
  clear hp hq ht hy
  go_enter Try.func7, Try.ntmps7
  go_wp2_with fail
  refine (awake2_calls w).mono ?_
  rintro e w1 ⟨rfl, hb1⟩
  have HB1 := Lib.hid hb1
  clear hb1
  go_wp2_with fail
  refine (made_calls vp vt p T w1 (HP.out.below HB1.out) (HT.out.below HB1.out)).mono ?_
  rintro e w2 ⟨vk, rfl, hk, hb2⟩
  have HB2 := Lib.hid (HB1.out.trans (hb2.mono HB1.out.size))
  have HK := Lib.hid (made_row HTa.out hk)
  clear hb2 hk HB1
  go_wp2_with fail
  refine (made_calls vq vt q T w2 (HQ.out.below HB2.out) (HT.out.below HB2.out)).mono ?_
  rintro e w3 ⟨vl, rfl, hl, hb3⟩
  have HB3 := Lib.hid (HB2.out.trans (hb3.mono HB2.out.size))
  have HK3 := Lib.hid (HK.out.below hb3)
  have HL := Lib.hid (made_row HTa.out hl)
  clear hb3 hl HB2 HK HP HQ HT
  have hrk := madeF_right p T
  have hrl := madeF_right q T
  have hak := made_allB (gaps := p) HTa.out
  have hal := made_allB (gaps := q) HTa.out
  have hlk := made_len p T
  generalize madeF p T = k at *
  generalize madeF q T = l at *
  have HRk := Lib.hid hrk
  have HRl := Lib.hid hrl
  have HAk := Lib.hid hak
  have HAl := Lib.hid hal
  clear hrk hrl hak hal HTa
  go_wp2_with fail
  refine (write_calls _ k _ HK3.out).mono ?_
  rintro e w4 ⟨va, er, rfl, hb4, ⟨h, -, -⟩ | ⟨-, rfl, hown⟩⟩
  · rw [HRk.out] at h; cases h
  have HB4 := Lib.hid (HB3.out.trans (hb4.mono HB3.out.size))
  have HA4 := Lib.hid (BRow.of_own hown (right_allB HRk.out HAk.out))
  have HK4 := Lib.hid (HK3.out.below hb4)
  have HL4 := Lib.hid (HL.out.below hb4)
  clear hb4 hown HB3 HK3 HL
  go_wp2_with fail
  refine (write_calls _ l _ HL4.out).mono ?_
  rintro e w5 ⟨vb, er, rfl, hb5, ⟨h, -, -⟩ | ⟨-, rfl, hown⟩⟩
  · rw [HRl.out] at h; cases h
  have HB5 := Lib.hid (HB4.out.trans (hb5.mono HB4.out.size))
  have HBb := Lib.hid (BRow.of_own hown (right_allB HRl.out HAl.out))
  have HA5 := Lib.hid (HA4.out.below hb5)
  have HK5 := Lib.hid (HK4.out.below hb5)
  have HL5 := Lib.hid (HL4.out.below hb5)
  clear hb5 hown HB4 HA4 HK4 HL4
  go_wp2_with fail
  refine (fieldRead_calls _ _ _ HA5.out (by omega)).mono ?_
  have HF := Lib.hid (read_form k HRk.out)
  rintro e w6 ⟨hb6, ⟨at0, hat, -⟩ | ⟨-, vr, rfl, hfo⟩⟩
  · rw [HF.out.1] at hat; cases hat
  rw [HF.out.2] at hfo
  have HB6 := Lib.hid (HB5.out.trans (hb6.mono HB5.out.size))
  have HBk := Lib.hid (hfo.row (right_tag64 HRk.out) (fb_mem_allB HAk.out))
  have HK6 := Lib.hid (HK5.out.below hb6)
  have HL6 := Lib.hid (HL5.out.below hb6)
  have HA6 := Lib.hid (HA5.out.below hb6)
  have HBb6 := Lib.hid (HBb.out.below hb6)
  clear hb6 hfo HB5 HBb HA5 HK5 HL5 HF
  have hlk2 := right_lens HRk.out
  have hll2 := right_lens HRl.out
  go_wp2_with fail
  refine (alike_calls _ _ k k _ HBk.out HK6.out (by omega) (fun i hi => by have := hlk2.2 i hi; omega)).mono ?_
  rintro e w7 ⟨rfl, hb7⟩
  rw [decide_eq_true (rfl : k = k)]
  have HB7 := Lib.hid (HB6.out.trans (hb7.mono HB6.out.size))
  have HK7 := Lib.hid (HK6.out.below hb7)
  have HL7 := Lib.hid (HL6.out.below hb7)
  have HA7 := Lib.hid (HA6.out.below hb7)
  have HBb7 := Lib.hid (HBb6.out.below hb7)
  clear hb7 HB6 HBk HK6 HL6 HA6 HBb6
  go_wp2_with fail
  refine (right_calls _ k _ HK7.out).mono ?_
  rintro e w8 ⟨rfl, hb8⟩
  rw [HRk.out]
  have HB8 := Lib.hid (HB7.out.trans (hb8.mono HB7.out.size))
  have HK8 := Lib.hid (HK7.out.below hb8)
  have HL8 := Lib.hid (HL7.out.below hb8)
  have HA8 := Lib.hid (HA7.out.below hb8)
  have HBb8 := Lib.hid (HBb7.out.below hb8)
  clear hb8 HB7 HK7 HL7 HA7 HBb7
  go_wp2_with fail
  refine (bytesEqual_calls _ _ _ _ _ HA8.out HBb8.out).mono ?_
  rintro e w' ⟨rfl, rfl⟩
  rw [decide_eq_decide.2 (recF_inj HRk.out HRl.out)]

  obtain ⟨z, hz⟩ : ∃ z, decide (k = l) = z := ⟨_, rfl⟩
  have HZ := Lib.hid hz
  rw [hz]
  clear hz
  go_wp2_with fail
  refine (alike_calls _ _ k l _ HK8.out HL8.out (by omega) (fun i hi => by have := hll2.2 i hi; omega)).mono ?_
  rintro e w9 ⟨rfl, hb9⟩
  rw [HZ.out]
  have HB9 := Lib.hid (HB8.out.trans (hb9.mono HB8.out.size))
  have HY9 := Lib.hid (HY.out.below HB9.out)
  clear hb9 HB8 HK8 HL8 HY
  have hzz : (z != z) = false := by simp
  go_wp2_with fail
  refine (fieldRead_calls _ _ _ HY9.out (by omega)).mono ?_
  rintro e w10 ⟨hb10, ⟨at0, hat, rfl⟩ | ⟨hn, vx, rfl, hfo⟩⟩
  · have HB10 := Lib.hid (HB9.out.trans (hb10.mono HB9.out.size))
    clear hb10 hat
    go_wp2
    go_ret
    exact ⟨rfl, HB10.out⟩
  have HB10 := Lib.hid (HB9.out.trans (hb10.mono HB9.out.size))
  have HY10 := Lib.hid (HY9.out.below hb10)
  obtain ⟨hr1, hr2⟩ := read_right y HY9.out.1 hn
  have HX10 := Lib.hid (hfo.row (right_tag64 hr1) (fb_mem_allB (recF_parts _ (by rw [hr2]; exact HY9.out.1))))
  have HR1 := Lib.hid hr1
  have HR2 := Lib.hid hr2
  clear hb10 hn hfo hr1 hr2 HY9 HB9
  generalize readV y = x at *
  go_wp2_with fail
  refine (write_calls _ x _ HX10.out).mono ?_
  rintro e w11 ⟨va2, er, rfl, hb11, ⟨h, -, -⟩ | ⟨-, rfl, hown⟩⟩
  · rw [HR1.out] at h; cases h
  have HB11 := Lib.hid (HB10.out.trans (hb11.mono HB10.out.size))
  have HX11 := Lib.hid (HX10.out.below hb11)
  have HY11 := Lib.hid (HY10.out.below hb11)
  rw [HR2.out] at hown
  have HA11 := Lib.hid (BRow.of_own hown HY10.out.1)
  clear hb11 hown HB10 HX10 HY10
  go_wp2_with fail
  refine (right_calls _ x _ HX11.out).mono ?_
  rintro e w12 ⟨rfl, hb12⟩
  rw [HR1.out]
  have HB12 := Lib.hid (HB11.out.trans (hb12.mono HB11.out.size))
  have HA12 := Lib.hid (HA11.out.below hb12)
  have HY12 := Lib.hid (HY11.out.below hb12)
  clear hb12 HB11 HA11 HY11 HX11
  go_wp2_with fail
  refine (bytesEqual_calls _ _ y y _ HA12.out HY12.out).mono ?_
  rintro e w' ⟨rfl, rfl⟩
  rw [decide_eq_true (rfl : y = y)]
  go_wp2
  go_ret
  exact ⟨rfl, HB12.out⟩
end Go.Proofs.Ytfgiejeeolnhbaa
