/-
  THE WALK of fermatalaw02.FieldNumbers: it returns true, and writes nothing that was there.
-/
import Derived.Test.YtijbnjkflhlmcaaFieldSet
import Derived.Test.YtijbnjkflhlmcaaAwake02
namespace Go.Proofs.Ytijbnjkflhlmcaa
open Go.RowKit Pl

theorem lastN_cases (l : List Nat) (hb : AllB l) : (∃ x, x < 18446744073709551616 ∧ lastN l = (x, l.length, 0) ∧ form x = l) ∨ ∃ e, (e = 10 ∨ e = 11) ∧ lastN l = (0, 0, e) := by
  have hE : (rd l).2.2 = 0 ∨ (rd l).2.2 = 10 ∨ (rd l).2.2 = 11 := by
    unfold rd
    split
    · simp
    split
    · simp
    split
    · simp
    split
    · simp
    split <;> simp
  by_cases h : (rd l).2.2 = 0
  · have hr : rd l = ((rd l).1, (rd l).2.1, 0) := by rw [← h]
    obtain ⟨h1, h2, h3, h4⟩ := rd_right hb hr
    by_cases h5 : (rd l).2.1 < l.length
    · exact .inr ⟨11, .inr rfl, by unfold lastN; rw [if_neg (by omega), if_pos h5]⟩
    · refine .inl ⟨_, h4, ?_, ?_⟩
      · unfold lastN
        rw [if_neg (by omega), if_neg h5, hr]
        simp; omega
      · rw [← h1, List.take_of_length_le (by omega)]
  · exact .inr ⟨(rd l).2.2, by omega, by unfold lastN; rw [if_pos h]⟩
theorem made_below (gaps : List Nat) (T : List (List Nat)) : (madeF gaps T).length ≤ 20 ∧ sumB (madeF gaps T) ≤ 2000 ∧ ∀ q ∈ madeF gaps T, q.1 ≤ 180 := by
  obtain ⟨_, h2, h3⟩ := madeU_right gaps T (min gaps.length 20) (Nat.min_le_right _ _)
  have h4 := madeU_length gaps T (min gaps.length 20)
  have h5 := tgU_le gaps (min gaps.length 20)
  have h6 := Nat.min_le_right gaps.length 20
  unfold madeF
  exact ⟨by omega, by omega, fun q hq => by have := h3 q hq; omega⟩

set_option maxRecDepth 100000 in
set_option maxHeartbeats 4000000 in
theorem fieldNumbers_walk (vp vt : Value) (an : Option Addr) (cn : Nat) (p : List Nat) (T : List (List Nat)) (x : Nat) (ay : List Nat) (w : World) (hp : BRow w vp p) (ht : TRow w vt T) (hx : x < 18446744073709551616) (hy : BRow w (.slice an ay.length cn) ay) :
    Calls Try.prog 4 #[vp, vt, .int .u64 x, .slice an ay.length cn] w fun e w' => e = .returned (.bool true) ∧ Below w.heap.size w w' := by
  have hcap : ay.length ≤ cn := by
    obtain ⟨_, ⟨_, _, e, rfl, _⟩ | ⟨_, _, _, e, h1, _⟩⟩ := hy
    · simp
    · cases e; exact h1
  have hlen := hy.len_le
  have hcut : ∃ K : Nat, K ≤ 20 ∧ K ≤ ay.length ∧ (if (20 : Int) < (ay.length : Int) then (20 : Int) else (ay.length : Int)) = (K : Int) := by
    by_cases h : ay.length ≤ 20
    · exact ⟨ay.length, h, Nat.le_refl _, by rw [if_neg (by omega)]⟩
    · exact ⟨20, Nat.le_refl _, by omega, by rw [if_pos (by omega)]; rfl⟩
  obtain ⟨K, hK1, hK2, hmin⟩ := hcut
  have hkc1 : (0 : Int) ≤ (K : Int) := by omega
  have hkc2 : (K : Int) ≤ (cn : Int) := by omega
  have hkl : (ay.take K).length = K := by rw [List.length_take]; omega
  have HY := Lib.hid (hy.headW K hK2)
  generalize ay.take K = y at *
  subst hkl
  have HP := Lib.hid hp
  have HT := Lib.hid ht
  have HTa := Lib.hid ht.allB
  have hfl := form_length x
  have HFa := Lib.hid (form_allB x)
  have HFx := Lib.hid (lastN_form x hx)
  generalize hfx : form x = fx at *
  have HFX := Lib.hid hfx
  clear hp ht hy hfx
  go_enter Try.func4, Try.ntmps4
  go_wp2_with fail
  refine (awake2_calls w).mono ?_
  rintro e w1 ⟨rfl, hb1⟩
  have HB1 := Lib.hid hb1
  clear hb1
  go_wp2_with fail
  refine (fieldNumber_calls 200 x hx w1).mono ?_
  rintro e w2 ⟨vf, rfl, hof, hb2⟩
  rw [HFX.out] at hof
  obtain ⟨a2, c2, rfl⟩ := owns_shape hof
  have HB2 := Lib.hid (HB1.out.trans (hb2.mono HB1.out.size))
  have HBf := Lib.hid (BRow.of_own hof HFa.out)
  clear hb2 hof HB1
  go_wp2_with fail
  have hF0 : (w2.alloc (.cells #[.int .i64 200, .slice a2 fx.length c2] 28)).drew.heap[w2.heap.size]? = some (.cells #[.int .i64 200, .slice a2 fx.length c2] 28 (0, 0)) := World.alloc_heap_new w2 _
  have hB0 : Below w.heap.size w (w2.alloc (.cells #[.int .i64 200, .slice a2 fx.length c2] 28)).drew := (HB2.out.alloc HB2.out.size _).drew
  have HBf3 := Lib.hid (show BRow (w2.alloc (.cells #[.int .i64 200, .slice a2 fx.length c2] 28)).drew (.slice a2 fx.length c2) fx from HBf.out.below ((Below.refl _ w2).alloc (Nat.le_refl _) _).drew)
  generalize w2.alloc (.cells #[.int .i64 200, .slice a2 fx.length c2] 28) = W3 at *
  have q0 : W3.drew.cell? ⟨w2.heap.size, 0, none⟩ = some (.int .i64 200) := by simp [World.cell?, hF0]
  have q1 : W3.drew.cell? ⟨w2.heap.size, 1, none⟩ = some (.slice a2 fx.length c2) := by simp [World.cell?, hF0]
  have hFl : w2.heap.size < W3.drew.heap.size := (Array.getElem?_eq_some_iff.1 hF0).1
  have HB3 := Lib.hid hB0
  have HMd := Lib.hid (made_calls vp vt p T W3.drew (HP.out.below HB3.out) (HT.out.below HB3.out))
  obtain ⟨g1, g2, g3⟩ := made_below p T
  have hMr : rightF (setR 200 fx (madeF p T)) = true := set_right (madeF_right p T) (by omega) (by omega) (by omega) (by omega)
  have hMlen : (recF (setR 200 fx (madeF p T))).length ≤ 10000 := by
    have e1 := recF_length (setR 200 fx (madeF p T))
    have e2 := sumB_set 200 fx (madeF p T)
    have e3 := length_setR 200 fx (madeF p T)
    omega
  have hMa : ∀ q ∈ setR 200 fx (madeF p T), AllB q.2 := mem_setR (P := fun q => AllB q.2) (made_allB HTa.out) HFa.out
  have hMg : getF (setR 200 fx (madeF p T)) 200 = some fx := by rw [getF_eq, getR_set_same]
  have hrm := madeF_right p T
  have HMrow := Lib.hid (fun W v b (h : FOwn W b v (madeF p T)) => made_row HTa.out h)
  generalize madeF p T = m at *
  have HSet := Lib.hid (fun v W (h : FRow W v m) (hb : BRow W (.slice a2 fx.length c2) fx) => set_ok 200 v a2 c2 fx m W h (by unfold Tag64; omega) hb hrm hMr)
  generalize setR 200 fx m = M at *
  have HMr := Lib.hid hMr
  have HMa := Lib.hid hMa
  have HMg := Lib.hid hMg
  clear hF0 hB0 g1 g2 g3 hMr hMa hMg hrm HP HT HTa
  go_region_law (first
    | (go_simp; go_at_call 16; refine HMd.out.mono ?_; rintro e w4 ⟨vm, rfl, hm, hb4⟩; have HB4 := Lib.hid (HB3.out.trans (hb4.mono HB3.out.size)); have r0 := (hb4.cell (p := ⟨w2.heap.size, 0, none⟩) hFl).trans q0; have r1 := (hb4.cell (p := ⟨w2.heap.size, 1, none⟩) hFl).trans q1; have HSm := Lib.hid (HSet.out vm w4 (HMrow.out _ _ _ hm) (HBf3.out.below hb4)); have HBf4 := Lib.hid (HBf3.out.below hb4); have hF4 := Nat.lt_of_lt_of_le hFl hb4.size; clear hm hb4)
    | (go_simp; go_at_call 17; refine HSm.out.mono ?_; rintro e w5 ⟨hb5, v5, rfl, hf5⟩; have HB5 := Lib.hid (HB4.out.trans (hb5.mono HB4.out.size)); have s0 := (hb5.cell (p := ⟨w2.heap.size, 0, none⟩) hF4).trans r0; have s1 := (hb5.cell (p := ⟨w2.heap.size, 1, none⟩) hF4).trans r1; have HR5 := Lib.hid (hf5.row (right_tag64 HMr.out) (fb_mem_allB HMa.out)); have HBf5 := Lib.hid (HBf4.out.below hb5); have hF5 := Nat.lt_of_lt_of_le hF4 hb5.size; clear hb5 hf5 r0 r1)
    | fail)
  all_goals
    clear HMd HSet HSm HMrow HB3 HB4 HBf3 HBf4 HBf q0 q1 hFl hF4 HB2
    have hlens := (right_lens HMr.out).2
    go_wp2_with fail
    refine (write_calls _ M _ HR5.out).mono ?_
    rintro e w6 ⟨va, er, rfl, hb6, ⟨h, -, -⟩ | ⟨-, rfl, hown⟩⟩
    · rw [HMr.out] at h; cases h
    have HB6 := Lib.hid (HB5.out.trans (hb6.mono HB5.out.size))
    have HA6 := Lib.hid (BRow.of_own hown (right_allB HMr.out HMa.out))
    have t0 := (hb6.cell (p := ⟨w2.heap.size, 0, none⟩) hF5).trans s0
    have t1 := (hb6.cell (p := ⟨w2.heap.size, 1, none⟩) hF5).trans s1
    have HBf6 := Lib.hid (HBf5.out.below hb6)
    have hF6 := Nat.lt_of_lt_of_le hF5 hb6.size
    clear hb6 hown HB5 s0 s1 HBf5 hF5 HR5
    go_wp2_with fail
    refine (fieldRead_calls _ _ _ HA6.out (by omega)).mono ?_
    have HF := Lib.hid (read_form M HMr.out)
    rintro e w7 ⟨hb7, ⟨at0, hat, -⟩ | ⟨-, vr, rfl, hfo⟩⟩
    · rw [HF.out.1] at hat; cases hat
    rw [HF.out.2] at hfo
    have HB7 := Lib.hid (HB6.out.trans (hb7.mono HB6.out.size))
    have HR7 := Lib.hid (hfo.row (right_tag64 HMr.out) (fb_mem_allB HMa.out))
    have u0 := (hb7.cell (p := ⟨w2.heap.size, 0, none⟩) hF6).trans t0
    have u1 := (hb7.cell (p := ⟨w2.heap.size, 1, none⟩) hF6).trans t1
    have HBf7 := Lib.hid (HBf6.out.below hb7)
    have hF7 := Nat.lt_of_lt_of_le hF6 hb7.size
    clear hb7 hfo HB6 t0 t1 HBf6 hF6 HA6 HF
    have HG := Lib.hid (get_some 200 vr M fx w7 HR7.out (fun i hi => by have := hlens i hi; omega) HMg.out)
    clear hlens
    go_wp2_with fail
    refine HG.out.mono ?_
    rintro e w8 ⟨hb8, vg, rfl, hog⟩
    obtain ⟨a8, c8, rfl⟩ := owns_shape hog
    have HB8 := Lib.hid (HB7.out.trans (hb8.mono HB7.out.size))
    have HO8 := Lib.hid (BRow.of_own hog HFa.out)
    have s0 := (hb8.cell (p := ⟨w2.heap.size, 0, none⟩) hF7).trans u0
    have s1 := (hb8.cell (p := ⟨w2.heap.size, 1, none⟩) hF7).trans u1
    have HBf8 := Lib.hid (HBf7.out.below hb8)
    have hF8 := Nat.lt_of_lt_of_le hF7 hb8.size
    clear hb8 hog HB7 u0 u1 HBf7 hF7 HG HR7
    have HV := Lib.hid (fun t v W (h : BRow W v fx) => by have := fieldValue_calls t v fx W h; rw [HFx.out] at this; exact this)
    go_wp2_with fail
    refine (HV.out 3 _ _ HO8.out).mono ?_
    rintro e w9 ⟨rfl, hb9⟩
    have HB9 := Lib.hid (HB8.out.trans (hb9.mono HB8.out.size))
    have t0 := (hb9.cell (p := ⟨w2.heap.size, 0, none⟩) hF8).trans s0
    have t1 := (hb9.cell (p := ⟨w2.heap.size, 1, none⟩) hF8).trans s1
    have HBf9 := Lib.hid (HBf8.out.below hb9)
    have hF9 := Nat.lt_of_lt_of_le hF8 hb9.size
    clear hb9 HB8 s0 s1 HBf8 hF8 HO8
    go_wp2_with fail
    refine (HV.out 200 _ _ HBf9.out).mono ?_
    rintro e w10 ⟨rfl, hb10⟩
    have HB10 := Lib.hid (HB9.out.trans (hb10.mono HB9.out.size))
    have s0 := (hb10.cell (p := ⟨w2.heap.size, 0, none⟩) hF9).trans t0
    have HY10 := Lib.hid (HY.out.below HB10.out)
    clear hb10 HB9 t0 t1 HBf9 hF9 HV
    have hxx : ((x : Int) != (x : Int)) = false := by simp
    go_wp2_with fail
    have hva := fieldValue_calls 0 _ y w10 HY10.out
    rcases lastN_cases y HY10.out.1 with ⟨u, hu, hlu, hfu⟩ | ⟨er, her, hlu⟩
    · rw [hlu] at hva
      have HVa := Lib.hid hva
      have HFu := Lib.hid hfu
      clear hva hlu hfu
      refine HVa.out.mono ?_
      rintro e w11 ⟨rfl, hb11⟩
      have HB11 := Lib.hid (HB10.out.trans (hb11.mono HB10.out.size))
      have HY11 := Lib.hid (HY10.out.below hb11)
      clear hb11 HB10 HY10 HVa
      go_wp2_with fail
      refine (fieldNumber_calls 0 u hu w11).mono ?_
      rintro e w12 ⟨vn, rfl, hon, hb12⟩
      rw [HFu.out] at hon
      obtain ⟨a12, c12, rfl⟩ := owns_shape hon
      have HB12 := Lib.hid (HB11.out.trans (hb12.mono HB11.out.size))
      have HN12 := Lib.hid (BRow.of_own hon HY11.out.1)
      have HY12 := Lib.hid (HY11.out.below hb12)
      clear hb12 hon HB11 HY11
      have hfd : ∀ (W : World) (t : Int) (z : Option Addr) (n c : Nat), (Instr.field 28 (.agg #[.int .i64 t, .slice z n c]) 1).run Try.prog W = .ok (.slice z n c) W := fun W t z n c => by kernel_rfl
      go_wp2_with fail
      refine (bytesEqual_calls _ _ y y _ HN12.out HY12.out).mono ?_
      rintro e w' ⟨rfl, rfl⟩
      rw [decide_eq_true (rfl : y = y)]
      go_wp2
      go_ret
      exact ⟨rfl, HB12.out⟩
    · rw [hlu] at hva
      have HVa := Lib.hid hva
      clear hva hlu
      refine HVa.out.mono ?_
      rintro e w11 ⟨rfl, hb11⟩
      have HB11 := Lib.hid (HB10.out.trans (hb11.mono HB10.out.size))
      clear hb11 HB10 HY10 HVa
      rcases her with rfl | rfl
      · go_wp2
        go_ret
        exact ⟨rfl, HB11.out⟩
      · go_wp2
        go_ret
        exact ⟨rfl, HB11.out⟩
end Go.Proofs.Ytijbnjkflhlmcaa
