/-
  THE WALK of fermatalaw01.writes and NumWrites: they return true, and write nothing that was there.
-/
import Derived.Test.YteaeedhhdnkldaaFrame
import Derived.Test.YteaeedhhdnkldaaAwake01
import Derived.Test.YteaeedhhdnkldaaNumAppendF
import Derived.Test.YteaeedhhdnkldaaNumRefForm
import Derived.Test.YteaeedhhdnkldaaNumRefFold
namespace Go.Proofs.Yteaeedhhdnkldaa
open Go.RowKit Pl

/-- The head of what reads as bytes. -/
theorem BRow.headW {w : World} {a : Option Addr} {n c : Nat} {l : List Nat} (h : BRow w (.slice a n c) l) (k : Nat) (hk : k ≤ l.length) : BRow w (.slice a k c) (l.take k) := by
  obtain ⟨hb, ⟨a', c', hv, rfl, hc⟩ | ⟨b, off, cap, hv, h1, h2, h3⟩⟩ := h
  · obtain rfl : k = 0 := by simpa using hk
    simp only [Value.slice.injEq] at hv
    obtain ⟨_, _, rfl⟩ := hv
    rw [List.take_nil]
    exact BRow.empty a c hc
  · simp only [Value.slice.injEq] at hv
    obtain ⟨rfl, rfl, rfl⟩ := hv
    have := BRow.sub (w := w) ⟨hb, .inr ⟨b, off, c, rfl, h1, h2, h3⟩⟩ 0 k off k c (Nat.zero_le _) hk rfl rfl (by omega) h2
    rwa [List.drop_zero, Nat.sub_zero] at this

set_option maxRecDepth 100000 in
set_option maxHeartbeats 4000000 in
theorem writes_calls (x : Nat) (y : Int) (ab : Option Addr) (cb : Nat) (bh : List Nat) (w : World) (hx : x < 18446744073709551616) (hy : -9223372036854775808 ≤ y ∧ y ≤ 9223372036854775807) (hrow : BRow w (.slice ab bh.length cb) bh) :
    Calls Try.prog 12 #[.int .u64 x, .int .i64 y, .slice ab bh.length cb] w fun e w' => e = .returned (.bool true) ∧ Below w.heap.size w w' := by
  obtain ⟨f1, f2⟩ := form_length x
  have hlb := hrow.len_le
  have hcb : bh.length ≤ cb := by
    obtain ⟨_, ⟨_, _, h, rfl, _⟩ | ⟨_, _, _, h, h2, _⟩⟩ := hrow
    · simp
    · cases h; exact h2
  have hcut : ∃ k : Nat, k ≤ 100 ∧ k ≤ bh.length ∧ (if (100 : Int) < (bh.length : Int) then (100 : Int) else (bh.length : Int)) = (k : Int) := by
    by_cases h : bh.length ≤ 100
    · exact ⟨bh.length, by omega, Nat.le_refl _, by rw [if_neg (by omega)]⟩
    · exact ⟨100, Nat.le_refl _, by omega, by rw [if_pos (by omega)]; rfl⟩
  obtain ⟨k, hk1, hk2, hmin⟩ := hcut
  have HK := Lib.hid (hrow.headW k hk2)
  have hkl0 : (bh.take k).length = k := by rw [List.length_take]; omega
  have hkc1 : (0 : Int) ≤ (k : Int) := by omega
  have hkc2 : (k : Int) ≤ (cb : Int) := by omega
  have HX := Lib.hid hx
  have HY := Lib.hid hy
  clear hrow hx hy
  have HKL := Lib.hid hkl0
  clear hkl0
  generalize bh.take k = bk at *
  have HL0 := Lib.hid (own8_lit w [] #[] w.heap.size 0 0 rfl rfl rfl rfl (by decide) w.heap.size (Nat.le_refl _))
  have HA0 := Lib.hid ((Below.refl _ w).alloc (Nat.le_refl _) (.cells #[] 5))
  go_enter Try.func12, Try.ntmps12
  go_wp2_with (first
    | (at_builtin; refine wpList_append8 rfl (.tmp 15) (.tmp 16) rfl w.heap.size _ [] rfl HL0.out _ bk rfl (HK.out.below HA0.out) (by have := HKL.out; simp; omega) (by simp) ?_; intro v1 w1 hown1 hgrow1; have HO1 := Lib.hid hown1; have HB1 := Lib.hid (HA0.out.trans (below_append HL0.out hgrow1 (by simp))); obtain ⟨va, vc, rfl⟩ := owns_shape hown1; have hvc := own8_le hown1; rw [List.nil_append] at hvc; clear hown1 hgrow1)
    | fail)
  have HO1' : Hid (Own8 w1 w.heap.size (.slice va bk.length vc) bk) := HO1
  have hb100 : bk.length ≤ 100 := by have := HKL.out; omega
  have HAF := Lib.hid (appendF_calls x HX.out w1 w.heap.size va bk.length vc bk HO1'.out (by omega))
  have HR1 := Lib.hid (BRow.of_own (show Own8 w1 w.heap.size (.slice va bk.length vc) bk from HO1'.out) HK.out.1)
  clear HO1
  refine HAF.out.mono ?_
  rintro e w2 ⟨v2, rfl, hown2, hb2⟩
  have HO2 := Lib.hid (BRow.of_own hown2 (HK.out.1.append (form_allB x)))
  have HB2 := Lib.hid (HB1.out.trans (hb2.mono HB1.out.size))
  have HR2 := Lib.hid (HR1.out.below hb2)
  clear hown2 hb2
  go_wp2_with fail
  refine (refForm_calls x w2 HX.out).mono ?_
  rintro e w3 ⟨v3, rfl, hown3, hb3⟩
  obtain ⟨vb, vd, rfl⟩ := owns_shape hown3
  have HO3 := Lib.hid (BRow.of_own hown3 (form_allB x))
  have HB3 := Lib.hid (HB2.out.trans (hb3.mono HB2.out.size))
  have HO23 := Lib.hid (HO2.out.below hb3)
  have HR3 := Lib.hid (HR2.out.below hb3)
  clear hown3 hb3
  go_wp2_with fail
  refine (size_calls x w3 HX.out).mono ?_
  rintro e w4 ⟨rfl, hb4⟩
  have HB4 := Lib.hid (HB3.out.trans (hb4.mono HB3.out.size))
  have HO34 := Lib.hid (HO3.out.below hb4)
  have HO24 := Lib.hid (HO23.out.below hb4)
  have HR4 := Lib.hid (HR3.out.below hb4)
  clear hb4
  have HK4 := Lib.hid (HK.out.below HB4.out)
  have HL4 := Lib.hid (own8_lit w4 [] #[] w4.heap.size 0 0 rfl rfl rfl rfl (by decide) w4.heap.size (Nat.le_refl _))
  have HA4 := Lib.hid ((Below.refl _ w4).alloc (Nat.le_refl _) (.cells #[] 5))
  go_wp2_with (first
    | (at_builtin; refine wpList_append8W (by rfl) (.tmp 35) (.tmp 36) rfl w4.heap.size _ [] rfl HL4.out _ bk rfl (HK4.out.below HA4.out) (by simp; omega) (by simp) ?_; intro v5 w5 hown5 hgrow5; have HO5 := Lib.hid hown5; have HB5 := Lib.hid (HA4.out.trans (below_append HL4.out hgrow5 (by simp))); clear hown5 hgrow5)
    | (at_builtin; refine wpList_append8W (by rfl) (.tmp 37) (.tmp 38) rfl w4.heap.size _ bk rfl HO5.out _ (form x) rfl (HO34.out.below HB5.out) (by omega) HB5.out.size ?_; intro v6 w6 hown6 hgrow6; have HB6 := Lib.hid (HB5.out.trans (below_append HO5.out hgrow6 HB5.out.size)); have HO6 := Lib.hid (BRow.of_own hown6 (HK.out.1.append (form_allB x))); clear hown6 hgrow6)
    | fail)
  have HO26 := Lib.hid (HO24.out.below HB6.out)
  have HR6 := Lib.hid (HR4.out.below HB6.out)
  have HB06 := Lib.hid (HB4.out.trans (HB6.out.mono HB4.out.size))
  have S1 := sameBytes_b _ _ _ _ w6 HO26.out HO6.out
  rw [decide_eq_true rfl] at S1
  have HS1 := Lib.hid S1
  clear S1
  refine HS1.out.mono ?_
  rintro e w7 ⟨rfl, hb7⟩
  have HB07 := Lib.hid (HB06.out.trans (hb7.mono HB06.out.size))
  have HR7 := Lib.hid (HR6.out.below hb7)
  clear hb7
  have S2 := sameBytes_b _ _ _ _ w7 HR7.out (HK.out.below HB07.out)
  rw [decide_eq_true rfl] at S2
  have HS2 := Lib.hid S2
  clear S2
  go_wp2_with fail
  refine HS2.out.mono ?_
  rintro e w8 ⟨rfl, hb8⟩
  have HB08 := Lib.hid (HB07.out.trans (hb8.mono HB07.out.size))
  clear hb8
  go_wp2_with fail
  refine (fold_calls y w8 HY.out.1 HY.out.2).mono ?_
  rintro e w' ⟨rfl, rfl⟩
  go_wp2_with fail
  refine (refFold_calls y w8 HY.out.1 HY.out.2).mono ?_
  rintro e w' ⟨rfl, rfl⟩
  go_wp2_with fail
  refine (unfold_calls x w8 (by omega) (by have := HX.out; omega)).mono ?_
  rintro e w' ⟨rfl, rfl⟩
  go_wp2_with fail
  refine (refUnfold_calls x w8 (by omega) (by have := HX.out; omega)).mono ?_
  rintro e w' ⟨rfl, rfl⟩
  go_wp2
  go_ret
  exact ⟨rfl, HB08.out⟩
end Go.Proofs.Yteaeedhhdnkldaa
