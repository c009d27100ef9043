/-
  THE WALK of fermatalaw01.NumOrder: it returns true, and writes nothing that was there.
-/
import Derived.Test.YtflenhbkpaondaaFrame
import Derived.Test.YtflenhbkpaondaaAwake01
import Derived.Test.YtflenhbkpaondaaAppend8R
import Derived.Deep.RegionLaw
import Derived.Deep.RegionWith
namespace Go.Proofs.Ytflenhbkpaondaa
open Go.RowKit Pl

/-- The head of what reads as bytes. -/
theorem BRow.head {w : World} {a : Option Addr} {n c : Nat} {l : List Nat} (h : BRow w (.slice a n c) l) (k : Nat) (hk : k ≤ l.length) : BRow w (.slice a k c) (l.take k) := by
  obtain ⟨hb, ⟨a', c', hv, rfl, hc⟩ | ⟨b, off, cap, hv, h1, h2, h3⟩⟩ := h
  · obtain rfl : k = 0 := by simpa using hk
    simp only [Value.slice.injEq] at hv
    obtain ⟨_, _, rfl⟩ := hv
    rw [List.take_nil]
    exact BRow.empty a c hc
  · simp only [Value.slice.injEq] at hv
    obtain ⟨rfl, rfl, rfl⟩ := hv
    have := BRow.sub (w := w) ⟨hb, .inr ⟨b, off, c, rfl, h1, h2, h3⟩⟩ 0 k off k c (Nat.zero_le _) hk rfl rfl (by omega) h2
    rwa [List.drop_zero, Nat.sub_zero] at this

set_option maxRecDepth 100000 in
set_option maxHeartbeats 4000000 in
theorem numOrder_walk (x y : Nat) (ab : Option Addr) (lb cb : Nat) (bh : List Nat) (w : World) (hx : x < 18446744073709551616) (hy : y < 18446744073709551616) (hbl : bh.length = lb) (hrow : BRow w (.slice ab lb cb) bh) :
    Calls Try.prog 6 #[.int .u64 x, .int .u64 y, .slice ab lb cb] w fun e w' => e = .returned (.bool true) ∧ Below w.heap.size w w' := by
  subst hbl
  obtain ⟨f1, f2⟩ := form_length x
  obtain ⟨f3, f4⟩ := form_length y
  have HR := Lib.hid hrow
  have hlb := hrow.len_le
  have hcb : bh.length ≤ cb := by
    obtain ⟨_, ⟨_, _, h, rfl, _⟩ | ⟨_, _, _, h, h2, _⟩⟩ := hrow
    · simp
    · cases h; exact h2
  clear hrow
  go_enter Try.func6, Try.ntmps6
  go_wp2_with fail
  refine (awake_calls w).mono ?_
  rintro e w1 ⟨rfl, hb1⟩
  have HB1 := Lib.hid hb1
  clear hb1
  go_wp2_with fail
  refine (append_calls x hx _ w1.heap.size (Nat.le_refl _) _ [] (own8_nil _ _) (by decide)).mono ?_
  rintro e w2 ⟨v2, rfl, hown2, hb2⟩
  rw [List.nil_append] at hown2
  obtain ⟨g, cap, rfl, hcap, _, _, _⟩ := own8_some hown2 f1
  have HA := Lib.hid (BRow.of_own hown2 (form_allB x))
  have HB2 := Lib.hid hb2
  clear hb2 hown2
  go_wp2_with fail
  refine (append_calls y hy _ w2.heap.size (Nat.le_refl _) _ [] (own8_nil _ _) (by decide)).mono ?_
  rintro e w3 ⟨v3, rfl, hown3, hb3⟩
  rw [List.nil_append] at hown3
  obtain ⟨g', cap', rfl, hcap', _, _, _⟩ := own8_some hown3 f3
  have HBy := Lib.hid (BRow.of_own hown3 (form_allB y))
  have HA3 := Lib.hid (HA.out.below hb3)
  have hB3 : Below w.heap.size w w3 := (HB1.out.trans (HB2.out.mono HB1.out.size)).trans (hb3.mono (Nat.le_trans HB1.out.size HB2.out.size))
  have HB3 := Lib.hid hB3
  have HR3 := Lib.hid (HR.out.below hB3)
  have HX := Lib.hid hx
  have HY := Lib.hid hy
  clear hb3 hown3 hB3 HR HA HB1 HB2 hx hy
  have hcut : ∃ k : Nat, k ≤ 100 ∧ k ≤ bh.length ∧ (if (100 : Int) < (bh.length : Int) then (100 : Int) else (bh.length : Int)) = (k : Int) := by
    by_cases h : bh.length ≤ 100
    · exact ⟨bh.length, by omega, Nat.le_refl _, by rw [if_neg (by omega)]⟩
    · exact ⟨100, Nat.le_refl _, by omega, by rw [if_pos (by omega)]; rfl⟩
  obtain ⟨k, hk1, hk2, hmin⟩ := hcut
  have HK := Lib.hid (HR3.out.head k hk2)
  have hrd : rdAt (form x ++ bh.take k) 0 = (x, (form x).length, 0) := by rw [rdAt_zero]; exact rd_form x HX.out _
  have HRD := Lib.hid hrd
  have HAB := Lib.hid ((form_allB x).append (HR3.out.1.take k))
  have hkl : (bh.take k).length ≤ 100 := by rw [List.length_take]; omega
  have hkc1 : (0 : Int) ≤ (k : Int) := by omega
  have hkc2 : (k : Int) ≤ (cb : Int) := by omega
  clear hrd
  have hO := own8_lit w3 [] #[] w3.heap.size 0 0 rfl rfl rfl rfl (by decide) w3.heap.size (Nat.le_refl _)
  have hOd : Own8 (w3.alloc (.cells #[] 5)).drew w3.heap.size (.slice (some ⟨w3.heap.size, 0, none⟩) 0 0) [] := hO
  have hBd : Below w3.heap.size w3 (w3.alloc (.cells #[] 5)).drew := ((Below.refl _ w3).alloc (Nat.le_refl _) _).drew
  have HOd := Lib.hid hOd
  have HBd := Lib.hid hBd
  have HA3d := Lib.hid (HA3.out.below hBd)
  clear hO hOd hBd
  have CL := Lib.hid (fun W (hW : Below w3.heap.size w3 W) => by have := last_calls _ _ W (HBy.out.below hW); rw [lastN_form y HY.out] at this; exact this)
  have CC := Lib.hid (fun W (hW : Below w3.heap.size w3 W) => by have := compare_calls _ _ _ _ W (HA3.out.below hW) (HBy.out.below hW); rw [compareN_ok (lastN_form x HX.out) (lastN_form y HY.out)] at this; exact this)
  have CB := Lib.hid (fun W (hW : Below w3.heap.size w3 W) => by have := bytesCompare_calls _ _ _ _ W (HA3.out.below hW) (HBy.out.below hW); rw [form_cmp x y HX.out HY.out] at this; exact this)
  have CS := Lib.hid (fun W => size_calls x W HX.out)
  have P1 := Lib.hid (fun W (hW : Below w3.heap.size w3 W) => hasPrefix_calls _ _ _ _ W (HA3.out.below hW) (HBy.out.below hW))
  have P2 := Lib.hid (fun W (hW : Below w3.heap.size w3 W) => hasPrefix_calls _ _ _ _ W (HBy.out.below hW) (HA3.out.below hW))
  have HP1 := Lib.hid (fun h : x ≠ y => show decide (form y <+: form x) = false by rw [decide_eq_false_iff_not]; exact fun e => h (form_prefix HY.out HX.out e).symm)
  have HP2 := Lib.hid (fun h : x ≠ y => show decide (form x <+: form y) = false by rw [decide_eq_false_iff_not]; exact fun e => h (form_prefix HX.out HY.out e))
  have hcases : (x : Int) < y ∧ cmpI x y = -1 ∨ (y : Int) < x ∧ cmpI x y = 1 ∨ (x : Int) = y ∧ cmpI x y = 0 := by
    unfold cmpI
    by_cases h1 : (x : Int) < y
    · exact .inl ⟨h1, by rw [if_pos h1]⟩
    · by_cases h2 : (y : Int) < x
      · exact .inr (.inl ⟨h2, by rw [if_neg h1, if_pos h2]⟩)
      · exact .inr (.inr ⟨by omega, by rw [if_neg h1, if_neg h2]⟩)
  have HCA := Lib.hid hcases
  clear hcases
  go_wp2_with fail
  go_region_law (first
    | (refine step_append8 rfl (.tmp 25) (.tmp 26) (by rfl) w3.heap.size _ [] (by first | rfl | simp [Act.eval, Act.put]) HOd.out _ (form x) (by first | rfl | simp [Act.eval, Act.put]) HA3d.out (by simp; omega) HBd.out.size ?_; intro v4 w4 hown4 hgrow4; have HO4 := Lib.hid hown4; have HB4 := Lib.hid (HBd.out.trans (below_append HOd.out hgrow4 HBd.out.size)); clear hown4 hgrow4)
    | (refine step_append8 rfl (.tmp 27) (.tmp 32) (by rfl) w3.heap.size _ (form x) (by first | rfl | simp [Act.eval, Act.put]) HO4.out _ (bh.take k) (by first | rfl | simp [Act.eval, Act.put]) (HK.out.below HB4.out) (by omega) HB4.out.size ?_; intro v5 w5 hown5 hgrow5; have HO5 := Lib.hid hown5; have HB5 := Lib.hid (HB4.out.trans (below_append HO4.out hgrow5 HB4.out.size)); have HC5 := Lib.hid (by have := read_calls _ _ w5 (BRow.of_own hown5 HAB.out) 0 (by omega) (by omega); rw [HRD.out] at this; exact this); clear hown5 hgrow5)
    | (go_simp; go_at_call 17; refine HC5.out.mono ?_; rintro e w' ⟨rfl, rfl⟩)
    | fail)
  all_goals
    go_wp2_with fail
    refine (CL.out _ HB5.out).mono ?_
    rintro e w' ⟨rfl, rfl⟩
    go_wp2_with fail
    refine (CC.out _ HB5.out).mono ?_
    rintro e w' ⟨rfl, rfl⟩
    go_wp2_with fail
    refine (CS.out _).mono ?_
    rintro e w6 ⟨rfl, hb6⟩
    have HB6 := Lib.hid (HB5.out.trans (hb6.mono HB5.out.size))
    clear hb6
    rcases HCA.out with ⟨o1, o2⟩ | ⟨o1, o2⟩ | ⟨o1, o2⟩
  all_goals
    first
    | (have hne : x ≠ y := by omega
       have hbq : ((x : Int) == (y : Int)) = false := beq_eq_false_iff_ne.2 (by omega)
       have Q1 := P1.out w6 HB6.out
       rw [HP1.out hne] at Q1
       have R1 := Lib.hid Q1
       have Q2 := P2.out w6 HB6.out
       rw [HP2.out hne] at Q2
       have R2 := Lib.hid Q2
       clear Q1 Q2 hne
       go_wp2_with fail
       refine (CB.out _ HB6.out).mono ?_
       rintro e w' ⟨rfl, rfl⟩
       go_wp2_with fail
       refine R1.out.mono ?_
       rintro e w' ⟨rfl, rfl⟩
       go_wp2_with fail
       refine R2.out.mono ?_
       rintro e w' ⟨rfl, rfl⟩
       go_wp2
       go_ret
       exact ⟨rfl, HB3.out.trans (HB6.out.mono HB3.out.size)⟩)
    | (have hbq : ((x : Int) == (y : Int)) = true := beq_iff_eq.2 o1
       have o3 : (x : Int) ≤ y := by omega
       have o4 : (y : Int) ≤ x := by omega
       have O1 := Lib.hid o1
       clear o1
       go_wp2_with fail
       refine (CB.out _ HB6.out).mono ?_
       rintro e w' ⟨rfl, rfl⟩
       go_wp2
       go_ret
       exact ⟨rfl, HB3.out.trans (HB6.out.mono HB3.out.size)⟩)
end Go.Proofs.Ytflenhbkpaondaa
