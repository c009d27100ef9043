/-
  THE WALK of fermatalaw04.NameOrder: it returns true, and writes nothing that was there.
-/
import Derived.Test.YtlbnkacdeghigaaNameAwake
import Derived.Test.YtlbnkacdeghigaaNameOrdP
import Derived.Deep.CutBlock
import Derived.Deep.DeepCutAuto
import Derived.BigGuard
namespace Go.Proofs.Ytlbnkacdeghigaa
open Go.RowKit Go.Shelf

set_option maxRecDepth 100000 in
set_option maxHeartbeats 8000000 in
theorem nameOrder_walk (p q r : Nat) (hp : p < 65536) (hq : q < 65536) (hr : r < 65536) (w : World) :
    Calls Try.prog 5 #[.int .u16 (p : Int), .int .u16 (q : Int), .int .u16 (r : Int)] w fun e w' => e = .returned (.bool true) ∧ Below w.heap.size w w' := by
  have AW := Lib.hid (fun W => awake4_calls W)
  have MP := Lib.hid (fun W => made_calls p hp W)
  have MQ := Lib.hid (fun W => made_calls q hq W)
  have MR := Lib.hid (fun W => made_calls r hr W)
  have la := made_len p
  have lb := made_len q
  have lc := made_len r
  have C1 := Lib.hid (fun W => by have h := compare_calls (madeN p) (madeN q) W (by omega) (by omega); rw [(compare_made p q).1, (compare_made p q).2] at h; exact h)
  have C2 := Lib.hid (fun W => by have h := compare_calls (madeN q) (madeN p) W (by omega) (by omega); rw [(compare_made q p).1, (compare_made q p).2, ord_anti (made_right p) (made_right q)] at h; exact h)
  have C3 := Lib.hid (fun W => by have h := compare_calls (madeN q) (madeN r) W (by omega) (by omega); rw [(compare_made q r).1, (compare_made q r).2] at h; exact h)
  have C4 := Lib.hid (fun W => by have h := compare_calls (madeN p) (madeN r) W (by omega) (by omega); rw [(compare_made p r).1, (compare_made p r).2] at h; exact h)
  have PA := Lib.hid (fun W => by have h := Parts_calls (madeN p) (by omega) W; rw [(parts_made p).1, (parts_made p).2] at h; exact h)
  have hjb := join_back (made_right p)
  have hpl := madeP_len p
  have JA := Lib.hid (fun v W (h : TRow W v (partsL (madeN p))) => by
    have h := join_calls v (partsL (madeN p)) W h (by omega) (by rw [glued_joinP, joinP_parts]; omega)
    rw [hjb.1, hjb.2] at h; exact h)
  have U1 := Lib.hid (fun W => by have h := Under_calls (madeN p) (madeN q) W (by omega) (by omega); rw [under_made] at h; exact h)
  have U2 := Lib.hid (fun W => Under_calls (madeN r) (nm p) W (by omega) (by have := nm_len p; omega))
  have U3 := Lib.hid (fun W => Under_calls (madeN q) (nm p) W (by omega) (by have := nm_len p; omega))
  have U4 := Lib.hid (fun W => by have h := Under_calls (madeN r) (madeN p) W (by omega) (by omega); rw [under_made] at h; exact h)
  have U5 := Lib.hid (fun W => by have h := Under_calls (madeN r) (madeN q) W (by omega) (by omega); rw [under_made] at h; exact h)
  have hund := Lib.hid (fun h => und_ge (made_right p) (made_right q) (show undN (madeN p) (madeN q) = true from h))
  have hbet := Lib.hid (between_made p q r)
  have htr := Lib.hid (fun h1 h2 => under_tr (madeN p) (madeN q) (madeN r) h1 h2)
  have hxz := Lib.hid (show orderN (madeN p) (madeN q) ≤ 0 → orderN (madeN q) (madeN r) ≤ 0 → orderN (madeN p) (madeN r) ≤ 0 from ord_tr (made_right q) (made_right r))
  have hxz2 := Lib.hid (show 0 ≤ orderN (madeN p) (madeN q) → 0 ≤ orderN (madeN q) (madeN r) → 0 ≤ orderN (madeN p) (madeN r) from fun h1 h2 => by
    have e1 := ord_anti (made_right p) (made_right q)
    have e2 := ord_anti (made_right q) (made_right r)
    have e3 := ord_anti (made_right p) (made_right r)
    have := ord_tr (a := madeN r) (b := madeN q) (c := madeN p) (made_right q) (made_right p) (by omega) (by omega)
    omega)
  have heq0 := Lib.hid (show orderN (madeN p) (madeN q) = 0 → ((⟨(madeN p).toArray⟩ : ByteArray).toList == (⟨(madeN q).toArray⟩ : ByteArray).toList) = true from fun h => by
    rw [Lib.toList_data, Lib.toList_data, ord_zero (made_right q) h]; simp)
  have heq1 := Lib.hid (show orderN (madeN p) (madeN q) ≠ 0 → ((⟨(madeN p).toArray⟩ : ByteArray).toList == (⟨(madeN q).toArray⟩ : ByteArray).toList) = false from fun h => by
    rw [Lib.toList_data, Lib.toList_data]
    refine beq_eq_false_iff_ne.2 (fun e => h ?_)
    have e2 : madeN p = madeN q := e
    rw [e2, ord_refl (made_right q)])
  have hbx : orderN (madeN p) (madeN q) = -1 ∨ orderN (madeN p) (madeN q) = 0 ∨ orderN (madeN p) (madeN q) = 1 ∨ True := .inr (.inr (.inr trivial))
  clear hbx
  obtain ⟨pt, hpt⟩ : ∃ pt, partsL (madeN p) = nm p :: pt := ⟨_, made_parts p⟩
  have hL0 := Lib.hid (show (partsL (madeN p))[0]? = some (nm p) by rw [hpt]; rfl)
  clear hjb la lb lc
  have hrng1 := ord_range p q
  have hrng2 := ord_range q r
  have hrng3 := ord_range p r
  clear hpt
  generalize partsL (madeN p) = L at *
  generalize orderN (madeN p) (madeN q) = x at *
  generalize orderN (madeN q) (madeN r) = z at *
  generalize orderN (madeN p) (madeN r) = y at *
  generalize undN (madeN p) (madeN q) = u at *
  generalize undN (madeN r) (madeN p) = v1 at *
  generalize undN (madeN r) (madeN q) = v2 at *
  generalize underN (madeN r) (nm p) = t1 at *
  generalize underN (madeN q) (nm p) = t2 at *
  unfold str at *
  have hAA : ((⟨(madeN p).toArray⟩ : ByteArray).toList != (⟨(madeN p).toArray⟩ : ByteArray).toList) = false := by simp
  generalize (⟨(madeN p).toArray⟩ : ByteArray) = A at *
  generalize (⟨(madeN q).toArray⟩ : ByteArray) = B at *
  generalize (⟨(madeN r).toArray⟩ : ByteArray) = C at *
  go_enter Try.func5, Try.ntmps5
  go_wp2_with fail
  refine (AW.out _).mono ?_
  rintro e w1 ⟨rfl, hb1⟩
  have HB1 := Lib.hid hb1
  clear hb1
  go_wp2_with fail
  refine (MP.out _).mono ?_
  rintro e w2 ⟨rfl, hb2⟩
  have HB2 := Lib.hid (HB1.out.trans (hb2.mono HB1.out.size))
  clear hb2
  go_wp2_with fail
  refine (MQ.out _).mono ?_
  rintro e w3 ⟨rfl, hb3⟩
  have HB3 := Lib.hid (HB2.out.trans (hb3.mono HB2.out.size))
  clear hb3
  go_wp2_with fail
  refine (MR.out _).mono ?_
  rintro e w4 ⟨rfl, hb4⟩
  have HB4 := Lib.hid (HB3.out.trans (hb4.mono HB3.out.size))
  clear hb4
  go_wp2_with fail
  refine (C1.out _).mono ?_
  rintro e w5 ⟨rfl, hb5⟩
  have HB5 := Lib.hid (HB4.out.trans (hb5.mono HB4.out.size))
  clear hb5
  go_wp2_with fail
  refine (C2.out _).mono ?_
  rintro e w6 ⟨rfl, hb6⟩
  have HB6 := Lib.hid (HB5.out.trans (hb6.mono HB5.out.size))
  clear hb6
  go_wp2_with fail
  refine (C3.out _).mono ?_
  rintro e w7 ⟨rfl, hb7⟩
  have HB7 := Lib.hid (HB6.out.trans (hb7.mono HB6.out.size))
  clear hb7
  go_wp2_with fail
  refine (C4.out _).mono ?_
  rintro e w8 ⟨rfl, hb8⟩
  have HB8 := Lib.hid (HB7.out.trans (hb8.mono HB7.out.size))
  clear hb8
  go_wp2_with fail
  refine (PA.out _).mono ?_
  rintro e w9 ⟨pa, pc, rfl, hrow, hb9⟩
  have HB9 := Lib.hid (HB8.out.trans (hb9.mono HB8.out.size))
  have HT := Lib.hid (trow_own hrow)
  clear hb9 hrow
  go_wp2_with fail
  refine (JA.out _ _ HT.out).mono ?_
  rintro e w10 ⟨rfl, hb10⟩
  have HB10 := Lib.hid (HB9.out.trans (hb10.mono HB9.out.size))
  have HT2 := Lib.hid (HT.out.below hb10)
  clear hb10
  obtain ⟨b, off, rfl, hcell⟩ : ∃ b off, pa = some ⟨b, off, none⟩ ∧ w10.cell? ⟨b, off, none⟩ = some (.string ⟨(nm p).toArray⟩) := by
    rcases HT2.out with ⟨h, _⟩ | ⟨b, o, c, hv, _, _, hc⟩
    · rw [h] at hL0; have := hL0.out; cases this
    · simp only [Value.slice.injEq] at hv
      exact ⟨b, o, hv.1, hc 0 (nm p) hL0.out⟩
  have HC := Lib.hid hcell
  have hbl := Lib.hid (block_lt_of_cell hcell)
  clear hcell
  go_upto_region 10 with fail
  go_cut [130] (fun t wx => t = .bool false ∧ wx = w10)
  case first =>
    have h1 := hxz.out
    have h2 := hxz2.out
    have hl1 : decide ((L.length : Int) < 1) = false := decide_eq_false (by omega)
    have hl2 : decide ((3 : Int) < (L.length : Int)) = false := decide_eq_false (by omega)
    generalize L.length = n at *
    rcases (by omega : x = -1 ∨ x = 0 ∨ x = 1) with rfl | rfl | rfl <;> rcases (by omega : z = -1 ∨ z = 0 ∨ z = 1) with rfl | rfl | rfl
    all_goals first
      | have hy1 : decide (0 < y) = false := decide_eq_false (by have := h1 (by omega) (by omega); omega)
      | have hy1 := trivial
    all_goals first
      | have hy2 : decide (y < 0) = false := decide_eq_false (by have := h2 (by omega) (by omega); omega)
      | have hy2 := trivial
    all_goals first
      | have hab := heq0.out (by omega)
      | have hab := heq1.out (by omega)
    all_goals (clear h1 h2 hrng1 hrng2 hrng3 hpl)
    all_goals (go_wp2_with fail; go_meet; exact ⟨rfl, rfl⟩)
  case rest =>
    obtain ⟨rfl, rfl⟩ := hcut
    go_wp2_with fail
    refine (U1.out _).mono ?_
    rintro e wv0 ⟨rfl, hb⟩
    have HD0 := Lib.hid (HB10.out.trans (hb.mono HB10.out.size))
    have hcl : wv0.cell? ⟨b, off, none⟩ = some (.string ⟨(nm p).toArray⟩) := (hb.cell (p := ⟨b, off, none⟩) hbl.out).trans HC.out
    clear hb
    have hL1 : (0 : Int) < (L.length : Int) := by omega
    cases u
    · skip
      by_cases hx : x ≤ 0
      · by_cases hz : z ≤ 0
        · have hb2 := hbet.out hx hz
          clear hpl
          go_wp2_with fail
          refine (U2.out _).mono ?_
          rintro e wv1 ⟨rfl, hb⟩
          have HD1 := Lib.hid (HD0.out.trans (hb.mono HD0.out.size))
          clear hb
          cases t1
          · skip
            go_wp2
            go_ret
            exact ⟨rfl, HD1.out⟩
          · have e1 : t2 = true := hb2 (by first | rfl | trivial)
            subst e1
            go_wp2_with fail
            refine (U3.out _).mono ?_
            rintro e wv2 ⟨rfl, hb⟩
            have HD2 := Lib.hid (HD1.out.trans (hb.mono HD1.out.size))
            clear hb
            go_wp2
            go_ret
            exact ⟨rfl, HD2.out⟩
        · clear hpl
          go_wp2
          go_ret
          exact ⟨rfl, HD0.out⟩
      · clear hpl
        go_wp2
        go_ret
        exact ⟨rfl, HD0.out⟩
    · have hx0 : ¬ x < 0 := by have := hund.out (by first | rfl | trivial); omega
      by_cases hx : x ≤ 0
      · by_cases hz : z ≤ 0
        · have hb2 := hbet.out hx hz
          clear hpl
          go_wp2_with fail
          refine (U2.out _).mono ?_
          rintro e wv1 ⟨rfl, hb⟩
          have HD1 := Lib.hid (HD0.out.trans (hb.mono HD0.out.size))
          clear hb
          cases t1
          · skip
            go_wp2_with fail
            refine (U4.out _).mono ?_
            rintro e wv2 ⟨rfl, hb⟩
            have HD2 := Lib.hid (HD1.out.trans (hb.mono HD1.out.size))
            clear hb
            go_wp2_with fail
            refine (U4.out _).mono ?_
            rintro e wv3 ⟨rfl, hb⟩
            have HD3 := Lib.hid (HD2.out.trans (hb.mono HD2.out.size))
            clear hb
            cases v1
            · go_wp2
              go_ret
              exact ⟨rfl, HD3.out⟩
            · have e2 : v2 = true := htr.out (by first | rfl | trivial) (by first | rfl | trivial)
              subst e2
              go_wp2_with fail
              refine (U5.out _).mono ?_
              rintro e wv4 ⟨rfl, hb⟩
              have HD4 := Lib.hid (HD3.out.trans (hb.mono HD3.out.size))
              clear hb
              go_wp2
              go_ret
              exact ⟨rfl, HD4.out⟩
          · have e1 : t2 = true := hb2 (by first | rfl | trivial)
            subst e1
            go_wp2_with fail
            refine (U3.out _).mono ?_
            rintro e wv2 ⟨rfl, hb⟩
            have HD2 := Lib.hid (HD1.out.trans (hb.mono HD1.out.size))
            clear hb
            go_wp2_with fail
            refine (U4.out _).mono ?_
            rintro e wv3 ⟨rfl, hb⟩
            have HD3 := Lib.hid (HD2.out.trans (hb.mono HD2.out.size))
            clear hb
            go_wp2_with fail
            refine (U4.out _).mono ?_
            rintro e wv4 ⟨rfl, hb⟩
            have HD4 := Lib.hid (HD3.out.trans (hb.mono HD3.out.size))
            clear hb
            cases v1
            · go_wp2
              go_ret
              exact ⟨rfl, HD4.out⟩
            · have e2 : v2 = true := htr.out (by first | rfl | trivial) (by first | rfl | trivial)
              subst e2
              go_wp2_with fail
              refine (U5.out _).mono ?_
              rintro e wv5 ⟨rfl, hb⟩
              have HD5 := Lib.hid (HD4.out.trans (hb.mono HD4.out.size))
              clear hb
              go_wp2
              go_ret
              exact ⟨rfl, HD5.out⟩
        · clear hpl
          go_wp2_with fail
          refine (U4.out _).mono ?_
          rintro e wv1 ⟨rfl, hb⟩
          have HD1 := Lib.hid (HD0.out.trans (hb.mono HD0.out.size))
          clear hb
          go_wp2_with fail
          refine (U4.out _).mono ?_
          rintro e wv2 ⟨rfl, hb⟩
          have HD2 := Lib.hid (HD1.out.trans (hb.mono HD1.out.size))
          clear hb
          cases v1
          · go_wp2
            go_ret
            exact ⟨rfl, HD2.out⟩
          · have e2 : v2 = true := htr.out (by first | rfl | trivial) (by first | rfl | trivial)
            subst e2
            go_wp2_with fail
            refine (U5.out _).mono ?_
            rintro e wv3 ⟨rfl, hb⟩
            have HD3 := Lib.hid (HD2.out.trans (hb.mono HD2.out.size))
            clear hb
            go_wp2
            go_ret
            exact ⟨rfl, HD3.out⟩
      · clear hpl
        go_wp2_with fail
        refine (U4.out _).mono ?_
        rintro e wv1 ⟨rfl, hb⟩
        have HD1 := Lib.hid (HD0.out.trans (hb.mono HD0.out.size))
        clear hb
        go_wp2_with fail
        refine (U4.out _).mono ?_
        rintro e wv2 ⟨rfl, hb⟩
        have HD2 := Lib.hid (HD1.out.trans (hb.mono HD1.out.size))
        clear hb
        cases v1
        · go_wp2
          go_ret
          exact ⟨rfl, HD2.out⟩
        · have e2 : v2 = true := htr.out (by first | rfl | trivial) (by first | rfl | trivial)
          subst e2
          go_wp2_with fail
          refine (U5.out _).mono ?_
          rintro e wv3 ⟨rfl, hb⟩
          have HD3 := Lib.hid (HD2.out.trans (hb.mono HD2.out.size))
          clear hb
          go_wp2
          go_ret
          exact ⟨rfl, HD3.out⟩
end Go.Proofs.Ytlbnkacdeghigaa
