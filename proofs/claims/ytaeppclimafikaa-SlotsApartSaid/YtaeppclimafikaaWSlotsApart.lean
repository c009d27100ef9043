/-
  WALK of SlotsApart.
-/
import Derived.Test.YtaeppclimafikaaSlotsJ
namespace Go.Proofs.Ytaeppclimafikaa
open Go.RowKit

/-- WHERE SlotsApart STANDS: the three tables. -/
structure ApAt2 (w W : World) (qa ga qb gb qc gc n k : Nat) (Sa Sb Sc : Tb) : Prop where
  ta : TA W qa ga n k Sa
  tb : TA W qb gb n k Sb
  tc : TA W qc gc k (n + 1) Sc
  ne : qa ≠ qb ∧ qa ≠ gb ∧ ga ≠ qb ∧ ga ≠ gb ∧ qa ≠ qc ∧ qa ≠ gc ∧ ga ≠ qc ∧ ga ≠ gc
  ne2 : qb ≠ qc ∧ qb ≠ gc ∧ gb ≠ qc ∧ gb ≠ gc
  ge : w.heap.size ≤ qa ∧ w.heap.size ≤ ga ∧ w.heap.size ≤ qb ∧ w.heap.size ≤ gb ∧ w.heap.size ≤ qc ∧ w.heap.size ≤ gc
  bel : Below w.heap.size w W
section
variable {w W W' : World} {qa ga qb gb qc gc n k : Nat} {Sa Sb Sc S' : Tb}
theorem ApAt2.a (h : ApAt2 w W qa ga qb gb qc gc n k Sa Sb Sc) (t : TA W' qa ga n k S') (o : Off (Q2 qa ga) W W') : ApAt2 w W' qa ga qb gb qc gc n k S' Sb Sc := by
  obtain ⟨n1, n2, n3, n4, n5, n6, n7, n8⟩ := h.ne
  exact ⟨t, h.tb.off o ⟨by rintro (e | e); exact n1 e.symm; exact n3 e.symm, by rintro (e | e); exact n2 e.symm; exact n4 e.symm⟩, h.tc.off o ⟨by rintro (e | e); exact n5 e.symm; exact n7 e.symm, by rintro (e | e); exact n6 e.symm; exact n8 e.symm⟩, h.ne, h.ne2, h.ge, h.bel.trans (o.below (by rintro x (rfl | rfl); exact h.ge.1; exact h.ge.2.1) h.bel.size)⟩
theorem ApAt2.b (h : ApAt2 w W qa ga qb gb qc gc n k Sa Sb Sc) (t : TA W' qb gb n k S') (o : Off (Q2 qb gb) W W') : ApAt2 w W' qa ga qb gb qc gc n k Sa S' Sc := by
  obtain ⟨n1, n2, n3, n4, n5, n6, n7, n8⟩ := h.ne
  obtain ⟨m1, m2, m3, m4⟩ := h.ne2
  exact ⟨h.ta.off o ⟨by rintro (e | e); exact n1 e; exact n2 e, by rintro (e | e); exact n3 e; exact n4 e⟩, t, h.tc.off o ⟨by rintro (e | e); exact m1 e.symm; exact m3 e.symm, by rintro (e | e); exact m2 e.symm; exact m4 e.symm⟩, h.ne, h.ne2, h.ge, h.bel.trans (o.below (by rintro x (rfl | rfl); exact h.ge.2.2.1; exact h.ge.2.2.2.1) h.bel.size)⟩
theorem ApAt2.c (h : ApAt2 w W qa ga qb gb qc gc n k Sa Sb Sc) (t : TA W' qc gc k (n + 1) S') (o : Off (Q2 qc gc) W W') : ApAt2 w W' qa ga qb gb qc gc n k Sa Sb S' := by
  obtain ⟨n1, n2, n3, n4, n5, n6, n7, n8⟩ := h.ne
  obtain ⟨m1, m2, m3, m4⟩ := h.ne2
  exact ⟨h.ta.off o ⟨by rintro (e | e); exact n5 e; exact n6 e, by rintro (e | e); exact n7 e; exact n8 e⟩, h.tb.off o ⟨by rintro (e | e); exact m1 e; exact m2 e, by rintro (e | e); exact m3 e; exact m4 e⟩, t, h.ne, h.ne2, h.ge, h.bel.trans (o.below (by rintro x (rfl | rfl); exact h.ge.2.2.2.2.1; exact h.ge.2.2.2.2.2) h.bel.size)⟩
theorem ApAt2.to (h : ApAt2 w W qa ga qb gb qc gc n k Sa Sb Sc) (hb : Below W.heap.size W W') : ApAt2 w W' qa ga qb gb qc gc n k Sa Sb Sc :=
  ⟨h.ta.below hb, h.tb.below hb, h.tc.below hb, h.ne, h.ne2, h.ge, h.bel.trans (hb.mono h.bel.size)⟩
theorem ApAt2.al (h : ApAt2 w W qa ga qb gb qc gc n k Sa Sb Sc) (o : Obj) : ApAt2 w (W.alloc o) qa ga qb gb qc gc n k Sa Sb Sc := h.to ((Below.refl _ W).alloc (Nat.le_refl _) o)
end
set_option maxRecDepth 100000 in
set_option maxHeartbeats 8000000 in
theorem slotsApart_walk (p0 k0 : Nat) (hp : p0 < 256) (hk : k0 < 256) (v v2 : Value) (l l2 : List Nat) (w : World) (hv : UB w v l) (hv2 : UB w v2 l2) :
    Calls Try.prog 9 #[.int .u8 (p0 : Int), .int .u8 (k0 : Int), v, v2] w fun e w' => e = .returned (.bool true) ∧ Below w.heap.size w w' := by
  have mixed : Try.prog.follows .mixedOrders = true := by kernel_rfl
  have HAw := Lib.hid (awake_calls w)
  have HSz := Lib.hid (fun W => sizes_calls p0 k0 hp hk W)
  obtain ⟨n, hn⟩ : ∃ n, p0 % 41 = n := ⟨_, rfl⟩
  obtain ⟨k, hk1⟩ : ∃ k, 1 + k0 % 6 = k := ⟨_, rfl⟩
  have hnl : n ≤ 40 := by omega
  have hkl : 1 ≤ k ∧ k ≤ 6 := by omega
  rw [hn, hk1] at HSz
  have HN1 := Lib.hid (fun W => new_calls n k (by omega) hkl.1 (by omega) W)
  have HN2 := Lib.hid (fun W => new_calls k (n + 1) (by omega) (by omega) (by omega) W)
  have hwn : IntKind.i64.wrap ((n : Int) + 1) = ((n + 1 : Nat) : Int) := by rw [IntKind.wrap_i64]; omega
  have HV := Lib.hid hv
  have HV2 := Lib.hid hv2
  obtain ⟨va, vc, rfl, hlc⟩ := hv.shape
  obtain ⟨va2, vc2, rfl, hlc2⟩ := hv2.shape
  obtain ⟨m, hm⟩ : ∃ m, l.length = m := ⟨_, rfl⟩
  obtain ⟨m2, hm2⟩ : ∃ m2, l2.length = m2 := ⟨_, rfl⟩
  have HM := Lib.hid hm
  have HM2 := Lib.hid hm2
  rw [hm] at hlc ⊢
  rw [hm2] at hlc2 ⊢
  obtain ⟨n0, hn00, hn1', hn2, -⟩ := minC m 200
  have hn0 : min (m : Int) 200 = (n0 : Int) := hn00
  clear hn00
  have hnv : n0 ≤ vc := by by_cases c : 0 < m; have := hlc c; omega; omega
  clear hv hv2 hn hk1 hp hk hm hm2 hlc hlc2
  go_enter Try.func9, Try.ntmps9
  go_wp2_with fail
  refine HAw.out.mono ?_
  rintro e w1 ⟨rfl, hb1⟩
  have HB1 := Lib.hid hb1
  clear hb1 HAw
  go_wp2_with (first | (go_at_call 15; refine (HSz.out _).mono ?_; rintro e w' ⟨rfl, rfl⟩) | fail)
  refine (HN1.out _).mono ?_
  rintro e w2 ⟨qa, ga, rfl, ta, hb2, a1, a2⟩
  have TA2 := Lib.hid ta; have HB2 := Lib.hid hb2; have A2 := Lib.hid (And.intro a1 a2)
  clear ta hb2 a1 a2
  go_wp2_with fail
  refine (HN1.out _).mono ?_
  rintro e w3 ⟨qb, gb, rfl, tb, hb3, b1, b2⟩
  have TB3 := Lib.hid tb; have HB3 := Lib.hid hb3; have B3 := Lib.hid (And.intro b1 b2)
  clear tb hb3 b1 b2
  go_wp2_with fail
  refine (HN2.out _).mono ?_
  rintro e w4 ⟨qc, gc, rfl, tc, hb4, c1, c2⟩
  have h0 : ApAt2 w w4 qa ga qb gb qc gc n k (newT n) (newT n) (newT k) := by
    have l2' := TA2.out.lt
    have l3' := TB3.out.lt
    have s2 := HB2.out.size
    have s3 := HB3.out.size
    have s1 := HB1.out.size
    have A := A2.out
    have B := B3.out
    exact ⟨(TA2.out.below HB3.out).below hb4, TB3.out.below hb4, tc, ⟨by omega, by omega, by omega, by omega, by omega, by omega, by omega, by omega⟩, ⟨by omega, by omega, by omega, by omega⟩, ⟨by omega, by omega, by omega, by omega, by omega, by omega⟩, ((HB1.out.trans (HB2.out.mono s1)).trans (HB3.out.mono (by omega))).trans (hb4.mono (by omega))⟩
  have H0 := Lib.hid h0
  clear h0 tc hb4 c1 c2 TA2 HB2 A2 TB3 HB3 B3 HN1 HN2 HSz HB1
  have hx1 : (0 : Int) ≤ (n0 : Int) := by omega
  have hx2 : (n0 : Int) ≤ (vc : Int) := by omega
  have hx3 : IntKind.i64.wrap (n0 : Int) = (n0 : Int) := by rw [IntKind.wrap_i64]; omega
  go_upto_region 9 with fail
  go_cut [74, 75, 76] from 70 to 73 (fun s74 s75 s76 wx => s74 = .slice va n0 vc ∧ s75 = .int .i64 (n0 : Int) ∧ s76 = .int .i64 0 ∧ wx = w4)
  case first =>
    go_wp2_with fail
    all_goals
      go_meet
      exact ⟨by first | rfl | (congr 1; omega), by first | rfl | (congr 1; omega), rfl, rfl⟩
  case rest =>
  obtain ⟨rfl, rfl, rfl, rfl⟩ := hcut
  go_wp2_with fail
  go_loopw [76] (fun s76 wr => ∃ (i : Nat) (Sc : Tb), i ≤ n0 ∧ s76 = .int .i64 (i : Int) ∧ ApAt2 w wr qa ga qb gb qc gc n k (stS n k (l.take i)) (stS n k (l.take i)) Sc) (fun s76 _ => n0 - (intOf s76).toNat)
  case atStart => exact ⟨0, _, Nat.zero_le _, rfl, H0.out⟩
  case round =>
    obtain ⟨i, Sc, hi, rfl, hA⟩ := hrel
    have HA := Lib.hid hA
    have hbw := hA.bel
    clear H0 hA
    by_cases hlt : i < n0
    · have hil : i < l.length := by rw [HM.out]; omega
      obtain ⟨bl, ol, rfl, x0, hy⟩ := (HV.out.below hbw).get (by rw [HM.out]) hil
      have hst := stS_snoc n k l i hil
      obtain ⟨y, hyy⟩ : ∃ y, fq l i = y := ⟨_, rfl⟩
      rw [hyy] at x0 hy hst
      obtain ⟨S, hS⟩ : ∃ S, stS n k (l.take i) = S := ⟨_, rfl⟩
      rw [hS] at hst HA
      have HSa := Lib.hid (step_calls HA.out.ta y hy)
      have HSb := Lib.hid (fun W (h : TA W qb gb n k S) => step_calls h y hy)
      obtain ⟨P, hP⟩ : ∃ P, (stepF n k S y).1.1 = P := ⟨_, rfl⟩
      obtain ⟨L, hL⟩ : ∃ L, (stepF n k S y).1.2 = L := ⟨_, rfl⟩
      obtain ⟨bo, hbo⟩ : ∃ bo, (stepF n k S y).2.1 = bo := ⟨_, rfl⟩
      obtain ⟨er, her⟩ : ∃ er, (stepF n k S y).2.2.1 = er := ⟨_, rfl⟩
      rw [hP, hL, hbo, her, ← hst] at HSa HSb
      have hi1 : (i : Int) < (n0 : Int) := by omega
      have hwi : IntKind.i64.wrap ((i : Int) + 1) = (i : Int) + 1 := by rw [IntKind.wrap_i64]; omega
      clear hP hL hbo her hst hS hyy hbw hil hn0
      go_upto_if 91 with (go_at_call 17; refine HSa.out.mono ?_; rintro e w5 ⟨rfl, t5, o5⟩; have HA5 := Lib.hid ((HA.out.a t5 o5).al (.cells #[.int .i64 (P : Int), .int .i64 (L : Int)] 26)); have HX5 := Lib.hid (World.alloc_heap_new w5 (.cells #[.int .i64 (P : Int), .int .i64 (L : Int)] 26)); have HL5 := Lib.hid (And.intro (HA.out.a t5 o5).tb.lt (HA.out.a t5 o5).tc.lt); clear t5 o5)
      obtain ⟨d, hd2⟩ : ∃ d, decide (i < m2) = d := ⟨_, rfl⟩
      simp only [hd2]
      go_cut [] from 92 to 97 (fun wx => ∃ Sc', ApAt2 w wx qa ga qb gb qc gc n k (stS n k (l.take (i + 1))) S Sc' ∧ wx.heap[w5.heap.size]? = some (.cells #[.int .i64 (P : Int), .int .i64 (L : Int)] 26 (0, 0)))
      case first =>
        cases d with
        | true =>
          have h2 : i < m2 := of_decide_eq_true hd2
          have hi3 : (i : Int) < (m2 : Int) := by omega
          obtain ⟨bl2, ol2, rfl, x1, hy2⟩ := (HV2.out.below HA5.out.bel).get (by rw [HM2.out]) (i := i) (by rw [HM2.out]; exact h2)
          obtain ⟨y2, hy2e⟩ : ∃ y2, fq l2 i = y2 := ⟨_, rfl⟩
          rw [hy2e] at x1 hy2
          have HSc := Lib.hid (step_calls HA5.out.tc y2 hy2)
          clear h2 hy2e hd2
          go_wp2_with (go_at_call 17; refine HSc.out.mono ?_; rintro e w6 ⟨rfl, t6, o6⟩; have HA6 := Lib.hid (HA5.out.c t6 o6); have O6 := Lib.hid o6; clear t6 o6)
          go_meet
          have hl := HL5.out
          exact ⟨_, HA6.out, (O6.out.block _ (Array.getElem?_eq_some_iff.1 HX5.out).1 (by rintro (e | e) <;> omega)).trans HX5.out⟩
        | false =>
          clear hd2
          go_wp2_with fail
          go_meet
          exact ⟨Sc, HA5.out, HX5.out⟩
      case rest =>
      obtain ⟨Sc', hA6, hX6⟩ := hcut
      clear hd2
      have HA6 := Lib.hid hA6
      have HX6 := Lib.hid hX6
      clear hA6 hX6 HA5 HX5
      have hne := fun W => neqR (P : Int) (L : Int) (P : Int) (L : Int) W
      have hdd : decide (((P : Int), (L : Int)) = ((P : Int), (L : Int))) = true := decide_eq_true rfl
      rw [hdd, Bool.not_true] at hne
      clear hdd
      have hb1 : (bo != bo) = false := by simp
      have he1 : ((er : Int) != (er : Int)) = false := by simp
      go_wp2_with (first
        | (go_at_call 17; refine (HSb.out _ HA6.out.tb).mono ?_; rintro e w7 ⟨rfl, t7, o7⟩
           have hx7 : (w7.alloc (.cells #[.int .i64 (P : Int), .int .i64 (L : Int)] 26)).heap[w5.heap.size]? = some (.cells #[.int .i64 (P : Int), .int .i64 (L : Int)] 26 (0, 0)) := by
             have hl := HL5.out
             exact box_al ((o7.block _ (Array.getElem?_eq_some_iff.1 HX6.out).1 (by rintro (e | e) <;> omega)).trans HX6.out) _
           have HA7 := Lib.hid ((HA6.out.b t7 o7).al (.cells #[.int .i64 (P : Int), .int .i64 (L : Int)] 26))
           have y0 : (w7.alloc (.cells #[.int .i64 (P : Int), .int .i64 (L : Int)] 26)).cell? ⟨w5.heap.size, 0, none⟩ = some (.int .i64 (P : Int)) := by simp [World.cell?, hx7]
           have y1 : (w7.alloc (.cells #[.int .i64 (P : Int), .int .i64 (L : Int)] 26)).cell? ⟨w5.heap.size, 1, none⟩ = some (.int .i64 (L : Int)) := by simp [World.cell?, hx7]
           clear t7 o7 hx7)
        | fail)
      go_roundw
      case rel => exact ⟨i + 1, Sc', by omega, by go_num, HA7.out⟩
      case measure => simp [intOf]; omega
    · obtain rfl : i = n0 := by omega
      have hlt2 : ¬ (i : Int) < (i : Int) := by omega
      have HRa := Lib.hid (refs_calls HA.out.ta)
      obtain ⟨S, hS⟩ : ∃ S, stS n k (l.take i) = S := ⟨_, rfl⟩
      rw [hS] at HA HRa
      clear hbw hS hn0
      have hfl : S.free.length ≤ 100000 := by have := HA.out.ta.ok.sum; omega
      have hrl : (refsU S n).length ≤ 100000 := by rw [refsU_len]; have := cnt_le n S.tk; omega
      go_wp2_with fail
      refine HRa.out.mono ?_
      rintro e w5 ⟨v5, rfl, hr5, hb5⟩
      have HA5 := Lib.hid (HA.out.to hb5)
      have HR5 := Lib.hid hr5
      clear hr5 hb5
      go_wp2_with fail
      refine (refs_calls HA5.out.tb).mono ?_
      rintro e w6 ⟨v6, rfl, hr6, hb6⟩
      have HA6 := Lib.hid (HA5.out.to hb6)
      have HE := Lib.hid (equalRs_calls _ _ _ _ _ _ (HR5.out.below hb6) hr6 hrl)
      clear hr6 hb6
      go_wp2_with fail
      refine HE.out.mono ?_
      rintro e w7 ⟨rfl, hb7⟩
      have HA7 := Lib.hid (HA6.out.to hb7)
      clear hb7
      go_wp2_with fail
      refine (Free_calls HA7.out.ta).mono ?_
      rintro e w8 ⟨v8, rfl, hr8, hb8⟩
      have HA8 := Lib.hid (HA7.out.to hb8)
      have HR8 := Lib.hid hr8
      clear hr8 hb8
      go_wp2_with fail
      refine (Free_calls HA8.out.tb).mono ?_
      rintro e w9 ⟨v9, rfl, hr9, hb9⟩
      have HA9 := Lib.hid (HA8.out.to hb9)
      have HE2 := Lib.hid (equalNs_calls _ _ _ _ _ _ (HR8.out.below hb9) hr9 hfl)
      clear hr9 hb9
      go_wp2_with fail
      refine HE2.out.mono ?_
      rintro e w10 ⟨rfl, hb10⟩
      have HA10 := Lib.hid (HA9.out.to hb10)
      clear hb10
      go_wp2_with fail
      go_ret
      exact ⟨rfl, HA10.out.bel⟩
end Go.Proofs.Ytaeppclimafikaa
