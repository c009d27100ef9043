/-
  WALK of SlotsLives.
-/
import Derived.Test.YtaeppclimafikaaSlotsJ
import Derived.Test.YtaeppclimafikaaSlotsLivesP
namespace Go.Proofs.Ytaeppclimafikaa
open Go.RowKit

set_option maxRecDepth 100000 in
set_option maxHeartbeats 8000000 in
theorem slotsLives_walk (p0 k0 : Nat) (hp : p0 < 256) (hk : k0 < 256) (v : Value) (l : List Nat)  (w : World) (hv : UB w v l)  :
    Calls Try.prog 7 #[.int .u8 (p0 : Int), .int .u8 (k0 : Int), v] w fun e w' => e = .returned (.bool true) ∧ Below w.heap.size w w' := by
  have mixed : Try.prog.follows .mixedOrders = true := by kernel_rfl
  have HAw := Lib.hid (awake_calls w)
  have HSz := Lib.hid (fun W => sizes_calls p0 k0 hp hk W)
  obtain ⟨n, hn⟩ : ∃ n, p0 % 41 = n := ⟨_, rfl⟩
  obtain ⟨k, hk1⟩ : ∃ k, 1 + k0 % 6 = k := ⟨_, rfl⟩
  have hnl : n ≤ 40 := by omega
  have hkl : 1 ≤ k ∧ k ≤ 6 := by omega
  rw [hn, hk1] at HSz
  have HN1 := Lib.hid (fun W => new_calls n k (by omega) hkl.1 (by omega) W)
  have HV := Lib.hid hv
  obtain ⟨va, vc, rfl, hlc⟩ := hv.shape
  obtain ⟨m, hm⟩ : ∃ m, l.length = m := ⟨_, rfl⟩
  have HM := Lib.hid hm
  rw [hm] at hlc ⊢
  obtain ⟨n0, hn00, hn1', hn2, hn3⟩ := minC m 300
  have hn0 : min (m : Int) 300 = (n0 : Int) := hn00
  have hnv : n0 ≤ vc := by by_cases c : 0 < m; have := hlc c; omega; omega
  clear hn00 hn3 hv hn hk1 hp hk hm hlc
  go_enter Try.func7, Try.ntmps7
  go_wp2_with fail
  refine HAw.out.mono ?_
  rintro e w1 ⟨rfl, hb1⟩
  have HB1 := Lib.hid hb1
  clear hb1 HAw
  go_wp2_with (first | (go_at_call 15; refine (HSz.out _).mono ?_; rintro e w' ⟨rfl, rfl⟩) | fail)
  refine (HN1.out _).mono ?_
  rintro e w2 ⟨q, g, rfl, ta, hb2, a1, a2⟩
  obtain ⟨B, hB⟩ : ∃ B, w2.heap.size = B := ⟨_, rfl⟩
  have h0 : OnAt w w2 q g B n k (newT n) := by
    have s1 := HB1.out.size
    have s2 := hb2.size
    have := ta.lt
    exact ⟨ta, by omega, by omega, by omega, HB1.out.trans (hb2.mono s1)⟩
  have H0 := Lib.hid h0
  have HBe := Lib.hid hB
  clear ta hb2 a1 a2 h0 hB HN1 HSz HB1
  have hx1 : (0 : Int) ≤ (n0 : Int) := by omega
  have hx2 : (n0 : Int) ≤ (vc : Int) := by omega
  have hx3 : IntKind.i64.wrap (n0 : Int) = (n0 : Int) := by rw [IntKind.wrap_i64]; omega
  go_wp2_with fail
  have HL0 := Lib.hid (LivOk.new n k)
  have hnk : n * k ≤ 240 := Nat.le_trans (Nat.mul_le_mul hnl hkl.2) (by omega)
  go_loopw [11, 12] (fun s11 s12 wr => ∃ (a t : Nat) (S : Tb), s12 = .int .i64 (a : Int) ∧ s11 = .int .i64 (t : Int) ∧ OnAt w wr q g B n k S ∧ LivOk n k S t a) (fun _ s12 _ => 1001 - (intOf s12).toNat)
  case atStart => exact ⟨0, 0, _, rfl, rfl, H0.out, HL0.out⟩
  case round =>
    obtain ⟨a, t, S, rfl, rfl, hA, hL⟩ := hrel
    have HA := Lib.hid hA
    have HLv := Lib.hid hL
    have hab := hL.bound hA.tab.ok
    have ha1 : (a : Int) ≤ 1000 := by omega
    have htb : t ≤ 240 := by omega
    have haw : IntKind.i64.wrap ((a : Int) + 1) = (a : Int) + 1 := by rw [IntKind.wrap_i64]; omega
    have htw : IntKind.i64.wrap ((t : Int) + 1) = (t : Int) + 1 := by rw [IntKind.wrap_i64]; omega
    obtain ⟨a3, ha3⟩ : ∃ a3, a % 3 = a3 := ⟨_, rfl⟩
    have ha4 : (a : Int).tmod 3 = (a3 : Int) := by rw [Int.tmod_eq_emod_of_nonneg (by omega)]; omega
    have ha5 : IntKind.i64.wrap (a3 : Int) = (a3 : Int) := by rw [IntKind.wrap_i64]; omega
    clear H0 HL0 hA hL hab ha3
    cases hf : S.free with
    | cons p rest =>
      have HTk := Lib.hid (take_yes HA.out.tab hf)
      have HLt := Lib.hid (HLv.out.take HA.out.tab.ok hf)
      have hct := HA.out.tab.ok.cnt_take hf
      obtain ⟨L, hL⟩ : ∃ L, S.life p + 1 = L := ⟨_, rfl⟩
      rw [hL] at HTk
      clear hf hL
      go_upto_region 12 with (go_at_call 23; refine HTk.out.mono ?_; rintro e w5 ⟨rfl, t5, o5⟩; have HA5 := Lib.hid ((HA.out.step t5 o5).al (.cells #[.int .i64 (p : Int), .int .i64 (L : Int)] 26)); clear t5 o5)
      by_cases h3 : 0 < a3
      · have h30 : (a3 : Int) > 0 := by omega
        clear h3
        go_wp2_with fail
        go_roundw
        case rel => exact ⟨a + 1, t + 1, _, by go_num, by go_num, HA5.out, HLt.out⟩
        case measure => simp [intOf]; omega
      · have h30 : ¬ (a3 : Int) > 0 := by omega
        clear h3
        obtain ⟨c, hc⟩ : ∃ c, cnt n (takeT S p rest).tk = c := ⟨_, rfl⟩
        have HC := Lib.hid hc
        have hc0 : 0 < c := by rw [← hc]; omega
        have hcn : c ≤ n := by rw [← hc]; exact cnt_le _ _
        have hcz : ((c : Int) == 0) = false := by rw [beq_eq_false_iff_ne]; omega
        have HRf := Lib.hid (refs_calls HA5.out.tab)
        clear hc
        go_upto_if 63 with (go_at_call 21; refine HRf.out.mono ?_; rintro e w6 ⟨v6, rfl, hr6, hb6⟩; obtain ⟨ra, rc, rfl⟩ := row_shape hr6; have HR6 := Lib.hid hr6; have HA6 := Lib.hid (HA5.out.to hb6); clear hr6 hb6; rw [refsU_len, HC.out])
        obtain ⟨d, hd⟩ : ∃ d, decide (0 < m) = d := ⟨_, rfl⟩
        simp only [hd]
        go_cut [16] from 64 to 72 (fun s16 wx => ∃ x : Nat, x < 256 ∧ s16 = .int .i64 (x : Int) ∧ wx = w6)
        case first =>
          cases d with
          | true =>
            have hm0 : 0 < m := of_decide_eq_true hd
            have hn0p : 0 < n0 := by omega
            obtain ⟨j, hj⟩ : ∃ j, a % n0 = j := ⟨_, rfl⟩
            have hjm : j < n0 := by rw [← hj]; exact Nat.mod_lt _ hn0p
            have hj1 : (a : Int).tmod (n0 : Int) = (j : Int) := by rw [Int.tmod_eq_emod_of_nonneg (by omega), ← Int.natCast_emod, hj]
            have hj2 : IntKind.i64.wrap (j : Int) = (j : Int) := by rw [IntKind.wrap_i64]; omega
            have hj3 : (j : Int) < (m : Int) := by omega
            have hn0z : ((n0 : Int) == 0) = false := by rw [beq_eq_false_iff_ne]; omega
            have hn0y : ¬ (n0 : Int) = 0 := by omega
            obtain ⟨bl, ol, rfl, x0, hy⟩ := (HV.out.below HA6.out.bel).get (by rw [HM.out]) (i := j) (by rw [HM.out]; omega)
            obtain ⟨y, hyy⟩ : ∃ y, fq l j = y := ⟨_, rfl⟩
            rw [hyy] at x0 hy
            have hy2 : IntKind.i64.wrap (y : Int) = (y : Int) := by rw [IntKind.wrap_i64]; omega
            clear hd hm0 hj hyy
            go_wp2_with fail
            go_meet
            exact ⟨y, hy, rfl, rfl⟩
          | false =>
            clear hd
            go_wp2_with fail
            go_meet
            exact ⟨0, by omega, rfl, rfl⟩
        case rest =>
        obtain ⟨x, hx, rfl, rfl⟩ := hcut
        obtain ⟨j, hj⟩ : ∃ j, x % c = j := ⟨_, rfl⟩
        have hjc : j < c := by rw [← hj]; exact Nat.mod_lt _ hc0
        have hj1 : (x : Int).tmod (c : Int) = (j : Int) := by rw [Int.tmod_eq_emod_of_nonneg (by omega), ← Int.natCast_emod, hj]
        have hj2 : IntKind.i64.wrap (j : Int) = (j : Int) := by rw [IntKind.wrap_i64]; omega
        have hj3 : (j : Int) < (c : Int) := by omega
        have hcy : ¬ (c : Int) = 0 := by omega
        obtain ⟨gr, cap, e1, hcp, -, z0, z1⟩ := HR6.out.get (i := j) (by rw [refsU_len, HC.out]; exact hjc)
        rw [refsU_len, HC.out] at e1 hcp
        obtain ⟨rfl, rfl⟩ : ra = some ⟨gr, 0, none⟩ ∧ rc = cap := by cases e1; exact ⟨rfl, rfl⟩
        rw [refsU_get (takeT S p rest) n j (by rw [HC.out]; exact hjc)] at z0 z1
        dsimp only at z0 z1
        have hpl := pl_mem.1 (fq_mem (l := pl n (takeT S p rest).tk) (j := j) (by show j < cnt n (takeT S p rest).tk; rw [HC.out]; exact hjc))
        obtain ⟨P, hP⟩ : ∃ P, fq (pl n (takeT S p rest).tk) j = P := ⟨_, rfl⟩
        rw [hP] at z0 z1 hpl
        have HG := Lib.hid (give_yes HA6.out.tab hpl.1 hpl.2)
        have HLi := Lib.hid (HLt.out.back hpl.1 hpl.2)
        generalize (takeT S p rest).life P = L at z0 z1 HG
        clear hd hj e1 hP hpl
        go_wp2_with (go_at_call 24; refine HG.out.mono ?_; rintro e w7 ⟨rfl, t7, o7⟩; have HA7 := Lib.hid (HA6.out.step t7 o7); clear t7 o7)
        go_roundw
        case rel => exact ⟨a + 1, t + 1, _, by go_num, by go_num, HA7.out, HLi.out⟩
        case measure => simp [intOf]; omega
    | nil =>
      have HTk := Lib.hid (take_no HA.out.tab hf)
      have HF := Lib.hid hf
      clear hf
      go_upto_region 12 with (go_at_call 23; refine HTk.out.mono ?_; rintro e w5 ⟨rfl, b5⟩; have HA5 := Lib.hid ((HA.out.to b5).al (.cells #[.int .i64 0, .int .i64 0] 26)); clear b5)
      by_cases hcz : cnt n S.tk = 0
      · obtain ⟨hd1, hd2⟩ := HLv.out.done HA.out.tab.ok HF.out hcz
        have HRf := Lib.hid (refs_calls HA5.out.tab)
        have HCz := Lib.hid hcz
        have HCn := Lib.hid (fun W (h : TA W q g n k S) => counts_calls h)
        rw [hd2, hcz] at HCn
        have hnm : IntKind.i64.wrap ((n : Int) * (k : Int)) = ((n * k : Nat) : Int) := by
          rw [← Int.natCast_mul, IntKind.wrap_i64]; omega
        rw [← hd1] at hnm
        clear hcz hd1 hd2
        go_wp2_with (first
          | (go_at_call 21; refine HRf.out.mono ?_; rintro e w6 ⟨v6, rfl, hr6, hb6⟩; obtain ⟨ra, rc, rfl⟩ := row_shape hr6; have HA6 := Lib.hid (HA5.out.to hb6); clear hr6 hb6; rw [refsU_len, HCz.out])
          | (go_at_call 20; refine (HCn.out _ HA6.out.tab).mono ?_; rintro e w7 ⟨rfl, hb7⟩; have HA7 := Lib.hid (HA6.out.to hb7); clear hb7)
          | fail)
        go_ret
        exact ⟨rfl, HA7.out.bel⟩
      · have hcp : 0 < cnt n S.tk := by omega
        clear hcz
        obtain ⟨c, hc⟩ : ∃ c, cnt n (S).tk = c := ⟨_, rfl⟩
        have HC := Lib.hid hc
        have hc0 : 0 < c := by rw [← hc]; exact hcp
        have hcn : c ≤ n := by rw [← hc]; exact cnt_le _ _
        have hcz : ((c : Int) == 0) = false := by rw [beq_eq_false_iff_ne]; omega
        have HRf := Lib.hid (refs_calls HA5.out.tab)
        clear hc
        go_upto_if 63 with (go_at_call 21; refine HRf.out.mono ?_; rintro e w6 ⟨v6, rfl, hr6, hb6⟩; obtain ⟨ra, rc, rfl⟩ := row_shape hr6; have HR6 := Lib.hid hr6; have HA6 := Lib.hid (HA5.out.to hb6); clear hr6 hb6; rw [refsU_len, HC.out])
        obtain ⟨d, hd⟩ : ∃ d, decide (0 < m) = d := ⟨_, rfl⟩
        simp only [hd]
        go_cut [16] from 64 to 72 (fun s16 wx => ∃ x : Nat, x < 256 ∧ s16 = .int .i64 (x : Int) ∧ wx = w6)
        case first =>
          cases d with
          | true =>
            have hm0 : 0 < m := of_decide_eq_true hd
            have hn0p : 0 < n0 := by omega
            obtain ⟨j, hj⟩ : ∃ j, a % n0 = j := ⟨_, rfl⟩
            have hjm : j < n0 := by rw [← hj]; exact Nat.mod_lt _ hn0p
            have hj1 : (a : Int).tmod (n0 : Int) = (j : Int) := by rw [Int.tmod_eq_emod_of_nonneg (by omega), ← Int.natCast_emod, hj]
            have hj2 : IntKind.i64.wrap (j : Int) = (j : Int) := by rw [IntKind.wrap_i64]; omega
            have hj3 : (j : Int) < (m : Int) := by omega
            have hn0z : ((n0 : Int) == 0) = false := by rw [beq_eq_false_iff_ne]; omega
            have hn0y : ¬ (n0 : Int) = 0 := by omega
            obtain ⟨bl, ol, rfl, x0, hy⟩ := (HV.out.below HA6.out.bel).get (by rw [HM.out]) (i := j) (by rw [HM.out]; omega)
            obtain ⟨y, hyy⟩ : ∃ y, fq l j = y := ⟨_, rfl⟩
            rw [hyy] at x0 hy
            have hy2 : IntKind.i64.wrap (y : Int) = (y : Int) := by rw [IntKind.wrap_i64]; omega
            clear hd hm0 hj hyy
            go_wp2_with fail
            go_meet
            exact ⟨y, hy, rfl, rfl⟩
          | false =>
            clear hd
            go_wp2_with fail
            go_meet
            exact ⟨0, by omega, rfl, rfl⟩
        case rest =>
        obtain ⟨x, hx, rfl, rfl⟩ := hcut
        obtain ⟨j, hj⟩ : ∃ j, x % c = j := ⟨_, rfl⟩
        have hjc : j < c := by rw [← hj]; exact Nat.mod_lt _ hc0
        have hj1 : (x : Int).tmod (c : Int) = (j : Int) := by rw [Int.tmod_eq_emod_of_nonneg (by omega), ← Int.natCast_emod, hj]
        have hj2 : IntKind.i64.wrap (j : Int) = (j : Int) := by rw [IntKind.wrap_i64]; omega
        have hj3 : (j : Int) < (c : Int) := by omega
        have hcy : ¬ (c : Int) = 0 := by omega
        obtain ⟨gr, cap, e1, hcp, -, z0, z1⟩ := HR6.out.get (i := j) (by rw [refsU_len, HC.out]; exact hjc)
        rw [refsU_len, HC.out] at e1 hcp
        obtain ⟨rfl, rfl⟩ : ra = some ⟨gr, 0, none⟩ ∧ rc = cap := by cases e1; exact ⟨rfl, rfl⟩
        rw [refsU_get (S) n j (by rw [HC.out]; exact hjc)] at z0 z1
        dsimp only at z0 z1
        have hpl := pl_mem.1 (fq_mem (l := pl n (S).tk) (j := j) (by show j < cnt n (S).tk; rw [HC.out]; exact hjc))
        obtain ⟨P, hP⟩ : ∃ P, fq (pl n (S).tk) j = P := ⟨_, rfl⟩
        rw [hP] at z0 z1 hpl
        have HG := Lib.hid (give_yes HA6.out.tab hpl.1 hpl.2)
        have HLi := Lib.hid (HLv.out.give hpl.1 hpl.2)
        generalize (S).life P = L at z0 z1 HG
        clear hd hj e1 hP hpl
        go_wp2_with (go_at_call 24; refine HG.out.mono ?_; rintro e w7 ⟨rfl, t7, o7⟩; have HA7 := Lib.hid (HA6.out.step t7 o7); clear t7 o7)
        go_roundw
        case rel => exact ⟨a + 1, t, _, by go_num, rfl, HA7.out, HLi.out⟩
        case measure => simp [intOf]; omega
end Go.Proofs.Ytaeppclimafikaa
