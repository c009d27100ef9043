/-
  WALK of HeapDrains.
-/
import Derived.Test.YtjnocijfjkbaiaaHeapDrainsP
import Derived.Test.YtjnocijfjkbaiaaHeapAwake
namespace Go.Proofs.Ytjnocijfjkbaiaa
open Go.RowKit Go.Shelf

set_option maxRecDepth 100000 in
set_option maxHeartbeats 8000000 in
theorem heapDrains_walk (v : Value) (l : List Sm) (w : World) (hv : SmRow w v l) :
    Calls Try.prog 5 #[v] w fun e w' => e = .returned (.bool true) ∧ Below w.heap.size w w' := by
  have mixed : Try.prog.follows .mixedOrders = true := by kernel_rfl
  have HAw := Lib.hid (awake_calls w)
  have HV := Lib.hid hv
  obtain ⟨va, vc, rfl, -, -⟩ := hv.shape
  clear hv
  go_enter Try.func5, Try.ntmps5
  go_wp2_with fail
  refine HAw.out.mono ?_
  rintro e w1 ⟨rfl, hb1⟩
  have HB1 := Lib.hid hb1
  have HMd := Lib.hid (made_calls _ l w1 (HV.out.below hb1))
  clear hb1
  go_wp2_with fail
  refine HMd.out.mono ?_
  rintro e w2 ⟨q, K, T, F, rfl, hA, hF, hT, hb2⟩
  have HB2 := Lib.hid (HB1.out.trans (hb2.mono HB1.out.size))
  have HA := Lib.hid hA; have HF := Lib.hid hF; have HT := Lib.hid hT
  clear hA hF hT hb2
  have i53 : (Try.prog.info? 53).map (·.size) = some (kcs K).size := by rw [kcs_size]; exact info_karr
  have i54 : (Try.prog.info? 54).map (·.size) = some (tcs T).size := by rw [tcs_size]; exact info_tarr
  have HI := Lib.hid (And.intro i53 i54)
  clear i53 i54
  obtain ⟨h3, h4, hb3⟩ := two_rows w2 K T (kcs fun _ => (0, 0, 0)) (tcs fun _ => false) (kcs_size _) (tcs_size _)
  have H3 := Lib.hid h3; have H4 := Lib.hid h4; have H5 := Lib.hid hb3
  clear h3 h4 hb3
  go_upto_region 6 with (first
    | (refine wpList_alloc_row rfl 53 rfl _ zero_karr ?_)
    | (refine wpList_alloc_row rfl 54 rfl _ zero_tarr ?_)
    | (refine wpList_store_row rfl 53 _ _ rfl w2.heap.size (kcs K) (by simp [Act.eval, Act.put]) (by simp [Act.eval, Act.put]) 53 (kcs fun _ => (0, 0, 0)) ((Below.heap_alloc _ _ _ (by simp)).trans (World.alloc_heap_new w2 _)) HI.out.1 (by rw [kcs_size, kcs_size]) (kcs_one K) ?_)
    | (refine wpList_store_row rfl 54 _ _ rfl (w2.heap.size + 1) (tcs T) (by simp [Act.eval, Act.put]) (by simp [Act.eval, Act.put]) 54 (tcs fun _ => false) ((setRow_other _ _ _ _ (by omega)).trans (by have := World.alloc_heap_new (w2.alloc (.cells (kcs fun _ => (0, 0, 0)) 53)) (.cells (tcs fun _ => false) 54); rwa [World.size_alloc] at this)) HI.out.2 (by rw [tcs_size, tcs_size]) (tcs_one T) ?_)
    | fail)
  have hAH := HA.out.below H5.out
  obtain ⟨W3, hW3⟩ : ∃ W3, W3 = (((w2.alloc (.cells (kcs fun _ => (0, 0, 0)) 53)).alloc (.cells (tcs fun _ => false) 54)).setRow w2.heap.size (kcs K)).setRow (w2.heap.size + 1) (tcs T) := ⟨_, rfl⟩
  have h0 : DrAt w W3 q w2.heap.size K T F := by
    rw [hW3]
    have s2 := HB2.out.size
    have s1 := HB1.out.size
    refine ⟨hAH, H3.out, H4.out, HB2.out.trans (H5.out.mono s2), s2, fun j hj => ?_⟩
    have h1 := HA.out.lt j hj
    have h2 := HF.out j hj
    exact ⟨by omega, by omega, by omega⟩
  have H0 := Lib.hid h0
  rw [← hW3]
  clear hW3 h0 hAH HMd HAw HV HI H3 H4 H5
  generalize w2.heap.size = b at H0 ⊢
  have HTr := Lib.hid H0.out.there
  have HIx := Lib.hid (fun (r : Nat) (hr : r < 24) (W : World) => run_index_t T r hr W)
  have i54 : (Try.prog.info? 54).map (·.size) = some (tcs T).size := by rw [tcs_size]; exact info_tarr
  have HI := Lib.hid i54
  clear i54 HA HF HT HB1 HB2
  go_wp2_with (first
    | (refine wpList_load_row rfl 54 _ rfl (b + 1) (by simp [Act.eval]) _ (tcs T) _ (.array 24 4) HTr.out Try.underlying54 rfl HI.out ?_)
    | fail)
  go_loopw [7, 37] (fun s7 s37 wx => ∃ r : Nat, r ≤ 24 ∧ s37 = .int .i64 (r : Int) ∧ s7 = .int .i64 (cntT r T : Int) ∧ DrAt w wx q b K T F) (fun _ s37 _ => 24 - (intOf s37).toNat)
  case atStart => exact ⟨0, by omega, rfl, rfl, H0.out⟩
  case round =>
    obtain ⟨r, hr, rfl, rfl, hA⟩ := hrel
    have HD := Lib.hid hA
    clear hA H0 HTr HI
    by_cases hr2 : r < 24
    · have hr3 : (r : Int) < 24 := by omega
      have hix := HIx.out r hr2
      have hwr : IntKind.i64.wrap ((r : Int) + 1) = (r : Int) + 1 := by rw [IntKind.wrap_i64]; omega
      have hcl := cntT_le r T
      have hsu := cntT_succ r T
      obtain ⟨m, hm⟩ : ∃ m, cntT r T = m := ⟨_, rfl⟩
      rw [hm] at hcl hsu ⊢
      have hwm : IntKind.i64.wrap ((m : Int) + 1) = (m : Int) + 1 := by rw [IntKind.wrap_i64]; omega
      cases hT : T r with
      | true =>
        rw [hT] at hix hsu
        have hM : mKT K T r = some (K r) := by unfold mKT; rw [if_pos hT]
        have HKy := Lib.hid (key_yes HD.out.heap r (K r) hM)
        have HHs := Lib.hid (fun W (h : HA W q F 24 (mKT K T)) => has_yes h r (K r) hM)
        have HSu := Lib.hid hsu
        have HRl := Lib.hid hr2
        clear hm hsu hT hM hcl
        go_upto_region 13 with (first | (go_at_call 17; refine HKy.out.mono ?_; rintro e w5 ⟨rfl, hb5⟩; have HD5 := Lib.hid ((HD.out.to hb5).al (.cells #[.int .i64 (K r).1, .int .i64 (K r).2.1, .int .i64 (K r).2.2] 27)); clear hb5) | fail)
        obtain ⟨x0, x1, x2, -⟩ := HD5.out.keys.cells r HRl.out
        have y0 : (w5.alloc (.cells #[.int .i64 (K r).1, .int .i64 (K r).2.1, .int .i64 (K r).2.2] 27)).cell? ⟨w5.heap.size, 0, none⟩ = some (.int .i64 (K r).1) := by simp
        have y1 : (w5.alloc (.cells #[.int .i64 (K r).1, .int .i64 (K r).2.1, .int .i64 (K r).2.2] 27)).cell? ⟨w5.heap.size, 1, none⟩ = some (.int .i64 (K r).2.1) := by simp
        have y2 : (w5.alloc (.cells #[.int .i64 (K r).1, .int .i64 (K r).2.1, .int .i64 (K r).2.2] 27)).cell? ⟨w5.heap.size, 2, none⟩ = some (.int .i64 (K r).2.2) := by simp
        have hne := fun W => neqK (K r).1 (K r).2.1 (K r).2.2 (K r).1 (K r).2.1 (K r).2.2 W
        have hdd : decide (((K r).1, (K r).2.1, (K r).2.2) = ((K r).1, (K r).2.1, (K r).2.2)) = true := decide_eq_true rfl
        rw [hdd, Bool.not_true] at hne
        have hbb : (true != true) = false := rfl
        clear hdd HKy
        generalize (K r).1 = k1 at *
        generalize (K r).2.1 = k2 at *
        generalize (K r).2.2 = k3 at *
        obtain ⟨W5, hW5⟩ : ∃ W5, w5.alloc (.cells #[.int .i64 k1, .int .i64 k2, .int .i64 k3] 27) = W5 := ⟨_, rfl⟩
        rw [hW5] at x0 x1 x2 y0 y1 y2 ⊢
        have HD6 := Lib.hid (show DrAt w W5 q b K T F by rw [← hW5]; exact HD5.out)
        have HHs2 := Lib.hid (fun m => HHs.out (W5.drewN m) (HD6.out.to (belowN W5 m)).heap)
        clear hW5 HD5 HHs
        go_quiet ((go_at_call 19; exact (HHs2.out _).mono fun e w' h => ⟨h.1, _, h.2.symm⟩))
        go_wp2_with fail
        go_roundw
        case rel =>
          refine ⟨r + 1, HRl.out, by go_num, ?_, HD6.out.to (belowN W5 _)⟩
          have e : cntT (r + 1) T = m + 1 := HSu.out
          show Value.int .i64 ((m : Int) + 1) = .int .i64 ((cntT (r + 1) T : Nat) : Int)
          rw [e]
          simp
        case measure => simp [intOf]; omega
      | false =>
        rw [hT] at hix hsu
        have hM : mKT K T r = none := by unfold mKT; rw [if_neg (by rw [hT]; decide)]
        have HKy := Lib.hid (key_no HD.out.heap (r : Int) 6 (by decide) (finds_none r hr2 hM))
        have HHs := Lib.hid (fun W (h : HA W q F 24 (mKT K T)) => has_no h (r : Int) 6 (by decide) (finds_none r hr2 hM))
        have HSu := Lib.hid hsu
        have HRl := Lib.hid hr2
        clear hm hsu hT hM hcl
        go_upto_region 13 with (first | (go_at_call 17; refine HKy.out.mono ?_; rintro e w5 ⟨rfl, hb5⟩; have HD5 := Lib.hid ((HD.out.to hb5).al (.cells #[.int .i64 0, .int .i64 0, .int .i64 0] 27)); clear hb5) | fail)
        obtain ⟨W5, hW5⟩ : ∃ W5, w5.alloc (.cells #[.int .i64 0, .int .i64 0, .int .i64 0] 27) = W5 := ⟨_, rfl⟩
        rw [hW5]
        have HD6 := Lib.hid (show DrAt w W5 q b K T F by rw [← hW5]; exact HD5.out)
        have HHs2 := Lib.hid (fun m => HHs.out (W5.drewN m) (HD6.out.to (belowN W5 m)).heap)
        have hbb : (false != false) = false := rfl
        clear hW5 HD5 HHs
        go_quiet ((go_at_call 19; exact (HHs2.out _).mono fun e w' h => ⟨h.1, _, h.2.symm⟩))
        go_wp2_with fail
        go_roundw
        case rel =>
          refine ⟨r + 1, HRl.out, by go_num, ?_, HD6.out.to (belowN W5 _)⟩
          have e : cntT (r + 1) T = m := HSu.out
          show Value.int .i64 (m : Int) = .int .i64 ((cntT (r + 1) T : Nat) : Int)
          rw [e]
        case measure => simp [intOf]; omega
    · obtain rfl : r = 24 := by omega
      have HLn := Lib.hid (len_calls HD.out.heap)
      obtain ⟨O, hO⟩ : ∃ O, ordM 24 (mKT K T) = O := ⟨_, rfl⟩
      have hcn := ordM_cnt 24 K T
      obtain ⟨m, hm⟩ : ∃ m, cntT 24 T = m := ⟨_, rfl⟩
      have hm24 : m ≤ 24 := by rw [← hm]; exact cntT_le 24 T
      rw [hm] at hcn ⊢
      rw [hcn] at HLn
      have HOr := Lib.hid (fun W (h : HA W q F 24 (mKT K T)) => heapOrder_calls h)
      rw [hcn, hO] at HOr
      rw [hO] at hcn
      have HO := Lib.hid hO
      have HC := Lib.hid hcn
      have hmi : (m : Int) ≤ 24 := by omega
      clear hO hcn hm HIx
      go_wp2_with fail
      refine HLn.out.mono ?_
      rintro e w5 ⟨rfl, rfl⟩
      go_wp2_with fail
      refine (HOr.out _ HD.out.heap).mono ?_
      rintro e w6 ⟨g, c, rfl, hrow, hg6, hb6⟩
      have h6 : DrMid w w6 q b g c K (lessT T O 0) (lessT T O 0) (plc O) F := by
        have h := HD.out.to hb6
        have hl := HD.out.heap.lt
        have ht := (Array.getElem?_eq_some_iff.1 HD.out.there).1
        rw [lessT_zero]
        exact ⟨h.heap, h.keys, h.there, hrow, h.below, h.ne.1, by omega, fun j hj => by have := hl j hj; have h2 := h.ne.2 j hj; exact ⟨h2.1, h2.2.1, h2.2.2, by omega⟩⟩
      have H6 := Lib.hid h6
      clear h6 hrow hg6 hb6 HD HLn HOr
      go_wp2_with fail
      go_loopw [13, 89] (fun s13 s89 wx => ∃ (i : Nat) (F' : Nat → Prop) (la : Int), i ≤ m ∧ s89 = .int .i64 (i : Int) ∧ s13 = .int .i64 la ∧ LastIs O i la ∧ DrMid w wx q b g c K (lessT T O i) (lessT T O i) (plc O) F') (fun _ s89 _ => m - (intOf s89).toNat)
      case atStart => exact ⟨0, F, -1, Nat.zero_le _, rfl, rfl, ⟨.inl ⟨rfl, rfl⟩⟩, H6.out⟩
      case round =>
        obtain ⟨i, F', la, hi, rfl, rfl, hla, hD⟩ := hrel
        have HD := Lib.hid hD
        have HLa := Lib.hid hla
        clear hD H6 hla
        by_cases hlt : i < m
        · have hiO : i < (ordM 24 (mKT K T)).length := by rw [HO.out, HC.out]; exact hlt
          have hat := ord_at i hiO
          have hth := less_here i hiO
          have hlo := less_ord i (Nat.le_of_lt hiO)
          have hsu := lessT_succ T (ordM 24 (mKT K T)) i hiO
          rw [HO.out] at hat hth hlo hsu
          obtain ⟨P, hP⟩ : ∃ P, (en O i).2 = P := ⟨_, rfl⟩
          rw [hP] at hat hth hsu
          have hen : en (ordM 24 (mKT K (lessT T O i))) 0 = (K P, P) := by
            rw [hlo, en_drop, Nat.add_zero]
            exact Prod.ext hat.2.2.symm hP
          have hel : 0 < (ordM 24 (mKT K (lessT T O i))).length := by rw [hlo, List.length_drop, HC.out]; omega
          have HLs := Lib.hid (least_yes HD.out.heap (K P) P hel hen)
          have HTk := Lib.hid (fun W (h : HA W q F' 24 (mKT K (lessT T O i))) => take_yes h (K P) P hel hen)
          rw [mKT_drop, hsu] at HTk
          have HTh := Lib.hid hth
          have HP24 := Lib.hid hat.1
          have hi1 : (i : Int) < (m : Int) := by omega
          have hP1 : (P : Int) < 24 := by have := hat.1; omega
          have hwi : IntKind.i64.wrap ((i : Int) + 1) = (i : Int) + 1 := by rw [IntKind.wrap_i64]; omega
          have hpg := plc_get O i (by rw [HC.out]; exact hlt)
          rw [hP] at hpg
          have HPg := Lib.hid hpg
          have HKs := Lib.hid hat.2.2
          have HSu := Lib.hid hsu
          have HPe := Lib.hid hP
          clear hat hth hlo hsu hen hel hpg hP hiO
          go_wp2_with fail
          refine HLs.out.mono ?_
          rintro e w7 ⟨rfl, rfl⟩
          go_wp2_with fail
          refine (HTk.out _ HD.out.heap).mono ?_
          rintro e w8 ⟨rfl, hs8⟩
          obtain ⟨F8, hd8⟩ := HD.out.step hs8
          have HD8 := Lib.hid (hd8.al (.cells #[.int .i64 (K P).1, .int .i64 (K P).2.1, .int .i64 (K P).2.2] 27))
          clear hs8 hd8 HLs HTk
          go_upto_region 27 with fail
          obtain ⟨x0, x1, x2, -⟩ := HD8.out.keys.cells P HP24.out
          obtain ⟨t0, -⟩ := HD8.out.there.cells P HP24.out
          rw [HTh.out] at t0
          have r0 := HD8.out.row.cell i (by rw [plc_len, HC.out]; exact hlt)
          rw [HPg.out] at r0
          have hbx : (w8.alloc (.cells #[.int .i64 (K P).1, .int .i64 (K P).2.1, .int .i64 (K P).2.2] 27)).heap[w8.heap.size]? = some (.cells #[.int .i64 (K P).1, .int .i64 (K P).2.1, .int .i64 (K P).2.2] 27 (0, 0)) := World.alloc_heap_new w8 _
          obtain ⟨W8, hW8⟩ : ∃ W8, w8.alloc (.cells #[.int .i64 (K P).1, .int .i64 (K P).2.1, .int .i64 (K P).2.2] 27) = W8 := ⟨_, rfl⟩
          rw [hW8] at HD8 hbx x0 x1 x2 t0 r0 ⊢
          have HX8 := Lib.hid hbx
          have y0 : W8.cell? ⟨w8.heap.size, 0, none⟩ = some (.int .i64 (K P).1) := by simp only [World.cell?, hbx]; rfl
          have y1 : W8.cell? ⟨w8.heap.size, 1, none⟩ = some (.int .i64 (K P).2.1) := by simp only [World.cell?, hbx]; rfl
          have y2 : W8.cell? ⟨w8.heap.size, 2, none⟩ = some (.int .i64 (K P).2.2) := by simp only [World.cell?, hbx]; rfl
          have hne := fun W => neqK (K P).1 (K P).2.1 (K P).2.2 (K P).1 (K P).2.1 (K P).2.2 W
          have hdd : decide (((K P).1, (K P).2.1, (K P).2.2) = ((K P).1, (K P).2.1, (K P).2.2)) = true := decide_eq_true rfl
          rw [hdd, Bool.not_true] at hne
          have hpp : ((P : Int) != (P : Int)) = false := by simp
          have hp0 : ¬ (P : Int) < 0 := by omega
          have hp24 : ¬ (P : Int) ≥ 24 := by omega
          obtain ⟨bx, hbx2⟩ : ∃ bx, w8.heap.size = bx := ⟨_, rfl⟩
          rw [hbx2] at HX8 y0 y1 y2 ⊢
          clear hdd hbx hW8 hbx2
          generalize (K P).1 = k1 at x0 y0 hne ⊢
          generalize (K P).2.1 = k2 at x1 y1 hne ⊢
          generalize (K P).2.2 = k3 at x2 y2 hne ⊢
          go_quiet (fail)
          have HD9 := Lib.hid (HD8.out.to (belowN W8 nq))
          have HX9 := Lib.hid (show (W8.drewN nq).heap[bx]? = some (.cells #[.int .i64 (K P).1, .int .i64 (K P).2.1, .int .i64 (K P).2.2] 27 (0, 0)) from HX8.out)
          obtain ⟨W9, hW9⟩ : ∃ W9, W8.drewN nq = W9 := ⟨_, rfl⟩
          rw [hW9] at HD9 HX9 ⊢
          clear hW9 HD8 HX8 x0 x1 x2 t0 r0 y0 y1 y2 hne hpp hp0 hp24
          rcases HLa.out.is with ⟨hi0, hla⟩ | ⟨j, hj, hla⟩
          · subst hla
            go_upto_region 33 with fail
            obtain ⟨t0, tf⟩ := HD9.out.there.cells P HP24.out
            go_wp2_with fail
            go_roundw
            case rel =>
              have h := HD9.out.put P HP24.out
              rw [HSu.out] at h
              exact ⟨i + 1, F8, (P : Int), hlt, by go_num, rfl, ⟨.inr ⟨i, rfl, by rw [HPe.out]⟩⟩, h⟩
            case measure => simp [intOf]; omega
          · obtain ⟨Q, hQ⟩ : ∃ Q, (en O j).2 = Q := ⟨_, rfl⟩
            rw [hQ] at hla
            have hjO : j + 1 < (ordM 24 (mKT K T)).length := by rw [HO.out, HC.out, ← hj]; exact hlt
            have HUp := Lib.hid (ord_step j hjO)
            have hQ24 := (ord_at j (Nat.lt_of_succ_lt hjO)).1
            rw [HO.out, hQ] at hQ24
            rw [HO.out, hQ, ← hj] at HUp
            have hk := HKs.out
            rw [← hk, HPe.out] at HUp
            have HJ := Lib.hid hj
            have hq0 : (Q : Int) ≥ 0 := by omega
            have hQ1 : (Q : Int) < 24 := by omega
            subst hla
            clear hj hQ hjO hk HLa
            go_upto_region 30 with fail
            obtain ⟨x0, x1, x2, -⟩ := HD9.out.keys.cells Q hQ24
            have y0 : W9.cell? ⟨bx, 0, none⟩ = some (.int .i64 (K P).1) := by simp only [World.cell?, HX9.out]; rfl
            have y1 : W9.cell? ⟨bx, 1, none⟩ = some (.int .i64 (K P).2.1) := by simp only [World.cell?, HX9.out]; rfl
            have y2 : W9.cell? ⟨bx, 2, none⟩ = some (.int .i64 (K P).2.2) := by simp only [World.cell?, HX9.out]; rfl
            have hbl := (Array.getElem?_eq_some_iff.1 HD9.out.keys).1
            have hbl2 := (Array.getElem?_eq_some_iff.1 HX9.out).1
            have a0 := fun n os => Go.cell_grown (n := n) (os := os) (w := W9) (a := ⟨b, Q * 3, none⟩) hbl x0
            have a1 := fun n os => Go.cell_grown (n := n) (os := os) (w := W9) (a := ⟨b, Q * 3 + 1, none⟩) hbl x1
            have a2 := fun n os => Go.cell_grown (n := n) (os := os) (w := W9) (a := ⟨b, Q * 3 + 2, none⟩) hbl x2
            have b0 := fun n os => Go.cell_grown (n := n) (os := os) (w := W9) (a := ⟨bx, 0, none⟩) hbl2 y0
            have b1 := fun n os => Go.cell_grown (n := n) (os := os) (w := W9) (a := ⟨bx, 1, none⟩) hbl2 y1
            have b2 := fun n os => Go.cell_grown (n := n) (os := os) (w := W9) (a := ⟨bx, 2, none⟩) hbl2 y2
            have o0 := Lib.hid (fun n os => Drawn.calls_grow (compareK_calls (K Q) (K P) (Go.Sort.grow (W9.drewN n) os)))
            clear x0 x1 x2 y0 y1 y2 hbl hbl2 HX9
            generalize cfK (K Q) (K P) = z at *
            generalize byK (K Q) (K P) = z2 at *
            generalize K Q = KQ at a0 a1 a2 o0
            generalize K P = KP at b0 b1 b2 o0
            refine wp_region_quiet_grown (by assumption) (by kernel_rfl) ?_
            repeat (go_big_quiet_step (first | (with_reducible exact Calls.grown_of (o0.out _ _)) | fail))
            refine wpQuiet_nil ?_
            rintro _ ⟨⟨nq2, osq⟩, rfl⟩
            have HD10 := Lib.hid (HD9.out.to (below_grow W9 nq2 osq))
            obtain ⟨W10, hW10⟩ : ∃ W10, Go.Sort.grow (W9.drewN nq2) osq = W10 := ⟨_, rfl⟩
            rw [hW10] at HD10 ⊢
            clear hW10 a0 a1 a2 b0 b1 b2 o0
            rcases HUp.out with hz | ⟨hz, hlt2⟩
            · have z1 : ¬ z > 0 := by omega
              have z3 : (z == 0) = false := by rw [beq_eq_false_iff_ne]; omega
              clear hz
              go_upto_region 33 with fail
              obtain ⟨t0, tf⟩ := HD10.out.there.cells P HP24.out
              go_wp2_with fail
              go_roundw
              case rel =>
                have h := HD10.out.put P HP24.out
                rw [HSu.out] at h
                exact ⟨i + 1, F8, (P : Int), hlt, by go_num, rfl, ⟨.inr ⟨i, rfl, by rw [HPe.out]⟩⟩, h⟩
              case measure => simp [intOf]; omega
            · have z3 : ¬ (Q : Int) ≥ (P : Int) := by omega
              subst hz
              go_upto_region 33 with fail
              obtain ⟨t0, tf⟩ := HD10.out.there.cells P HP24.out
              go_wp2_with fail
              go_roundw
              case rel =>
                have h := HD10.out.put P HP24.out
                rw [HSu.out] at h
                exact ⟨i + 1, F8, (P : Int), hlt, by go_num, rfl, ⟨.inr ⟨i, rfl, by rw [HPe.out]⟩⟩, h⟩
              case measure => simp [intOf]; omega
        · obtain rfl : i = m := by omega
          have hlt2 : ¬ (i : Int) < (i : Int) := by omega
          have hlo := less_ord (K := K) (T := T) i (by rw [HO.out, HC.out]; exact Nat.le_refl _)
          rw [HO.out] at hlo
          have hel : (ordM 24 (mKT K (lessT T O i))).length = 0 := by rw [hlo, List.length_drop, HC.out]; omega
          have HTn := Lib.hid (take_no HD.out.heap hel)
          have HLn := Lib.hid (fun W (h : HA W q F' 24 (mKT K (lessT T O i))) => len_calls h)
          rw [hel] at HLn
          clear hlo hel
          go_wp2_with fail
          refine HTn.out.mono ?_
          rintro e w7 ⟨rfl, hb7⟩
          have HD7 := Lib.hid ((HD.out.to hb7).al (.cells #[.int .i64 0, .int .i64 0, .int .i64 0] 27))
          clear hb7
          go_wp2_with fail
          refine (HLn.out _ HD7.out.heap).mono ?_
          rintro e w8 ⟨rfl, rfl⟩
          go_wp2_with fail
          go_ret
          exact ⟨by simp, HD7.out.below⟩
end Go.Proofs.Ytjnocijfjkbaiaa
