/-
  WALK of HeapSame.
-/
import Derived.Test.YtjnocijfjkbaiaaHeapSameP
import Derived.Test.YtjnocijfjkbaiaaHeapAwake
namespace Go.Proofs.Ytjnocijfjkbaiaa
open Go.RowKit Go.Shelf

set_option maxRecDepth 100000 in
set_option maxHeartbeats 20000000 in
theorem heapSame_walk (v v2 : Value) (l l2 : List Sm) (t : Nat) (ht : t < 256) (w : World) (hv : SmRow w v l) (hv2 : SmRow w v2 l2) :
    Calls Try.prog 6 #[v, .int .u8 (t : Int), v2] w fun e w' => e = .returned (.bool true) ∧ Below w.heap.size w w' := by
  have mixed : Try.prog.follows .mixedOrders = true := by kernel_rfl
  have HAw := Lib.hid (awake_calls w)
  have HV := Lib.hid hv
  obtain ⟨va, vc, rfl, -, -⟩ := hv.shape
  have HV2 := Lib.hid hv2
  obtain ⟨va2, vc2, rfl, hlc2, -⟩ := hv2.shape
  obtain ⟨m2, hm2⟩ : ∃ m2, l2.length = m2 := ⟨_, rfl⟩
  have HM2 := Lib.hid hm2
  rw [hm2] at hlc2 ⊢
  obtain ⟨n0, hn0, hn1', hn2⟩ : ∃ n0 : Nat, min (m2 : Int) 40 = (n0 : Int) ∧ n0 ≤ m2 ∧ n0 ≤ 40 := by
    by_cases c : m2 ≤ 40
    · exact ⟨m2, by omega, Nat.le_refl _, c⟩
    · exact ⟨40, by omega, by omega, Nat.le_refl _⟩
  have hnv : n0 ≤ vc2 := by omega
  clear hm2
  clear hv hv2
  go_enter Try.func6, Try.ntmps6
  go_wp2_with fail
  refine HAw.out.mono ?_
  rintro e w1 ⟨rfl, hb1⟩
  have HB1 := Lib.hid hb1
  have HMd := Lib.hid (made_calls _ l w1 (HV.out.below hb1))
  clear hb1
  go_wp2_with fail
  refine HMd.out.mono ?_
  rintro e w2 ⟨q, K, T, F, rfl, hA, hF, hT, hb2⟩
  have HB2 := Lib.hid (HB1.out.trans (hb2.mono HB1.out.size))
  have HA := Lib.hid hA; have HF := Lib.hid hF; have HT := Lib.hid hT
  clear hA hF hT hb2
  have i53 : (Try.prog.info? 53).map (·.size) = some (kcs K).size := by rw [kcs_size]; exact info_karr
  have i54 : (Try.prog.info? 54).map (·.size) = some (tcs T).size := by rw [tcs_size]; exact info_tarr
  have HI := Lib.hid (And.intro i53 i54)
  clear i53 i54
  obtain ⟨h3, h4, hb3⟩ := two_rows w2 K T (kcs fun _ => (0, 0, 0)) (tcs fun _ => false) (kcs_size _) (tcs_size _)
  have H3 := Lib.hid h3; have H4 := Lib.hid h4; have H5 := Lib.hid hb3
  clear h3 h4 hb3
  go_upto_region 4 with (first
    | (refine wpList_alloc_row rfl 53 rfl _ zero_karr ?_)
    | (refine wpList_alloc_row rfl 54 rfl _ zero_tarr ?_)
    | (refine wpList_store_row rfl 53 _ _ rfl w2.heap.size (kcs K) (by simp [Act.eval, Act.put]) (by simp [Act.eval, Act.put]) 53 (kcs fun _ => (0, 0, 0)) ((Below.heap_alloc _ _ _ (by simp)).trans (World.alloc_heap_new w2 _)) HI.out.1 (by rw [kcs_size, kcs_size]) (kcs_one K) ?_)
    | (refine wpList_store_row rfl 54 _ _ rfl (w2.heap.size + 1) (tcs T) (by simp [Act.eval, Act.put]) (by simp [Act.eval, Act.put]) 54 (tcs fun _ => false) ((setRow_other _ _ _ _ (by omega)).trans (by have := World.alloc_heap_new (w2.alloc (.cells (kcs fun _ => (0, 0, 0)) 53)) (.cells (tcs fun _ => false) 54); rwa [World.size_alloc] at this)) HI.out.2 (by rw [tcs_size, tcs_size]) (tcs_one T) ?_)
    | fail)
  have hAH := HA.out.below H5.out
  have s2 := HB2.out.size
  have s1 := HB1.out.size
  obtain ⟨W3, hW3⟩ : ∃ W3, W3 = (((w2.alloc (.cells (kcs fun _ => (0, 0, 0)) 53)).alloc (.cells (tcs fun _ => false) 54)).setRow w2.heap.size (kcs K)).setRow (w2.heap.size + 1) (tcs T) := ⟨_, rfl⟩
  rw [← hW3] at H3 H4 H5 hAH ⊢
  have HNw := Lib.hid (new_ok 24 (by omega) W3)
  have HA3 := Lib.hid hAH
  have HBl3 := Lib.hid (HB2.out.trans (H5.out.mono s2))
  clear hW3 hAH HMd HAw HV HI
  go_wp2_with fail
  refine HNw.out.mono ?_
  rintro e w4 ⟨q2, rfl, hn4⟩
  obtain ⟨F2, hA4, hB4, hF4⟩ := hn4.ex
  have hk4 := (Array.getElem?_eq_some_iff.1 H3.out).1
  have ht4 := (Array.getElem?_eq_some_iff.1 H4.out).1
  have h0 : TwoAt w w4 q q2 (fun j => j = w2.heap.size ∨ j = w2.heap.size + 1) (mKT K T) (mKT K (visT T t 0)) := by
    refine ⟨⟨F, F2, HA3.out.below hB4, hA4.congr fun p => by rw [vis_zero]; simp [mKT], fun j hj => ?_, fun j hj => ?_⟩, fun j hj => ?_, HBl3.out.trans (hB4.mono HBl3.out.size)⟩
    · have h1 := HA.out.lt j hj
      have h2 := HF.out j hj
      exact ⟨fun k => by have := hF4 j k; omega, by rintro (e | e) <;> omega, by omega⟩
    · have h1 := hF4 j hj
      have h3 := HBl3.out.size
      exact ⟨by rintro (e | e) <;> omega, by omega⟩
    · have := hB4.size
      rcases hj with e | e <;> omega
  have H0 := Lib.hid h0
  have HK0 := Lib.hid (show KArr w4 w2.heap.size K from (hB4.block _ hk4).trans H3.out)
  have HT0 := Lib.hid (show TArr w4 (w2.heap.size + 1) T from (hB4.block _ ht4).trans H4.out)
  clear h0 hn4 hA4 hB4 hF4 hk4 ht4 HA3 HBl3 HNw H3 H4 H5 HA HF HB1 HB2 s1 s2
  have HTf := HT
  clear HT
  generalize w2.heap.size = b at H0 HK0 HT0 ⊢
  go_upto_block 0 with fail
  go_cut [] from 55 to 76 (fun wx => TwoAt w wx q q2 (fun _ => False) (mKT K T) (mKT K T))
  case first =>
    go_wp2_with fail
    go_loopw [55] (fun s55 wx => ∃ i : Nat, i ≤ 24 ∧ s55 = .int .i64 (i : Int) ∧ TwoAt w wx q q2 (fun j => j = b ∨ j = b + 1) (mKT K T) (mKT K (visT T t i)) ∧ KArr wx b K ∧ TArr wx (b + 1) T) (fun s55 _ => 24 - (intOf s55).toNat)
    case atStart => exact ⟨0, by omega, rfl, H0.out, HK0.out, HT0.out⟩
    case round =>
      obtain ⟨i, hi, rfl, hA, hK, hT⟩ := hrel
      have HA := Lib.hid hA; have HK := Lib.hid hK; have HT := Lib.hid hT
      clear hA H0 HK0 HT0
      by_cases hlt : i < 24
      · obtain ⟨p, hp⟩ : ∃ p, (i * 7 + t) % 24 = p := ⟨_, rfl⟩
        have hp24 : p < 24 := by omega
        have hpi : (p : Int) < 24 := by omega
        have hi1 : (i : Int) < 24 := by omega
        have hwi : IntKind.i64.wrap ((i : Int) + 1) = (i : Int) + 1 := by rw [IntKind.wrap_i64]; omega
        have hw1 : IntKind.i64.wrap ((i : Int) * 7) = (i : Int) * 7 := by rw [IntKind.wrap_i64]; omega
        have hw2 : IntKind.i64.wrap (t : Int) = (t : Int) := by rw [IntKind.wrap_i64]; omega
        have hw3 : IntKind.i64.wrap ((i : Int) * 7 + (t : Int)) = (i : Int) * 7 + (t : Int) := by rw [IntKind.wrap_i64]; omega
        have hw4 : ((i : Int) * 7 + (t : Int)).tmod 24 = (p : Int) := by rw [Int.tmod_eq_emod_of_nonneg (by omega)]; omega
        have hw4' : ((i : Int) * 7 + (t : Int)) % 24 = (p : Int) := by omega
        have hw5 : IntKind.i64.wrap (p : Int) = (p : Int) := by rw [IntKind.wrap_i64]; omega
        obtain ⟨x0, x1, x2, -⟩ := hK.cells p hp24
        obtain ⟨t0, -⟩ := hT.cells p hp24
        have hvn := vis_new T t i hlt
        have hvs := vis_step T t i
        have hvk := vis_skip T t i
        rw [hp] at hvn hvs hvk
        cases hTp : T p with
        | true =>
          rw [hTp] at t0
          have hpf : putF (mKT K (visT T t i)) p (K p) = (0, mKT K (visT T t (i + 1))) := by
            unfold putF
            have : mKT K (visT T t i) p = none := by unfold mKT; rw [if_neg (by rw [hvn]; decide)]
            rw [this]
            show ((0 : Int), updM (mKT K (visT T t i)) p (some (K p))) = _
            rw [mKT_put, hvs hTp]
            have e : setF K p (K p) = K := by funext r; unfold setF; by_cases c : r = p <;> simp [c]
            rw [e]
          have HPt := Lib.hid (HA.out.two (fun F h => putF_calls h p hp24 (K p)))
          rw [hpf] at HPt
          have HI := Lib.hid hlt
          clear hvn hvs hvk hpf hTp hK hT hp hp24
          dsimp only at HPt
          generalize (K p).1 = c1 at x0 HPt
          generalize (K p).2.1 = c2 at x1 HPt
          generalize (K p).2.2 = c3 at x2 HPt
          go_wp2_with (go_at_call 12; refine HPt.out.mono ?_; rintro e w5 ⟨rfl, t5, k5⟩; have T5 := Lib.hid t5; have K5 := Lib.hid k5; clear t5 k5)
          go_roundw
          case rel => exact ⟨i + 1, HI.out, by go_num, T5.out, (K5.out b (.inl rfl)).trans HK.out, (K5.out (b + 1) (.inr rfl)).trans HT.out⟩
          case measure => simp [intOf]; omega
        | false =>
          rw [hTp] at t0
          have he := hvk hTp
          have HE := Lib.hid he
          have HI := Lib.hid hlt
          clear hvn hvs hvk hTp hK hT hp hp24 he x0 x1 x2
          go_wp2_with fail
          go_roundw
          case rel => exact ⟨i + 1, HI.out, by go_num, by rw [← HE.out]; exact HA.out, HK.out, HT.out⟩
          case measure => simp [intOf]; omega
      · obtain rfl : i = 24 := by omega
        have hv24 := vis_all T t HTf.out
        have HVa := Lib.hid hv24
        clear hK hT hv24
        go_wp2_with fail
        go_meet
        have h := HA.out
        rw [HVa.out] at h
        exact h.less (fun j hj => hj.elim)
  case rest =>
  have H1 := Lib.hid hcut
  clear hcut H0 HK0 HT0 HTf
  have hx1 : (0 : Int) ≤ (n0 : Int) := by omega
  have hx2 : (n0 : Int) ≤ (vc2 : Int) := by omega
  have hx3 : IntKind.i64.wrap (n0 : Int) = (n0 : Int) := by rw [IntKind.wrap_i64]; omega
  generalize mKT K T = M0 at H1
  clear ht
  go_wp2_with fail
  go_loopw [83] (fun s83 wx => ∃ (i : Nat) (M : Mp), i ≤ n0 ∧ s83 = .int .i64 (i : Int) ∧ TwoAt w wx q q2 (fun _ => False) M M) (fun s83 _ => n0 - (intOf s83).toNat)
  case atStart => exact ⟨0, M0, Nat.zero_le _, rfl, H1.out⟩
  case round =>
    obtain ⟨i, M, hi, rfl, hA⟩ := hrel
    have HAr := Lib.hid hA
    have hv3 := HV2.out.below hA.below
    clear hA H1
    by_cases hlt : i < n0
    · rcases hv3.2 with ⟨e0, -⟩ | ⟨b2, o2, c2', e1, -, hlc3, -, hcells⟩
      · have := HM2.out; rw [e0] at this; simp at this; omega
      rw [HM2.out] at e1
      obtain ⟨rfl, rfl⟩ : va2 = some ⟨b2, o2, none⟩ ∧ vc2 = c2' := by cases e1; exact ⟨rfl, rfl⟩
      have hil : i < l2.length := by rw [HM2.out]; omega
      obtain ⟨x0, x1, x2, x3⟩ := hcells i hil
      have hok := smq_ok hv3.1 i hil
      obtain ⟨x, hx⟩ : ∃ x, smq l2 i = x := ⟨_, rfl⟩
      rw [hx] at x0 x1 x2 x3 hok
      obtain ⟨xa, xb, xc, xd⟩ := x
      have HOf := Lib.hid (fun W => of_calls (xa, xb, xc, xd) hok W)
      obtain ⟨k, hk⟩ : ∃ k, keyS (xa, xb, xc, xd) = k := ⟨_, rfl⟩
      rw [hk] at HOf
      dsimp only at x0 x1 x2 x3 HOf
      have hoa := hok.1
      have hob := hok.2.1
      dsimp only at hoa hob
      obtain ⟨p, hp⟩ : ∃ p, xb % 24 = p := ⟨_, rfl⟩
      have hp24 : p < 24 := by omega
      obtain ⟨kd, hkd⟩ : ∃ kd, xa % 4 = kd := ⟨_, rfl⟩
      have hb1 : IntKind.i64.wrap (xb : Int) = (xb : Int) := by rw [IntKind.wrap_i64]; omega
      have hb2 : (xb : Int).tmod 24 = (p : Int) := by rw [Int.tmod_eq_emod_of_nonneg (by omega)]; omega
      have hb2' : (xb : Int) % 24 = (p : Int) := by omega
      have hb3 : IntKind.i64.wrap (p : Int) = (p : Int) := by rw [IntKind.wrap_i64]; omega
      have ha2 : (xa : Int).tmod 4 = (kd : Int) := by rw [Int.tmod_eq_emod_of_nonneg (by omega)]; omega
      have ha2' : (xa : Int) % 4 = (kd : Int) := by omega
      have ha3 : IntKind.u8.wrap (kd : Int) = (kd : Int) := by rw [IntKind.wrap_u8]; omega
      have hi1 : (i : Int) < (n0 : Int) := by omega
      have hwi : IntKind.i64.wrap ((i : Int) + 1) = (i : Int) + 1 := by rw [IntKind.wrap_i64]; omega
      have T5 := Lib.hid (HAr.out.al (.cells #[.int .u8 (xa : Int), .int .u8 (xb : Int), .int .u8 (xc : Int), .int .u8 (xd : Int)] 61))
      have X5 := Lib.hid (World.alloc_heap_new wr (.cells #[.int .u8 (xa : Int), .int .u8 (xb : Int), .int .u8 (xc : Int), .int .u8 (xd : Int)] 61))
      have hkd4 : kd < 4 := by omega
      clear hv3 hcells hx hok hk hp e1 hil hlc3 hn0 hkd
      go_upto_block 4 with fail
      clear hb1 hb2 hb2' hb3 ha2 ha2' ha3 x0 x1 x2 x3
      go_cut [18, 19, 20, 21, 22, 23, 24, 25, 26, 27, 28, 29, 30, 31] from 94 to 179 (fun s18 s19 s20 s21 s22 s23 s24 s25 s26 s27 s28 s29 s30 s31 wx => ∃ M', TwoAt w wx q q2 (fun _ => False) M' M')
      case first =>
        have hk4 : kd = 0 ∨ kd = 1 ∨ kd = 2 ∨ kd = 3 := by omega
        rcases hk4 with rfl | rfl | rfl | rfl
        · obtain ⟨E, M', hE⟩ : ∃ E M', putF M p k = (E, M') := ⟨_, _, rfl⟩
          have C1 := fun W q F (h : HA W q F 24 M) => putF_calls h p hp24 k
          rw [hE] at C1
          dsimp only at C1
          have hee : ((E : Int) != (E : Int)) = false := by simp
          have cl : ∀ W : World, W.heap[wr.heap.size]? = some (.cells #[.int .u8 (xa : Int), .int .u8 (xb : Int), .int .u8 (xc : Int), .int .u8 (xd : Int)] 61) → W.cell? ⟨wr.heap.size, 0, none⟩ = some (.int .u8 (xa : Int)) ∧ W.cell? ⟨wr.heap.size, 1, none⟩ = some (.int .u8 (xb : Int)) ∧ W.cell? ⟨wr.heap.size, 2, none⟩ = some (.int .u8 (xc : Int)) ∧ W.cell? ⟨wr.heap.size, 3, none⟩ = some (.int .u8 (xd : Int)) := fun W hx => ⟨by simp [World.cell?, hx], by simp [World.cell?, hx], by simp [World.cell?, hx], by simp [World.cell?, hx]⟩
          have CO := Lib.hid (show ∀ (W : World) (M1 M2 : Mp), TwoAt w W q q2 (fun j => False ∨ j = wr.heap.size) M1 M2 → W.heap[wr.heap.size]? = some (.cells #[.int .u8 (xa : Int), .int .u8 (xb : Int), .int .u8 (xc : Int), .int .u8 (xd : Int)] 61) → Calls Try.prog 25 #[.agg #[.int .u8 (xa : Int), .int .u8 (xb : Int), .int .u8 (xc : Int), .int .u8 (xd : Int)]] W fun e w' => e = .returned (.agg #[.int .i64 k.1, .int .i64 k.2.1, .int .i64 k.2.2]) ∧ TwoAt w w' q q2 (fun j => False ∨ j = wr.heap.size) M1 M2 ∧ w'.heap[wr.heap.size]? = some (.cells #[.int .u8 (xa : Int), .int .u8 (xb : Int), .int .u8 (xc : Int), .int .u8 (xd : Int)] 61) ∧ w'.cell? ⟨wr.heap.size, 0, none⟩ = some (.int .u8 (xa : Int)) ∧ w'.cell? ⟨wr.heap.size, 1, none⟩ = some (.int .u8 (xb : Int)) ∧ w'.cell? ⟨wr.heap.size, 2, none⟩ = some (.int .u8 (xc : Int)) ∧ w'.cell? ⟨wr.heap.size, 3, none⟩ = some (.int .u8 (xd : Int)) from fun W M1 M2 t x => (HOf.out W).mono fun e w' hh => ⟨hh.1, t.to hh.2, box_to x hh.2, cl w' (box_to x hh.2)⟩)
          have CP := Lib.hid (show ∀ (W : World), TwoAt w W q q2 (fun j => False ∨ j = wr.heap.size) M M → W.heap[wr.heap.size]? = some (.cells #[.int .u8 (xa : Int), .int .u8 (xb : Int), .int .u8 (xc : Int), .int .u8 (xd : Int)] 61) → Calls Try.prog 12 #[.pointer (some ⟨q, 0, none⟩), .int .i64 (p : Int), (.agg #[.int .i64 k.1, .int .i64 k.2.1, .int .i64 k.2.2])] W fun e w' => e = .returned (.int .i64 E) ∧ TwoAt w w' q q2 (fun j => False ∨ j = wr.heap.size) M' M ∧ w'.heap[wr.heap.size]? = some (.cells #[.int .u8 (xa : Int), .int .u8 (xb : Int), .int .u8 (xc : Int), .int .u8 (xd : Int)] 61) ∧ w'.cell? ⟨wr.heap.size, 0, none⟩ = some (.int .u8 (xa : Int)) ∧ w'.cell? ⟨wr.heap.size, 1, none⟩ = some (.int .u8 (xb : Int)) ∧ w'.cell? ⟨wr.heap.size, 2, none⟩ = some (.int .u8 (xc : Int)) ∧ w'.cell? ⟨wr.heap.size, 3, none⟩ = some (.int .u8 (xd : Int)) from fun W t x => (t.one (fun F h => C1 _ _ F h)).mono fun e w' hh => ⟨hh.1, hh.2.1, (hh.2.2 _ (.inr rfl)).trans x, cl w' ((hh.2.2 _ (.inr rfl)).trans x)⟩)
          have CQ := Lib.hid (show ∀ (W : World), TwoAt w W q q2 (fun j => False ∨ j = wr.heap.size) M' M → W.heap[wr.heap.size]? = some (.cells #[.int .u8 (xa : Int), .int .u8 (xb : Int), .int .u8 (xc : Int), .int .u8 (xd : Int)] 61) → Calls Try.prog 12 #[.pointer (some ⟨q2, 0, none⟩), .int .i64 (p : Int), (.agg #[.int .i64 k.1, .int .i64 k.2.1, .int .i64 k.2.2])] W fun e w' => e = .returned (.int .i64 E) ∧ TwoAt w w' q q2 (fun j => False ∨ j = wr.heap.size) M' M' ∧ w'.heap[wr.heap.size]? = some (.cells #[.int .u8 (xa : Int), .int .u8 (xb : Int), .int .u8 (xc : Int), .int .u8 (xd : Int)] 61) ∧ w'.cell? ⟨wr.heap.size, 0, none⟩ = some (.int .u8 (xa : Int)) ∧ w'.cell? ⟨wr.heap.size, 1, none⟩ = some (.int .u8 (xb : Int)) ∧ w'.cell? ⟨wr.heap.size, 2, none⟩ = some (.int .u8 (xc : Int)) ∧ w'.cell? ⟨wr.heap.size, 3, none⟩ = some (.int .u8 (xd : Int)) from fun W t x => (t.two (fun F h => C1 _ _ F h)).mono fun e w' hh => ⟨hh.1, hh.2.1, (hh.2.2 _ (.inr rfl)).trans x, cl w' ((hh.2.2 _ (.inr rfl)).trans x)⟩)
          have t5 := T5.out
          have x5 := X5.out
          clear C1 hE HOf T5 X5 HAr
          obtain ⟨W5, hW5⟩ : ∃ W5, wr.alloc (.cells #[.int .u8 (xa : Int), .int .u8 (xb : Int), .int .u8 (xc : Int), .int .u8 (xd : Int)] 61) = W5 := ⟨_, rfl⟩
          rw [hW5] at t5 x5 ⊢
          clear hW5
          have t5d : TwoAt w W5.drew q q2 (fun j => False ∨ j = wr.heap.size) M M := t5.to (Below.refl _ _).drew
          have x5d : W5.drew.heap[wr.heap.size]? = some (.cells #[.int .u8 (xa : Int), .int .u8 (xb : Int), .int .u8 (xc : Int), .int .u8 (xd : Int)] 61) := x5
          obtain ⟨a0, a1, a2, a3⟩ := cl _ x5
          obtain ⟨b0, b1, b2', b3⟩ := cl _ x5d
          clear cl
          go_upto_region 24 with fail
          go_cut [131] from 121 to 130 (fun s131 wx => s131 = .bool false ∧ TwoAt w wx q q2 (fun j => False ∨ j = wr.heap.size) M' M')
          case first =>
            go_region_law (first
              | (go_simp; go_at_call 25; refine (CO.out _ _ _ (by assumption) (by assumption)).mono ?_; rintro e w6 ⟨rfl, t6, x6, y0, y1, y2, y3⟩)
              | (go_simp; go_at_call 12; with_reducible refine (CP.out _ (by with_reducible assumption) (by with_reducible assumption)).mono ?_; rintro e w6 ⟨rfl, t6, x6, y0, y1, y2, y3⟩)
              | (go_simp; go_at_call 12; with_reducible refine (CQ.out _ (by with_reducible assumption) (by with_reducible assumption)).mono ?_; rintro e w6 ⟨rfl, t6, x6, y0, y1, y2, y3⟩)
              | fail)
            all_goals
              simp [Act.put]
              go_wp2_with fail
              go_meet
              exact ⟨by simp, by assumption⟩
          case rest =>
          obtain ⟨rfl, hTT⟩ := hcut
          have TT := Lib.hid hTT
          clear hTT CO CP CQ t5 x5 t5d x5d a0 a1 a2 a3 b0 b1 b2' b3
          go_wp2_with fail
          go_meet
          exact ⟨M', TT.out.less (fun j hj => hj.elim)⟩
        · skip
          obtain ⟨R, hR⟩ : ∃ R, chgF M p k = R := ⟨_, rfl⟩
          obtain ⟨⟨r1, r2, r3⟩, E, M'⟩ := R
          have C1 := Lib.hid (fun W q F (h : HA W q F 24 M) => chgF_calls h p hp24 k)
          rw [hR] at C1
          dsimp only at C1
          have hne := fun W => neqK r1 r2 r3 r1 r2 r3 W
          have hdd : decide ((r1, r2, r3) = (r1, r2, r3)) = true := decide_eq_true rfl
          rw [hdd, Bool.not_true] at hne
          have hee : ((E : Int) != (E : Int)) = false := by simp
          clear hdd
          clear hR
          go_wp2_with fail
          refine (HOf.out _).mono ?_
          rintro e w6 ⟨rfl, hb6⟩
          have T6 := Lib.hid (T5.out.to hb6)
          have X6 := Lib.hid (box_to X5.out hb6)
          clear hb6
          go_wp2_with fail
          refine (T6.out.one (fun F h => C1.out _ _ F h)).mono ?_
          rintro e w7 ⟨rfl, t7, k7⟩
          have T7 := Lib.hid (t7.al (.cells #[.int .i64 r1, .int .i64 r2, .int .i64 r3] 27))
          have hx7 := box_al ((k7 _ (.inr rfl)).trans X6.out) (.cells #[.int .i64 r1, .int .i64 r2, .int .i64 r3] 27)
          have X7 := Lib.hid hx7
          have B7 := Lib.hid (World.alloc_heap_new w7 (.cells #[.int .i64 r1, .int .i64 r2, .int .i64 r3] 27))
          have y0 : (w7.alloc (.cells #[.int .i64 r1, .int .i64 r2, .int .i64 r3] 27)).cell? ⟨wr.heap.size, 0, none⟩ = some (.int .u8 (xa : Int)) := by simp [World.cell?, hx7]
          have y1 : (w7.alloc (.cells #[.int .i64 r1, .int .i64 r2, .int .i64 r3] 27)).cell? ⟨wr.heap.size, 1, none⟩ = some (.int .u8 (xb : Int)) := by simp [World.cell?, hx7]
          have y2 : (w7.alloc (.cells #[.int .i64 r1, .int .i64 r2, .int .i64 r3] 27)).cell? ⟨wr.heap.size, 2, none⟩ = some (.int .u8 (xc : Int)) := by simp [World.cell?, hx7]
          have y3 : (w7.alloc (.cells #[.int .i64 r1, .int .i64 r2, .int .i64 r3] 27)).cell? ⟨wr.heap.size, 3, none⟩ = some (.int .u8 (xd : Int)) := by simp [World.cell?, hx7]
          clear t7 k7 hx7
          go_wp2_with fail
          refine (HOf.out _).mono ?_
          rintro e w8 ⟨rfl, hb8⟩
          have T8 := Lib.hid (T7.out.to hb8)
          have B8 := Lib.hid (box_to B7.out hb8)
          clear hb8 y0 y1 y2 y3
          go_wp2_with fail
          refine (T8.out.two (fun F h => C1.out _ _ F h)).mono ?_
          rintro e w9 ⟨rfl, t9, k9⟩
          have TT := Lib.hid (t9.al (.cells #[.int .i64 r1, .int .i64 r2, .int .i64 r3] 27))
          have hb18 := box_al ((k9 _ (.inr rfl)).trans B8.out) (.cells #[.int .i64 r1, .int .i64 r2, .int .i64 r3] 27)
          have z0 : (w9.alloc (.cells #[.int .i64 r1, .int .i64 r2, .int .i64 r3] 27)).cell? ⟨w7.heap.size, 0, none⟩ = some (.int .i64 r1) := by simp [World.cell?, hb18]
          have z1 : (w9.alloc (.cells #[.int .i64 r1, .int .i64 r2, .int .i64 r3] 27)).cell? ⟨w7.heap.size, 1, none⟩ = some (.int .i64 r2) := by simp [World.cell?, hb18]
          have z2 : (w9.alloc (.cells #[.int .i64 r1, .int .i64 r2, .int .i64 r3] 27)).cell? ⟨w7.heap.size, 2, none⟩ = some (.int .i64 r3) := by simp [World.cell?, hb18]
          clear t9 k9 hb18
          go_wp2_with fail
          go_meet
          exact ⟨M', TT.out.less (fun j hj => hj.elim)⟩
        · skip
          obtain ⟨R, hR⟩ : ∃ R, remF M p = R := ⟨_, rfl⟩
          obtain ⟨⟨r1, r2, r3⟩, E, M'⟩ := R
          have C1 := Lib.hid (fun W q F (h : HA W q F 24 M) => remF_calls h p hp24)
          rw [hR] at C1
          dsimp only at C1
          have hne := fun W => neqK r1 r2 r3 r1 r2 r3 W
          have hdd : decide ((r1, r2, r3) = (r1, r2, r3)) = true := decide_eq_true rfl
          rw [hdd, Bool.not_true] at hne
          have hee : ((E : Int) != (E : Int)) = false := by simp
          clear hdd
          clear hR
          go_wp2_with fail
          refine (T5.out.one (fun F h => C1.out _ _ F h)).mono ?_
          rintro e w7 ⟨rfl, t7, k7⟩
          have T7 := Lib.hid (t7.al (.cells #[.int .i64 r1, .int .i64 r2, .int .i64 r3] 27))
          have B7 := Lib.hid (World.alloc_heap_new w7 (.cells #[.int .i64 r1, .int .i64 r2, .int .i64 r3] 27))
          clear t7 k7
          go_wp2_with fail
          refine (T7.out.two (fun F h => C1.out _ _ F h)).mono ?_
          rintro e w9 ⟨rfl, t9, k9⟩
          have TT := Lib.hid (t9.al (.cells #[.int .i64 r1, .int .i64 r2, .int .i64 r3] 27))
          have hb18 := box_al ((k9 _ (.inr rfl)).trans B7.out) (.cells #[.int .i64 r1, .int .i64 r2, .int .i64 r3] 27)
          have z0 : (w9.alloc (.cells #[.int .i64 r1, .int .i64 r2, .int .i64 r3] 27)).cell? ⟨w7.heap.size, 0, none⟩ = some (.int .i64 r1) := by simp [World.cell?, hb18]
          have z1 : (w9.alloc (.cells #[.int .i64 r1, .int .i64 r2, .int .i64 r3] 27)).cell? ⟨w7.heap.size, 1, none⟩ = some (.int .i64 r2) := by simp [World.cell?, hb18]
          have z2 : (w9.alloc (.cells #[.int .i64 r1, .int .i64 r2, .int .i64 r3] 27)).cell? ⟨w7.heap.size, 2, none⟩ = some (.int .i64 r3) := by simp [World.cell?, hb18]
          clear t9 k9 hb18
          go_wp2_with fail
          go_meet
          exact ⟨M', TT.out.less (fun j hj => hj.elim)⟩
        · skip
          obtain ⟨R, hR⟩ : ∃ R, takF M = R := ⟨_, rfl⟩
          obtain ⟨P, ⟨r1, r2, r3⟩, E, M'⟩ := R
          have C1 := Lib.hid (fun W q F (h : HA W q F 24 M) => takF_calls h)
          rw [hR] at C1
          dsimp only at C1
          have hpp : ((P : Int) != (P : Int)) = false := by simp
          have hne := fun W => neqK r1 r2 r3 r1 r2 r3 W
          have hdd : decide ((r1, r2, r3) = (r1, r2, r3)) = true := decide_eq_true rfl
          rw [hdd, Bool.not_true] at hne
          have hee : ((E : Int) != (E : Int)) = false := by simp
          clear hdd
          clear hR
          go_wp2_with fail
          refine (T5.out.one (fun F h => C1.out _ _ F h)).mono ?_
          rintro e w7 ⟨rfl, t7, k7⟩
          have T7 := Lib.hid (t7.al (.cells #[.int .i64 r1, .int .i64 r2, .int .i64 r3] 27))
          have B7 := Lib.hid (World.alloc_heap_new w7 (.cells #[.int .i64 r1, .int .i64 r2, .int .i64 r3] 27))
          clear t7 k7
          go_wp2_with fail
          refine (T7.out.two (fun F h => C1.out _ _ F h)).mono ?_
          rintro e w9 ⟨rfl, t9, k9⟩
          have TT := Lib.hid (t9.al (.cells #[.int .i64 r1, .int .i64 r2, .int .i64 r3] 27))
          have hb18 := box_al ((k9 _ (.inr rfl)).trans B7.out) (.cells #[.int .i64 r1, .int .i64 r2, .int .i64 r3] 27)
          have z0 : (w9.alloc (.cells #[.int .i64 r1, .int .i64 r2, .int .i64 r3] 27)).cell? ⟨w7.heap.size, 0, none⟩ = some (.int .i64 r1) := by simp [World.cell?, hb18]
          have z1 : (w9.alloc (.cells #[.int .i64 r1, .int .i64 r2, .int .i64 r3] 27)).cell? ⟨w7.heap.size, 1, none⟩ = some (.int .i64 r2) := by simp [World.cell?, hb18]
          have z2 : (w9.alloc (.cells #[.int .i64 r1, .int .i64 r2, .int .i64 r3] 27)).cell? ⟨w7.heap.size, 2, none⟩ = some (.int .i64 r3) := by simp [World.cell?, hb18]
          clear t9 k9 hb18
          go_wp2_with fail
          go_meet
          exact ⟨M', TT.out.less (fun j hj => hj.elim)⟩
      case rest =>
        obtain ⟨M', hTT⟩ := hcut
        have TT := Lib.hid hTT
        clear hTT T5 X5 HAr HOf
        obtain ⟨F, F2, ha, hb', -, -⟩ := TT.out.ex
        have HO1 := Lib.hid (heapOrder_calls ha)
        have HB' := Lib.hid hb'
        obtain ⟨O, hO⟩ : ∃ O, ordM 24 M' = O := ⟨_, rfl⟩
        rw [hO] at HO1
        have HOe := Lib.hid hO
        clear ha hb' hO
        go_wp2_with fail
        refine HO1.out.mono ?_
        rintro e w10 ⟨g1, c1, rfl, hr1, -, hb10⟩
        have HO2 := Lib.hid (heapOrder_calls (HB'.out.below hb10))
        rw [HOe.out] at HO2
        have T10 := Lib.hid (TT.out.to hb10)
        have R1 := Lib.hid hr1
        clear hr1 hb10
        go_wp2_with fail
        refine HO2.out.mono ?_
        rintro e w11 ⟨g2, c2, rfl, hr2, -, hb11⟩
        have HS := Lib.hid (by have := same_calls g1 c1 g2 c2 (plc O) w11 (R1.out.below hb11) hr2; rw [plc_len] at this; exact this)
        have T11 := Lib.hid (T10.out.to hb11)
        clear hr2 hb11
        go_wp2_with fail
        refine HS.out.mono ?_
        rintro e w12 ⟨rfl, hb12⟩
        have T12 := Lib.hid (T11.out.to hb12)
        clear hb12
        go_wp2_with fail
        go_roundw
        case rel => exact ⟨i + 1, M', by omega, by go_num, T12.out.less (fun j hj => hj.elim)⟩
        case measure => simp [intOf]; omega
    · obtain rfl : i = n0 := by omega
      have hlt2 : ¬ (i : Int) < (i : Int) := by omega
      obtain ⟨F, F2, a, b', -, -⟩ := HAr.out.ex
      have HL1 := Lib.hid (len_calls a)
      have HL2 := Lib.hid (len_calls b')
      clear a b' hv3 hn0
      go_wp2_with fail
      refine HL1.out.mono ?_
      rintro e w5 ⟨rfl, rfl⟩
      go_wp2_with fail
      refine HL2.out.mono ?_
      rintro e w6 ⟨rfl, rfl⟩
      go_wp2_with fail
      go_ret
      exact ⟨by simp, HAr.out.below⟩
end Go.Proofs.Ytjnocijfjkbaiaa
