/-
  WALK of HeapWrong.
-/
import Derived.Test.YtbcnpcfobjdkaaaHeapWrongP
import Derived.Test.YtbcnpcfobjdkaaaHeapAwake
namespace Go.Proofs.Ytbcnpcfobjdkaaa
open Go.RowKit Go.Shelf

set_option maxRecDepth 100000 in
set_option maxHeartbeats 8000000 in
theorem heapWrong_walk (v : Value) (l : List Sm) (n : Int) (x : Sm) (w : World) (hv : SmRow w v l) (hx : SmOk x) (hn : -9223372036854775808 ≤ n ∧ n ≤ 9223372036854775807) :
    Calls Try.prog 9 #[v, .int .i64 n, .agg #[.int .u8 (x.1 : Int), .int .u8 (x.2.1 : Int), .int .u8 (x.2.2.1 : Int), .int .u8 (x.2.2.2 : Int)]] w fun e w' => e = .returned (.bool true) ∧ Below w.heap.size w w' := by
  have mixed : Try.prog.follows .mixedOrders = true := by kernel_rfl
  have HAw := Lib.hid awake_calls
  have HV := Lib.hid hv
  have HX := Lib.hid hx
  have HNn := Lib.hid hn
  obtain ⟨va, vc, rfl, -, -⟩ := hv.shape
  clear hv hx hn
  obtain ⟨xa, xb, xc, xd⟩ := x
  dsimp only
  go_enter Try.func9, Try.ntmps9
  go_wp2_with fail
  refine (HAw.out _).mono ?_
  rintro e w1 ⟨rfl, hb1⟩
  have hb0 : Below w.heap.size w (w.alloc (.cells #[.int .u8 (xa : Int), .int .u8 (xb : Int), .int .u8 (xc : Int), .int .u8 (xd : Int)] 61)) := (Below.refl _ w).alloc (Nat.le_refl _) _
  have hx0 : XBox (w.alloc (.cells #[.int .u8 (xa : Int), .int .u8 (xb : Int), .int .u8 (xc : Int), .int .u8 (xd : Int)] 61)) w.heap.size xa xb xc xd := World.alloc_heap_new w _
  have HB1 := Lib.hid (hb0.trans (hb1.mono hb0.size))
  have HX1 := Lib.hid (hx0.to hb1)
  have HMd := Lib.hid (made_calls _ l w1 ((HV.out.below hb0).below hb1))
  clear hb1 hb0 hx0
  go_wp2_with fail
  refine HMd.out.mono ?_
  rintro e w2 ⟨q, K, T, F, rfl, hA, hF, hT, hb2⟩
  have HB2 := Lib.hid (HB1.out.trans (hb2.mono HB1.out.size))
  have HX2 := Lib.hid (HX1.out.to hb2)
  have HA := Lib.hid hA; have HF := Lib.hid hF; have HT := Lib.hid hT
  clear hA hF hT hb2
  have i53 : (Try.prog.info? 53).map (·.size) = some (kcs K).size := by rw [kcs_size]; exact info_karr
  have i54 : (Try.prog.info? 54).map (·.size) = some (tcs T).size := by rw [tcs_size]; exact info_tarr
  have HI := Lib.hid (And.intro i53 i54)
  clear i53 i54
  obtain ⟨h3, h4, hb3⟩ := two_rows w2 K T (kcs fun _ => (0, 0, 0)) (tcs fun _ => false) (kcs_size _) (tcs_size _)
  have H3 := Lib.hid h3; have H4 := Lib.hid h4; have H5 := Lib.hid hb3
  clear h3 h4 hb3
  go_upto_region 6 with (first
    | (refine wpList_alloc_row rfl 53 rfl _ zero_karr ?_)
    | (refine wpList_alloc_row rfl 54 rfl _ zero_tarr ?_)
    | (refine wpList_store_row rfl 53 _ _ rfl w2.heap.size (kcs K) (by simp [Act.eval, Act.put]) (by simp [Act.eval, Act.put]) 53 (kcs fun _ => (0, 0, 0)) ((Below.heap_alloc _ _ _ (by simp)).trans (World.alloc_heap_new w2 _)) HI.out.1 (by rw [kcs_size, kcs_size]) (kcs_one K) ?_)
    | (refine wpList_store_row rfl 54 _ _ rfl (w2.heap.size + 1) (tcs T) (by simp [Act.eval, Act.put]) (by simp [Act.eval, Act.put]) 54 (tcs fun _ => false) ((setRow_other _ _ _ _ (by omega)).trans (by have := World.alloc_heap_new (w2.alloc (.cells (kcs fun _ => (0, 0, 0)) 53)) (.cells (tcs fun _ => false) 54); rwa [World.size_alloc] at this)) HI.out.2 (by rw [tcs_size, tcs_size]) (tcs_one T) ?_)
    | fail)
  have hAH := HA.out.below H5.out
  have HOr := Lib.hid (heapOrder_calls hAH)
  have HX3 := Lib.hid (HX2.out.to H5.out)
  obtain ⟨W3, hW3⟩ : ∃ W3, W3 = (((w2.alloc (.cells (kcs fun _ => (0, 0, 0)) 53)).alloc (.cells (tcs fun _ => false) 54)).setRow w2.heap.size (kcs K)).setRow (w2.heap.size + 1) (tcs T) := ⟨_, rfl⟩
  rw [← hW3] at HOr H3 H4 H5 hAH HX3 ⊢
  have HA3 := Lib.hid hAH
  clear hW3 hAH HMd HAw HV HI HX1 HX2
  go_wp2_with (first
    | (go_at_call 22; refine HOr.out.mono ?_; rintro e w4 ⟨g, c, rfl, hr, hgl, hb4⟩)
    | fail)
  have HB4 := Lib.hid ((HB2.out.trans (H5.out.mono HB2.out.size)).trans (hb4.mono (HB2.out.trans (H5.out.mono HB2.out.size)).size))
  have HX4 := Lib.hid (HX3.out.to hb4)
  have hS : WrAt w w4 q w2.heap.size g c K T (plc (ordM 24 (mKT K T))) F := ⟨HA3.out.below hb4, (hb4.block _ (Array.getElem?_eq_some_iff.1 H3.out).1).trans H3.out, (hb4.block _ (Array.getElem?_eq_some_iff.1 H4.out).1).trans H4.out, hr, HB4.out⟩
  have HS := Lib.hid hS
  have HWs := Lib.hid (show w.heap.size ≤ w2.heap.size from HB2.out.size)
  clear hS hr hgl hb4 HOr H3 H4 H5 HA3 HB1 HB2 HB4 HX3
  generalize w2.heap.size = b at HS HWs HF HT HA ⊢
  clear HF HT HA
  have hn1 := HNn.out.1
  have hn2 := HNn.out.2
  obtain ⟨m, hm⟩ : ∃ m, (ordM 24 (mKT K T)).length = m := ⟨_, rfl⟩
  have HM := Lib.hid hm
  rw [hm]
  clear hm
  go_wp2_with fail
  have hS2 := HS.out.to ((Below.refl _ w4).alloc (Nat.le_refl _) (.cells #[.int .i64 (min n (-1)), .int .i64 (max n 24)] 3))
  have HQ := Lib.hid (WrIn.mk hS2 (HX4.out.to ((Below.refl _ w4).alloc (Nat.le_refl _) _)) (two_new w4 (min n (-1)) (max n 24) 3))
  have hP : min n (-1) < 0 ∧ 24 ≤ max n 24 := by omega
  generalize min n (-1) = p0 at HQ hP ⊢
  generalize max n 24 = p1 at HQ hP ⊢
  generalize w4.alloc (.cells #[.int .i64 p0, .int .i64 p1] 3) = w5 at HQ ⊢
  clear hS2 HS HX4
  generalize w4.heap.size = lb at HQ ⊢
  have HP := Lib.hid hP
  clear hP hn1 hn2
  go_loopw [50] (fun s50 wr => ∃ k : Nat, k ≤ 2 ∧ s50 = .int .i64 (k : Int) ∧ WrIn w wr q b g c K T (plc (ordM 24 (mKT K T))) F xa xb xc xd lb p0 p1) (fun s50 _ => 2 - (intOf s50).toNat)
  case atStart => exact ⟨0, by omega, rfl, HQ.out⟩
  case round =>
    obtain ⟨k, hk, rfl, hA⟩ := hrel
    have HA := Lib.hid hA
    clear HQ hA
    by_cases hlt : k < 2
    · have hk2 : (k : Int) < 2 := by omega
      have hwk : IntKind.i64.wrap ((k : Int) + 1) = (k : Int) + 1 := by rw [IntKind.wrap_i64]; omega
      obtain ⟨p, hpc, hpp⟩ := HA.out.two.cell k hlt
      have hpo : p < 0 ∨ ((24 : Nat) : Int) ≤ p := by
        have := HP.out
        rcases hpp with rfl | rfl
        · exact .inl this.1
        · exact .inr this.2
      have HPo := Lib.hid hpo
      clear hpo hpp
      go_wp2_with fail
      clear hpc
      refine (remove_no HA.out.here.heap p 80 (by decide) (finds_out p HPo.out)).mono ?_
      rintro e wA ⟨rfl, hb⟩
      have HA1 := Lib.hid ((HA.out.to hb).to (below_key wA (0, 0, 0)))
      clear hb
      obtain ⟨x0, x1, x2, x3⟩ := HA1.out.box.cells
      clear HA
      go_wp2_with fail
      refine (of_calls (xa, xb, xc, xd) HX.out _).mono ?_
      rintro e wB ⟨rfl, hb⟩
      have HA2 := Lib.hid (HA1.out.to hb)
      clear hb x0 x1 x2 x3 HA1
      go_wp2_with fail
      refine (change_no HA2.out.here.heap p (keyS (xa, xb, xc, xd)) 80 (by decide) (finds_out p HPo.out)).mono ?_
      rintro e wC ⟨rfl, hb⟩
      have HA3 := Lib.hid ((HA2.out.to hb).to (below_key wC (0, 0, 0)))
      clear hb HA2
      go_wp2_with fail
      refine (key_no HA3.out.here.heap p 80 (by decide) (finds_out p HPo.out)).mono ?_
      rintro e wD ⟨rfl, hb⟩
      have HA4 := Lib.hid ((HA3.out.to hb).to (below_key wD (0, 0, 0)))
      clear hb HA3
      obtain ⟨x0, x1, x2, x3⟩ := HA4.out.box.cells
      go_wp2_with fail
      refine (of_calls (xa, xb, xc, xd) HX.out _).mono ?_
      rintro e wE ⟨rfl, hb⟩
      have HA5 := Lib.hid (HA4.out.to hb)
      clear hb x0 x1 x2 x3 HA4
      go_wp2_with fail
      refine (put_out HA5.out.here.heap p HPo.out (keyS (xa, xb, xc, xd))).mono ?_
      rintro e wG ⟨rfl, hb⟩
      have HA6 := Lib.hid (HA5.out.to hb)
      clear hb HA5
      go_wp2_with fail
      refine (has_no HA6.out.here.heap p 80 (by decide) (finds_out p HPo.out)).mono ?_
      rintro e wH ⟨rfl, rfl⟩
      go_wp2_with fail
      go_roundw
      case rel => exact ⟨k + 1, by omega, by go_num, HA6.out⟩
      case measure => simp [intOf]; omega
    · obtain rfl : k = 2 := by omega
      obtain ⟨x0, x1, x2, x3⟩ := HA.out.box.cells
      obtain ⟨y0, y1, y2, y3⟩ := HX.out
      dsimp only at y0 y1 y2 y3
      obtain ⟨P, hP⟩ : ∃ P : Nat, xb % 24 = P := ⟨_, rfl⟩
      have hP24 : P < 24 := by omega
      have hPi : (xb : Int) % 24 = (P : Int) := by omega
      have hP1 : (P : Int) < 24 := by omega
      obtain ⟨tP, -⟩ := HA.out.here.there.cells P hP24
      have HPl := Lib.hid hP24
      clear hP hk hlt
      cases hT : T P
      case' false =>
        have hM : mKT K T P = none := by unfold mKT; simp [hT]
        have HMn := Lib.hid hM
        clear hM
        rw [hT] at tP
        have HTp := Lib.hid hT
        clear hT
        go_wp2_with fail
        refine (remove_no HA.out.here.heap (P : Int) 6 (by decide) (finds_none P HPl.out HMn.out)).mono ?_
        rintro e wA ⟨rfl, hb⟩
        have HA1 := Lib.hid ((HA.out.to hb).to (below_key wA (0, 0, 0)))
        clear hb x0 x1 x2 x3 HA tP
        obtain ⟨x0, x1, x2, x3⟩ := HA1.out.box.cells
        go_wp2_with fail
        refine (of_calls (xa, xb, xc, xd) HX.out _).mono ?_
        rintro e wB ⟨rfl, hb⟩
        have HA2 := Lib.hid (HA1.out.to hb)
        clear hb x0 x1 x2 x3 HA1
        go_wp2_with fail
        refine (change_no HA2.out.here.heap (P : Int) (keyS (xa, xb, xc, xd)) 6 (by decide) (finds_none P HPl.out HMn.out)).mono ?_
        rintro e wC ⟨rfl, hb⟩
        have HA := Lib.hid ((HA2.out.to hb).to (below_key wC (0, 0, 0)))
        clear hb HA2
        go_upto_region 25 with fail
        generalize wC.alloc (.cells #[.int .i64 0, .int .i64 0, .int .i64 0] 27) = wV at HA ⊢
      case' true =>
        have hM : mKT K T P = some (K P) := by unfold mKT; rw [if_pos hT]
        have HMn := Lib.hid hM
        clear hM
        rw [hT] at tP
        have HTp := Lib.hid hT
        clear hT
        go_wp2_with fail
        refine (key_yes HA.out.here.heap P (K P) HMn.out).mono ?_
        rintro e wA ⟨rfl, hb⟩
        have HA1 := Lib.hid ((HA.out.to hb).to (below_key wA (K P)))
        have HK1 := Lib.hid (show KBox _ wA.heap.size (K P) from World.alloc_heap_new wA (.cells #[.int .i64 (K P).1, .int .i64 (K P).2.1, .int .i64 (K P).2.2] 27))
        clear hb x0 x1 x2 x3 HA tP
        go_wp2_with fail
        generalize wA.alloc (.cells #[.int .i64 (K P).1, .int .i64 (K P).2.1, .int .i64 (K P).2.2] 27) = wK at HA1 HK1 ⊢
        generalize wA.heap.size = kb at HK1 ⊢
        refine (wpIn_wide (n := 5)).1 ?_
        refine wpIn_region_inv (by kernel_rfl) (by kernel_rfl) (fun B a wc => a = { tmps := #[Value.slice va l.length vc, Value.int IntKind.i64 n, Value.agg #[Value.int IntKind.u8 (xa : Int), Value.int IntKind.u8 (xb : Int), Value.int IntKind.u8 (xc : Int), Value.int IntKind.u8 (xd : Int)], undef, undef, Value.pointer (some { block := w.heap.size, off := 0 }), u6, Value.pointer (some { block := q, off := 0 }), Value.pointer (some { block := b, off := 0 }), Value.pointer (some { block := b + 1, off := 0 }), Value.bool true, Value.slice (some { block := g, off := 0 }) m c, undef, u13, u14, u15, u16, u17, u18, u19, Value.int IntKind.i64 (P : Int), Value.pointer (some { block := kb, off := 0 }), Value.int IntKind.i64 0, undef, undef, undef, undef, undef, undef, undef, undef, Value.bool true, Value.bool false, Value.tuple #[Value.pointer (some { block := q, off := 0 }), Value.agg (kcs K), Value.agg (tcs T), Value.bool true], Value.slice va l.length vc, Value.tuple #[Value.pointer (some { block := q, off := 0 }), Value.agg (kcs K), Value.agg (tcs T), Value.bool true], Value.pointer (some { block := q, off := 0 }), Value.agg (kcs K), Value.agg (tcs T), Value.bool true, Value.bool true, Value.bool false, Value.pointer (some { block := q, off := 0 }), Value.slice (some { block := g, off := 0 }) m c, Value.int IntKind.i64 n, Value.int IntKind.i64 p0, Value.int IntKind.i64 n, Value.int IntKind.i64 p1, Value.slice (some { block := lb, off := 0 }) 2 2, Value.int IntKind.i64 2, Value.int IntKind.i64 2, Value.bool false, u52, u53, u54, u55, u56, u57, u58, u59, u60, u61, u62, u63, u64, u65, u66, u67, u68, u69, u70, u71, u72, u73, u74, u75, u76, u77, u78, u79, u80, u81, u82, u83, u84, u85, u86, u87, u88, u89, u90, u91, u92, u93, u94, u95, u96, u97, Value.pointer (some { block := w.heap.size, off := 1 }), Value.int IntKind.u8 (xb : Int), Value.int IntKind.i64 (xb : Int), Value.int IntKind.i64 (P : Int), Value.int IntKind.i64 (P : Int), Value.pointer (some { block := b + 1, off := P }), Value.bool true, Value.tuple #[Value.agg #[Value.int IntKind.i64 (K P).fst, Value.int IntKind.i64 (K P).snd.fst, Value.int IntKind.i64 (K P).snd.snd], Value.int IntKind.i64 0], Value.pointer (some { block := q, off := 0 }), Value.int IntKind.i64 (P : Int), Value.tuple #[Value.agg #[Value.int IntKind.i64 (K P).fst, Value.int IntKind.i64 (K P).snd.fst, Value.int IntKind.i64 (K P).snd.snd], Value.int IntKind.i64 0], Value.agg #[Value.int IntKind.i64 (K P).fst, Value.int IntKind.i64 (K P).snd.fst, Value.int IntKind.i64 (K P).snd.snd], Value.int IntKind.i64 0, bif B 0 then .pointer (some ⟨q, 0, none⟩) else undef, bif B 1 then .int .i64 (P : Int) else undef, bif B 2 then .agg #[.int .u8 (xa : Int), .int .u8 (xb : Int), .int .u8 (xc : Int), .int .u8 (xd : Int)] else undef, bif B 3 then .agg #[.int .i64 (keyS (xa, xb, xc, xd)).1, .int .i64 (keyS (xa, xb, xc, xd)).2.1, .int .i64 (keyS (xa, xb, xc, xd)).2.2] else undef, bif B 4 then .int .i64 81 else undef, bif B 5 then .bool false else undef, bif B 6 then .bool false else undef, bif B 7 then .int .i64 0 else undef, bif B 8 then .bool false else undef, bif B 9 then .bool false else undef, bif B 10 then .bool false else undef, bif B 11 then .agg #[.int .i64 (K P).1, .int .i64 (K P).2.1, .int .i64 (K P).2.2] else undef, bif B 12 then .int .i64 (P : Int) else undef, bif B 13 then .pointer (some ⟨b, P * 3, none⟩) else undef, bif B 14 then .agg #[.int .i64 (K P).1, .int .i64 (K P).2.1, .int .i64 (K P).2.2] else undef, bif B 15 then .bool false else undef, bif B 16 then .bool false else undef, undef, undef, undef, undef, undef, undef, undef, undef, undef, undef, undef, undef, undef, undef, undef, undef, undef, undef, undef, undef, undef, undef, undef, undef, undef, undef, undef, undef, undef, undef, undef, undef, undef, undef, undef, undef, undef, undef, undef, undef, undef, undef, undef, undef, undef, undef, undef, undef, undef, undef, undef, undef, undef, undef, undef], defers := [] } ∧ Below wK.heap.size wK wc) ?init ?step ?fin
        case init => exact ⟨rfl, (Below.refl _ _).drew⟩
        case step =>
          intro B j a wc hj hbj hcl hw hI K' hK
          obtain ⟨rfl, hB⟩ := hI
          have hj : j < 17 := hj
          clear hcl
          obtain rfl | rfl | rfl | rfl | rfl | rfl | rfl | rfl | rfl | rfl | rfl | rfl | rfl | rfl | rfl | rfl | rfl : j = 0 ∨ j = 1 ∨ j = 2 ∨ j = 3 ∨ j = 4 ∨ j = 5 ∨ j = 6 ∨ j = 7 ∨ j = 8 ∨ j = 9 ∨ j = 10 ∨ j = 11 ∨ j = 12 ∨ j = 13 ∨ j = 14 ∨ j = 15 ∨ j = 16 := by omega
          all_goals (simp [waits, Region.binds] at hw)
          · simp only [hbj, cond_false]
            refine wpOpIn_step rfl ?_
            intro K'' hK'
            go_simp
            exact hK' _ _ (hK _ _ ⟨by simp [upd], hB⟩)
          · simp only [hbj, cond_false]
            refine wpOpIn_step rfl ?_
            intro K'' hK'
            go_simp
            exact hK' _ _ (hK _ _ ⟨by simp [upd], hB⟩)
          · obtain ⟨x0, x1, x2, x3⟩ := (HA1.out.to hB).box.cells
            simp only [hbj, cond_false]
            refine wpOpIn_step rfl ?_
            intro K'' hK'
            go_simp
            exact hK' _ _ (hK _ _ ⟨by simp [upd], hB⟩)
          · simp only [hbj, hw, cond_true, cond_false]
            refine wpOpIn_step rfl ?_
            intro K'' hK'
            go_simp
            refine ⟨trivial, (callsIn_wide.2 (of_calls (xa, xb, xc, xd) HX.out wc)).mono ?_⟩
            rintro e w' ⟨rfl, hb⟩
            exact hK' _ _ (hK _ _ ⟨by simp [upd, hw], hB.trans (hb.mono hB.size)⟩)
          · simp only [hbj, hw, cond_true, cond_false]
            refine wpOpIn_step rfl ?_
            intro K'' hK'
            go_simp
            refine ⟨trivial, (callsIn_wide.2 (put_there (HA1.out.to hB).here.heap P (K P) HMn.out (keyS (xa, xb, xc, xd)))).mono ?_⟩
            rintro e w' ⟨rfl, hb⟩
            exact hK' _ _ (hK _ _ ⟨by simp [upd, hw], hB.trans (hb.mono hB.size)⟩)
          · simp only [hbj, hw, cond_true, cond_false]
            refine wpOpIn_step rfl ?_
            intro K'' hK'
            go_simp
            exact hK' _ _ (hK _ _ ⟨by simp [upd, hw], hB⟩)
          · simp only [hbj, hw, cond_true, cond_false]
            refine wpOpIn_step rfl ?_
            intro K'' hK'
            go_simp
            exact hK' _ _ (hK _ _ ⟨by simp [upd, hw], hB⟩)
          · simp only [hbj, hw, cond_true, cond_false]
            refine wpOpIn_step rfl ?_
            intro K'' hK'
            go_simp
            exact hK' _ _ (hK _ _ ⟨by simp [upd, hw], hB⟩)
          · simp only [hbj, hw, cond_true, cond_false]
            refine wpOpIn_step rfl ?_
            intro K'' hK'
            go_simp
            exact hK' _ _ (hK _ _ ⟨by simp [upd, hw], hB⟩)
          · simp only [hbj, hw, cond_true, cond_false]
            refine wpOpIn_step rfl ?_
            intro K'' hK'
            go_simp
            exact hK' _ _ (hK _ _ ⟨by simp [upd, hw], hB⟩)
          · simp only [hbj, hw, cond_true, cond_false]
            refine wpOpIn_step rfl ?_
            intro K'' hK'
            go_simp
            exact hK' _ _ (hK _ _ ⟨by simp [upd, hw], hB⟩)
          · obtain ⟨v0, v1, v2, -⟩ := KBox.cells ((hB.block _ (Array.getElem?_eq_some_iff.1 HK1.out).1).trans HK1.out)
            simp only [hbj, hw, cond_true, cond_false]
            refine wpOpIn_step rfl ?_
            intro K'' hK'
            go_simp
            exact hK' _ _ (hK _ _ ⟨by simp [upd, hw], hB⟩)
          · simp only [hbj, hw, cond_true, cond_false]
            refine wpOpIn_step rfl ?_
            intro K'' hK'
            go_simp
            exact hK' _ _ (hK _ _ ⟨by simp [upd, hw], hB⟩)
          · simp only [hbj, hw, cond_true, cond_false]
            refine wpOpIn_step rfl ?_
            intro K'' hK'
            go_simp
            exact hK' _ _ (hK _ _ ⟨by simp [upd, hw], hB⟩)
          · obtain ⟨z0, z1, z2, -⟩ := (HA1.out.to hB).here.keys.cells P HPl.out
            simp only [hbj, hw, cond_true, cond_false]
            refine wpOpIn_step rfl ?_
            intro K'' hK'
            go_simp
            exact hK' _ _ (hK _ _ ⟨by simp [upd, hw], hB⟩)
          · simp only [hbj, hw, cond_true, cond_false]
            refine wpOpIn_step rfl ?_
            intro K'' hK'
            go_simp
            exact hK' _ _ (hK _ _ ⟨by simp [upd, hw], hB⟩)
          · simp only [hbj, hw, cond_true, cond_false]
            refine wpOpIn_step rfl ?_
            intro K'' hK'
            go_simp
            exact hK' _ _ (hK _ _ ⟨by simp [upd, hw], hB⟩)
        case' fin =>
          intro B a wV hall hI
          obtain ⟨rfl, hB⟩ := hI
          simp only [hall 0 (by decide), hall 1 (by decide), hall 2 (by decide), hall 3 (by decide), hall 4 (by decide), hall 5 (by decide), hall 6 (by decide), hall 7 (by decide), hall 8 (by decide), hall 9 (by decide), hall 10 (by decide), hall 11 (by decide), hall 12 (by decide), hall 13 (by decide), hall 14 (by decide), hall 15 (by decide), hall 16 (by decide), cond_true]
          clear hall
          have HA := Lib.hid (HA1.out.to hB)
          clear hB HA1 HK1
          have hn1 := HNn.out.1
          have hn2 := HNn.out.2
          go_upto_region 25 with fail
      all_goals
        have hn1 := HNn.out.1
        have hn2 := HNn.out.2
        go_wp2_with fail
        have hS2 := HA.out.here.to ((Below.refl _ wV).alloc (Nat.le_refl _) (.cells #[.int .i64 (min n (-1)), .int .i64 (max n 4097)] 3))
        have HQ := Lib.hid (WrIn.mk hS2 (HA.out.box.to ((Below.refl _ wV).alloc (Nat.le_refl _) _)) (two_new wV (min n (-1)) (max n 4097) 3))
        have hP2 : min n (-1) < 0 ∧ 4096 < max n 4097 := by omega
        generalize min n (-1) = r0 at HQ hP2 ⊢
        generalize max n 4097 = r1 at HQ hP2 ⊢
        generalize wV.alloc (.cells #[.int .i64 r0, .int .i64 r1] 3) = w6 at HQ ⊢
        clear hS2 HA
        generalize wV.heap.size = ld at HQ ⊢
        have HP2 := Lib.hid hP2
        clear hP2 hn1 hn2
        go_loopw [154] (fun s154 wx => ∃ k : Nat, k ≤ 2 ∧ s154 = .int .i64 (k : Int) ∧ WrIn w wx q b g c K T (plc (ordM 24 (mKT K T))) F xa xb xc xd ld r0 r1) (fun s154 _ => 2 - (intOf s154).toNat)
        case atStart => exact ⟨0, by omega, rfl, HQ.out⟩
        case round =>
          obtain ⟨k, hk, rfl, hA⟩ := hrel
          have HA := Lib.hid hA
          clear HQ hA
          by_cases hlt : k < 2
          · have hk2 : (k : Int) < 2 := by omega
            have hwk : IntKind.i64.wrap ((k : Int) + 1) = (k : Int) + 1 := by rw [IntKind.wrap_i64]; omega
            obtain ⟨p, hpc, hpp⟩ := HA.out.two.cell k hlt
            have hpo : p < 0 ∨ 4096 < p := by
              have := HP2.out
              rcases hpp with rfl | rfl
              · exact .inl this.1
              · exact .inr this.2
            have HPo := Lib.hid hpo
            clear hpo hpp
            go_wp2_with fail
            refine (new_no p HPo.out _).mono ?_
            rintro e wz ⟨rfl, rfl⟩
            go_wp2_with fail
            go_roundw
            case rel => exact ⟨k + 1, by omega, by go_num, HA.out⟩
            case measure => simp [intOf]; omega
          · obtain rfl : k = 2 := by omega
            obtain ⟨tP, -⟩ := HA.out.here.there.cells P HPl.out
            rw [HTp.out] at tP
            go_wp2_with fail
            first
            | have h0 : mKT K T P = some (K P) := HMn.out
              clear h0
              have HSame := Lib.hid (show ∀ (g1 c1 : Nat) (W : World), IR W g1 c1 (plc (ordM 24 (mKT K T))) → IR W g c (plc (ordM 24 (mKT K T))) → Calls Try.prog 28 #[.slice (some ⟨g1, 0, none⟩) m c1, .slice (some ⟨g, 0, none⟩) m c] W fun e w' => e = .returned (.bool true) ∧ Below W.heap.size W w' from fun g1 c1 W h h' => by
                have := same_calls g1 c1 g c (plc (ordM 24 (mKT K T))) W h h'
                rw [plc_len, HM.out] at this
                exact this)
              refine (wpIn_wide (n := 5)).1 ?_
              refine wpIn_region_inv (by kernel_rfl) (by kernel_rfl) (fun B a wc => ∃ g' c' : Nat, a = { tmps := #[Value.slice va l.length vc, Value.int IntKind.i64 n, Value.agg #[Value.int IntKind.u8 (xa : Int), Value.int IntKind.u8 (xb : Int), Value.int IntKind.u8 (xc : Int), Value.int IntKind.u8 (xd : Int)], undef, undef, Value.pointer (some { block := w.heap.size, off := 0 }), bif B 13 then .bool true else u6, Value.pointer (some { block := q, off := 0 }), Value.pointer (some { block := b, off := 0 }), Value.pointer (some { block := b + 1, off := 0 }), Value.bool true, Value.slice (some { block := g, off := 0 }) m c, undef, u13, u14, u15, u16, u17, u18, u19, Value.int IntKind.i64 (P : Int), Value.pointer (some { block := kb, off := 0 }), Value.int IntKind.i64 0, undef, undef, undef, undef, undef, u28, u29, u30, Value.bool true, Value.bool false, Value.tuple #[Value.pointer (some { block := q, off := 0 }), Value.agg (kcs K), Value.agg (tcs T), Value.bool true], Value.slice va l.length vc, Value.tuple #[Value.pointer (some { block := q, off := 0 }), Value.agg (kcs K), Value.agg (tcs T), Value.bool true], Value.pointer (some { block := q, off := 0 }), Value.agg (kcs K), Value.agg (tcs T), Value.bool true, Value.bool true, Value.bool false, Value.pointer (some { block := q, off := 0 }), Value.slice (some { block := g, off := 0 }) m c, Value.int IntKind.i64 n, Value.int IntKind.i64 p0, Value.int IntKind.i64 n, Value.int IntKind.i64 p1, Value.slice (some { block := lb, off := 0 }) 2 2, Value.int IntKind.i64 2, Value.int IntKind.i64 2, Value.bool false, u52, u53, u54, u55, u56, u57, u58, u59, u60, u61, u62, u63, u64, u65, u66, u67, u68, u69, u70, u71, u72, u73, u74, u75, u76, u77, u78, u79, u80, u81, u82, u83, u84, u85, u86, u87, u88, u89, u90, u91, u92, u93, u94, u95, u96, u97, Value.pointer (some { block := w.heap.size, off := 1 }), Value.int IntKind.u8 (xb : Int), Value.int IntKind.i64 (xb : Int), Value.int IntKind.i64 (P : Int), Value.int IntKind.i64 (P : Int), Value.pointer (some { block := b + 1, off := P }), Value.bool true, Value.tuple #[Value.agg #[Value.int IntKind.i64 (K P).fst, Value.int IntKind.i64 (K P).snd.fst, Value.int IntKind.i64 (K P).snd.snd], Value.int IntKind.i64 0], Value.pointer (some { block := q, off := 0 }), Value.int IntKind.i64 (P : Int), Value.tuple #[Value.agg #[Value.int IntKind.i64 (K P).fst, Value.int IntKind.i64 (K P).snd.fst, Value.int IntKind.i64 (K P).snd.snd], Value.int IntKind.i64 0], Value.agg #[Value.int IntKind.i64 (K P).fst, Value.int IntKind.i64 (K P).snd.fst, Value.int IntKind.i64 (K P).snd.snd], Value.int IntKind.i64 0, Value.pointer (some { block := q, off := 0 }), Value.int IntKind.i64 (P : Int), Value.agg #[Value.int IntKind.u8 (xa : Int), Value.int IntKind.u8 (xb : Int), Value.int IntKind.u8 (xc : Int), Value.int IntKind.u8 (xd : Int)], Value.agg #[Value.int IntKind.i64 (keyS (xa, xb, xc, xd)).fst, Value.int IntKind.i64 (keyS (xa, xb, xc, xd)).snd.fst, Value.int IntKind.i64 (keyS (xa, xb, xc, xd)).snd.snd], Value.int IntKind.i64 81, Value.bool false, Value.bool false, Value.int IntKind.i64 0, Value.bool false, Value.bool false, Value.bool false, Value.agg #[Value.int IntKind.i64 (K P).fst, Value.int IntKind.i64 (K P).snd.fst, Value.int IntKind.i64 (K P).snd.snd], Value.int IntKind.i64 (P : Int), Value.pointer (some { block := b, off := P * 3 }), Value.agg #[Value.int IntKind.i64 (K P).fst, Value.int IntKind.i64 (K P).snd.fst, Value.int IntKind.i64 (K P).snd.snd], Value.bool false, Value.bool false, undef, undef, undef, undef, undef, undef, undef, undef, undef, undef, undef, undef, undef, undef, undef, undef, undef, undef, undef, undef, Value.int IntKind.i64 n, Value.int IntKind.i64 r0, Value.int IntKind.i64 n, Value.int IntKind.i64 r1, Value.slice (some { block := ld, off := 0 }) 2 2, Value.int IntKind.i64 2, Value.int IntKind.i64 (2 : Int), Value.bool false, u156, u157, u158, u159, u160, u161, u162, u163, u164, u165, u166, u167, u168, u169, bif B 0 then .pointer (some ⟨q, 0, none⟩) else undef, bif B 1 then .slice (some ⟨g', 0, none⟩) m c' else undef, bif B 2 then .slice (some ⟨g, 0, none⟩) m c else undef, bif B 3 then .bool true else undef, bif B 4 then .bool true else undef, bif B 5 then .pointer (some ⟨q, 0, none⟩) else undef, bif B 6 then .int .i64 (P : Int) else undef, bif B 7 then .bool true else undef, bif B 8 then .int .i64 (P : Int) else undef, bif B 9 then .pointer (some ⟨b + 1, P, none⟩) else undef, bif B 10 then .bool true else undef, bif B 11 then .bool true else undef, bif B 12 then .bool true else undef], defers := [] } ∧ Below wr.heap.size wr wc ∧ (B 1 = true → IR wc g' c' (plc (ordM 24 (mKT K T))))) ?init ?step ?fin
              case init => exact ⟨0, 0, rfl, (Below.refl _ _).drew, fun h => by simp at h⟩
              case step =>
                intro B j a wc hj hbj hcl hw hI K' hK
                obtain ⟨g', c', rfl, hB, hL⟩ := hI
                have hj : j < 14 := hj
                have hc3 : j = 3 → B 1 = true := by
                  rintro rfl
                  simp [waits, Region.binds] at hw
                  first | exact hw.1 | exact hw.2 | exact hw.2.1 | exact hw.2.2 | exact hw.1.1
                clear hcl
                obtain rfl | rfl | rfl | rfl | rfl | rfl | rfl | rfl | rfl | rfl | rfl | rfl | rfl | rfl : j = 0 ∨ j = 1 ∨ j = 2 ∨ j = 3 ∨ j = 4 ∨ j = 5 ∨ j = 6 ∨ j = 7 ∨ j = 8 ∨ j = 9 ∨ j = 10 ∨ j = 11 ∨ j = 12 ∨ j = 13 := by omega
                all_goals (simp [waits, Region.binds] at hw)
                · simp only [hbj, cond_false]
                  refine wpOpIn_step rfl ?_
                  intro K'' hK'
                  go_simp
                  exact hK' _ _ (hK _ _ ⟨g', c', by simp [upd], hB, fun h => hL (by simpa [upd] using h)⟩)
                · simp only [hbj, hw, cond_true, cond_false]
                  refine wpOpIn_step rfl ?_
                  intro K'' hK'
                  go_simp
                  refine ⟨trivial, (callsIn_wide.2 (heapOrder_calls (HA.out.to hB).here.heap)).mono ?_⟩
                  rintro e w' ⟨g1, c1, rfl, hr, -, hb⟩
                  exact hK' _ _ (hK _ _ ⟨g1, c1, by simp [upd, hw, HM.out], hB.trans (hb.mono hB.size), fun _ => hr⟩)
                · simp only [hbj, cond_false]
                  refine wpOpIn_step rfl ?_
                  intro K'' hK'
                  go_simp
                  exact hK' _ _ (hK _ _ ⟨g', c', by simp [upd], hB, fun h => hL (by simpa [upd] using h)⟩)
                · simp only [hbj, hw, cond_true, cond_false]
                  refine wpOpIn_step rfl ?_
                  intro K'' hK'
                  go_simp
                  refine ⟨trivial, (callsIn_wide.2 (HSame.out g' c' wc (hL (hc3 rfl)) (HA.out.to hB).here.row)).mono ?_⟩
                  rintro e w' ⟨rfl, hb⟩
                  exact hK' _ _ (hK _ _ ⟨g', c', by simp [upd, hw], hB.trans (hb.mono hB.size), fun h => (hL (by simpa [upd] using h)).below hb⟩)
                · simp only [hbj, hw, cond_true, cond_false]
                  refine wpOpIn_step rfl ?_
                  intro K'' hK'
                  go_simp
                  exact hK' _ _ (hK _ _ ⟨g', c', by simp [upd, hw], hB, fun h => hL (by simpa [upd] using h)⟩)
                · simp only [hbj, hw, cond_true, cond_false]
                  refine wpOpIn_step rfl ?_
                  intro K'' hK'
                  go_simp
                  exact hK' _ _ (hK _ _ ⟨g', c', by simp [upd, hw], hB, fun h => hL (by simpa [upd] using h)⟩)
                · simp only [hbj, hw, cond_true, cond_false]
                  refine wpOpIn_step rfl ?_
                  intro K'' hK'
                  go_simp
                  exact hK' _ _ (hK _ _ ⟨g', c', by simp [upd, hw], hB, fun h => hL (by simpa [upd] using h)⟩)
                · simp only [hbj, hw, cond_true, cond_false]
                  refine wpOpIn_step rfl ?_
                  intro K'' hK'
                  go_simp
                  refine ⟨trivial, (callsIn_wide.2 (has_yes (HA.out.to hB).here.heap P (K P) HMn.out)).mono ?_⟩
                  rintro e w' ⟨rfl, rfl⟩
                  exact hK' _ _ (hK _ _ ⟨g', c', by simp [upd, hw], hB, fun h => hL (by simpa [upd] using h)⟩)
                · simp only [hbj, hw, cond_true, cond_false]
                  refine wpOpIn_step rfl ?_
                  intro K'' hK'
                  go_simp
                  exact hK' _ _ (hK _ _ ⟨g', c', by simp [upd, hw], hB, fun h => hL (by simpa [upd] using h)⟩)
                · simp only [hbj, hw, cond_true, cond_false]
                  refine wpOpIn_step rfl ?_
                  intro K'' hK'
                  go_simp
                  exact hK' _ _ (hK _ _ ⟨g', c', by simp [upd, hw], hB, fun h => hL (by simpa [upd] using h)⟩)
                · obtain ⟨tP, -⟩ := (HA.out.to hB).here.there.cells P HPl.out
                  rw [HTp.out] at tP
                  simp only [hbj, hw, cond_true, cond_false]
                  refine wpOpIn_step rfl ?_
                  intro K'' hK'
                  go_simp
                  exact hK' _ _ (hK _ _ ⟨g', c', by simp [upd, hw], hB, fun h => hL (by simpa [upd] using h)⟩)
                · simp only [hbj, hw, cond_true, cond_false]
                  refine wpOpIn_step rfl ?_
                  intro K'' hK'
                  go_simp
                  exact hK' _ _ (hK _ _ ⟨g', c', by simp [upd, hw], hB, fun h => hL (by simpa [upd] using h)⟩)
                · simp only [hbj, hw, cond_true, cond_false]
                  refine wpOpIn_step rfl ?_
                  intro K'' hK'
                  go_simp
                  exact hK' _ _ (hK _ _ ⟨g', c', by simp [upd, hw], hB, fun h => hL (by simpa [upd] using h)⟩)
                · simp only [hbj, hw, cond_true, cond_false]
                  refine wpOpIn_step rfl ?_
                  intro K'' hK'
                  go_simp
                  exact hK' _ _ (hK _ _ ⟨g', c', by simp [upd, hw], hB, fun h => hL (by simpa [upd] using h)⟩)
              case fin =>
                intro B a wV hall hI
                obtain ⟨g', c', rfl, hB, -⟩ := hI
                simp only [hall 13 (by decide), cond_true]
                have HE := Lib.hid (HA.out.to hB).here.below
                clear hall hB
                go_wp2
                go_ret
                exact ⟨rfl, HE.out⟩
            | have HSame := Lib.hid (show ∀ (g1 c1 : Nat) (W : World), IR W g1 c1 (plc (ordM 24 (mKT K T))) → IR W g c (plc (ordM 24 (mKT K T))) → Calls Try.prog 28 #[.slice (some ⟨g1, 0, none⟩) m c1, .slice (some ⟨g, 0, none⟩) m c] W fun e w' => e = .returned (.bool true) ∧ Below W.heap.size W w' from fun g1 c1 W h h' => by
                have := same_calls g1 c1 g c (plc (ordM 24 (mKT K T))) W h h'
                rw [plc_len, HM.out] at this
                exact this)
              refine (wpIn_wide (n := 5)).1 ?_
              refine wpIn_region_inv (by kernel_rfl) (by kernel_rfl) (fun B a wc => ∃ g' c' : Nat, a = { tmps := #[Value.slice va l.length vc, Value.int IntKind.i64 n, Value.agg #[Value.int IntKind.u8 (xa : Int), Value.int IntKind.u8 (xb : Int), Value.int IntKind.u8 (xc : Int), Value.int IntKind.u8 (xd : Int)], undef, undef, Value.pointer (some { block := w.heap.size, off := 0 }), bif B 13 then .bool true else u6, Value.pointer (some { block := q, off := 0 }), Value.pointer (some { block := b, off := 0 }), Value.pointer (some { block := b + 1, off := 0 }), Value.bool true, Value.slice (some { block := g, off := 0 }) m c, undef, u13, u14, u15, u16, u17, u18, u19, Value.int IntKind.i64 (P : Int), undef, undef, Value.pointer (some { block := wA.heap.size, off := 0 }), Value.int IntKind.i64 6, Value.pointer (some { block := wC.heap.size, off := 0 }), Value.int IntKind.i64 6, undef, u28, u29, u30, Value.bool true, Value.bool false, Value.tuple #[Value.pointer (some { block := q, off := 0 }), Value.agg (kcs K), Value.agg (tcs T), Value.bool true], Value.slice va l.length vc, Value.tuple #[Value.pointer (some { block := q, off := 0 }), Value.agg (kcs K), Value.agg (tcs T), Value.bool true], Value.pointer (some { block := q, off := 0 }), Value.agg (kcs K), Value.agg (tcs T), Value.bool true, Value.bool true, Value.bool false, Value.pointer (some { block := q, off := 0 }), Value.slice (some { block := g, off := 0 }) m c, Value.int IntKind.i64 n, Value.int IntKind.i64 p0, Value.int IntKind.i64 n, Value.int IntKind.i64 p1, Value.slice (some { block := lb, off := 0 }) 2 2, Value.int IntKind.i64 2, Value.int IntKind.i64 2, Value.bool false, u52, u53, u54, u55, u56, u57, u58, u59, u60, u61, u62, u63, u64, u65, u66, u67, u68, u69, u70, u71, u72, u73, u74, u75, u76, u77, u78, u79, u80, u81, u82, u83, u84, u85, u86, u87, u88, u89, u90, u91, u92, u93, u94, u95, u96, u97, Value.pointer (some { block := w.heap.size, off := 1 }), Value.int IntKind.u8 (xb : Int), Value.int IntKind.i64 (xb : Int), Value.int IntKind.i64 (P : Int), Value.int IntKind.i64 (P : Int), Value.pointer (some { block := b + 1, off := P }), Value.bool false, undef, undef, undef, undef, undef, undef, undef, undef, undef, undef, undef, undef, undef, undef, undef, undef, undef, undef, undef, undef, undef, undef, undef, Value.tuple #[Value.agg #[Value.int IntKind.i64 0, Value.int IntKind.i64 0, Value.int IntKind.i64 0], Value.int IntKind.i64 6], Value.pointer (some { block := q, off := 0 }), Value.int IntKind.i64 (P : Int), Value.tuple #[Value.agg #[Value.int IntKind.i64 0, Value.int IntKind.i64 0, Value.int IntKind.i64 0], Value.int IntKind.i64 6], Value.agg #[Value.int IntKind.i64 0, Value.int IntKind.i64 0, Value.int IntKind.i64 0], Value.int IntKind.i64 6, Value.tuple #[Value.agg #[Value.int IntKind.i64 0, Value.int IntKind.i64 0, Value.int IntKind.i64 0], Value.int IntKind.i64 6], Value.pointer (some { block := q, off := 0 }), Value.int IntKind.i64 (P : Int), Value.agg #[Value.int IntKind.u8 (xa : Int), Value.int IntKind.u8 (xb : Int), Value.int IntKind.u8 (xc : Int), Value.int IntKind.u8 (xd : Int)], Value.agg #[Value.int IntKind.i64 (keyS (xa, xb, xc, xd)).fst, Value.int IntKind.i64 (keyS (xa, xb, xc, xd)).snd.fst, Value.int IntKind.i64 (keyS (xa, xb, xc, xd)).snd.snd], Value.tuple #[Value.agg #[Value.int IntKind.i64 0, Value.int IntKind.i64 0, Value.int IntKind.i64 0], Value.int IntKind.i64 6], Value.agg #[Value.int IntKind.i64 0, Value.int IntKind.i64 0, Value.int IntKind.i64 0], Value.int IntKind.i64 6, Value.int IntKind.i64 6, Value.bool false, Value.bool false, Value.int IntKind.i64 6, Value.bool false, Value.bool false, Value.int IntKind.i64 n, Value.int IntKind.i64 r0, Value.int IntKind.i64 n, Value.int IntKind.i64 r1, Value.slice (some { block := ld, off := 0 }) 2 2, Value.int IntKind.i64 2, Value.int IntKind.i64 (2 : Int), Value.bool false, u156, u157, u158, u159, u160, u161, u162, u163, u164, u165, u166, u167, u168, u169, bif B 0 then .pointer (some ⟨q, 0, none⟩) else undef, bif B 1 then .slice (some ⟨g', 0, none⟩) m c' else undef, bif B 2 then .slice (some ⟨g, 0, none⟩) m c else undef, bif B 3 then .bool true else undef, bif B 4 then .bool true else undef, bif B 5 then .pointer (some ⟨q, 0, none⟩) else undef, bif B 6 then .int .i64 (P : Int) else undef, bif B 7 then .bool false else undef, bif B 8 then .int .i64 (P : Int) else undef, bif B 9 then .pointer (some ⟨b + 1, P, none⟩) else undef, bif B 10 then .bool false else undef, bif B 11 then .bool true else undef, bif B 12 then .bool true else undef], defers := [] } ∧ Below wr.heap.size wr wc ∧ (B 1 = true → IR wc g' c' (plc (ordM 24 (mKT K T))))) ?init ?step ?fin
              case init => exact ⟨0, 0, rfl, (Below.refl _ _).drew, fun h => by simp at h⟩
              case step =>
                intro B j a wc hj hbj hcl hw hI K' hK
                obtain ⟨g', c', rfl, hB, hL⟩ := hI
                have hj : j < 14 := hj
                have hc3 : j = 3 → B 1 = true := by
                  rintro rfl
                  simp [waits, Region.binds] at hw
                  first | exact hw.1 | exact hw.2 | exact hw.2.1 | exact hw.2.2 | exact hw.1.1
                clear hcl
                obtain rfl | rfl | rfl | rfl | rfl | rfl | rfl | rfl | rfl | rfl | rfl | rfl | rfl | rfl : j = 0 ∨ j = 1 ∨ j = 2 ∨ j = 3 ∨ j = 4 ∨ j = 5 ∨ j = 6 ∨ j = 7 ∨ j = 8 ∨ j = 9 ∨ j = 10 ∨ j = 11 ∨ j = 12 ∨ j = 13 := by omega
                all_goals (simp [waits, Region.binds] at hw)
                · simp only [hbj, cond_false]
                  refine wpOpIn_step rfl ?_
                  intro K'' hK'
                  go_simp
                  exact hK' _ _ (hK _ _ ⟨g', c', by simp [upd], hB, fun h => hL (by simpa [upd] using h)⟩)
                · simp only [hbj, hw, cond_true, cond_false]
                  refine wpOpIn_step rfl ?_
                  intro K'' hK'
                  go_simp
                  refine ⟨trivial, (callsIn_wide.2 (heapOrder_calls (HA.out.to hB).here.heap)).mono ?_⟩
                  rintro e w' ⟨g1, c1, rfl, hr, -, hb⟩
                  exact hK' _ _ (hK _ _ ⟨g1, c1, by simp [upd, hw, HM.out], hB.trans (hb.mono hB.size), fun _ => hr⟩)
                · simp only [hbj, cond_false]
                  refine wpOpIn_step rfl ?_
                  intro K'' hK'
                  go_simp
                  exact hK' _ _ (hK _ _ ⟨g', c', by simp [upd], hB, fun h => hL (by simpa [upd] using h)⟩)
                · simp only [hbj, hw, cond_true, cond_false]
                  refine wpOpIn_step rfl ?_
                  intro K'' hK'
                  go_simp
                  refine ⟨trivial, (callsIn_wide.2 (HSame.out g' c' wc (hL (hc3 rfl)) (HA.out.to hB).here.row)).mono ?_⟩
                  rintro e w' ⟨rfl, hb⟩
                  exact hK' _ _ (hK _ _ ⟨g', c', by simp [upd, hw], hB.trans (hb.mono hB.size), fun h => (hL (by simpa [upd] using h)).below hb⟩)
                · simp only [hbj, hw, cond_true, cond_false]
                  refine wpOpIn_step rfl ?_
                  intro K'' hK'
                  go_simp
                  exact hK' _ _ (hK _ _ ⟨g', c', by simp [upd, hw], hB, fun h => hL (by simpa [upd] using h)⟩)
                · simp only [hbj, hw, cond_true, cond_false]
                  refine wpOpIn_step rfl ?_
                  intro K'' hK'
                  go_simp
                  exact hK' _ _ (hK _ _ ⟨g', c', by simp [upd, hw], hB, fun h => hL (by simpa [upd] using h)⟩)
                · simp only [hbj, hw, cond_true, cond_false]
                  refine wpOpIn_step rfl ?_
                  intro K'' hK'
                  go_simp
                  exact hK' _ _ (hK _ _ ⟨g', c', by simp [upd, hw], hB, fun h => hL (by simpa [upd] using h)⟩)
                · simp only [hbj, hw, cond_true, cond_false]
                  refine wpOpIn_step rfl ?_
                  intro K'' hK'
                  go_simp
                  refine ⟨trivial, (callsIn_wide.2 (has_no (HA.out.to hB).here.heap (P : Int) 6 (by decide) (finds_none P HPl.out HMn.out))).mono ?_⟩
                  rintro e w' ⟨rfl, rfl⟩
                  exact hK' _ _ (hK _ _ ⟨g', c', by simp [upd, hw], hB, fun h => hL (by simpa [upd] using h)⟩)
                · simp only [hbj, hw, cond_true, cond_false]
                  refine wpOpIn_step rfl ?_
                  intro K'' hK'
                  go_simp
                  exact hK' _ _ (hK _ _ ⟨g', c', by simp [upd, hw], hB, fun h => hL (by simpa [upd] using h)⟩)
                · simp only [hbj, hw, cond_true, cond_false]
                  refine wpOpIn_step rfl ?_
                  intro K'' hK'
                  go_simp
                  exact hK' _ _ (hK _ _ ⟨g', c', by simp [upd, hw], hB, fun h => hL (by simpa [upd] using h)⟩)
                · obtain ⟨tP, -⟩ := (HA.out.to hB).here.there.cells P HPl.out
                  rw [HTp.out] at tP
                  simp only [hbj, hw, cond_true, cond_false]
                  refine wpOpIn_step rfl ?_
                  intro K'' hK'
                  go_simp
                  exact hK' _ _ (hK _ _ ⟨g', c', by simp [upd, hw], hB, fun h => hL (by simpa [upd] using h)⟩)
                · simp only [hbj, hw, cond_true, cond_false]
                  refine wpOpIn_step rfl ?_
                  intro K'' hK'
                  go_simp
                  exact hK' _ _ (hK _ _ ⟨g', c', by simp [upd, hw], hB, fun h => hL (by simpa [upd] using h)⟩)
                · simp only [hbj, hw, cond_true, cond_false]
                  refine wpOpIn_step rfl ?_
                  intro K'' hK'
                  go_simp
                  exact hK' _ _ (hK _ _ ⟨g', c', by simp [upd, hw], hB, fun h => hL (by simpa [upd] using h)⟩)
                · simp only [hbj, hw, cond_true, cond_false]
                  refine wpOpIn_step rfl ?_
                  intro K'' hK'
                  go_simp
                  exact hK' _ _ (hK _ _ ⟨g', c', by simp [upd, hw], hB, fun h => hL (by simpa [upd] using h)⟩)
              case fin =>
                intro B a wV hall hI
                obtain ⟨g', c', rfl, hB, -⟩ := hI
                simp only [hall 13 (by decide), cond_true]
                have HE := Lib.hid (HA.out.to hB).here.below
                clear hall hB
                go_wp2
                go_ret
                exact ⟨rfl, HE.out⟩
end Go.Proofs.Ytbcnpcfobjdkaaa
