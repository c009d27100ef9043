/-
  CONTRACTS of the reference's number and Read.
-/
import Derived.Test.YtapaccbffhcjdaaDoorKeyRef3
import Derived.BigRegion
namespace Go.Proofs.YtapaccbffhcjdaaDoor
open Go.RowKit Go.Shelf Go.Sort

theorem BR.cut2 {w : World} {b o n c : Nat} {l : List UInt8} (h : BR w (.slice (some ⟨b, o, none⟩) n c) l) (lo hi : Nat) (h2 : hi ≤ l.length) (h3 : lo < hi) :
    BR w (.slice (some ⟨b, o + lo, none⟩) (hi - lo) (c - lo)) ((l.drop lo).take (hi - lo)) := by
  rcases h with ⟨rfl, _⟩ | ⟨b', o', c', e, q1, q2, q3, q4⟩
  · simp at h2; omega
  · cases e
    have e2 : ((l.drop lo).take (hi - lo)).length = hi - lo := by simp; omega
    refine .inr ⟨b, o + lo, c - lo, by rw [e2], q1, by rw [e2]; omega, by omega, fun j hj => ?_⟩
    rw [e2] at hj
    have := q4 (lo + j) (by omega)
    rw [show o + lo + j = o + (lo + j) by omega, this]
    congr 3
    simp [List.getD_eq_getElem?_getD, hj]
set_option maxRecDepth 100000 in
set_option maxHeartbeats 2000000 in
theorem rNumber_calls (v : Value) (l : List UInt8) (w : World) (h : BR w v l) (hl : l.length ≤ 7) :
    Calls Tryd.prog 79 #[v] w fun e w' => e = .returned (.int .i64 (numL l : Int)) ∧ w = w' := by
  have HV := Lib.hid h
  obtain ⟨a, c, rfl, hlc, hc⟩ := h.shape
  unfold maxLen at hc
  obtain ⟨n, hn⟩ : ∃ n, l.length = n := ⟨_, rfl⟩
  have HN := Lib.hid hn
  rw [hn] at hl hlc HV
  have hn7 : (n : Int) ≤ 7 := by omega
  rw [hn]
  clear h hn
  go_enter Tryd.func79, Tryd.ntmps79
  go_wp2_with fail
  go_loop [3, 4] (fun s3 s4 => ∃ k : Nat, k ≤ n ∧ s4 = .int .i64 (k : Int) ∧ s3 = .int .i64 (numL (l.take k) : Int)) (fun _ s4 => n - (intOf s4).toNat)
  case atStart => exact ⟨0, Nat.zero_le _, rfl, by simp [numL]⟩
  case round =>
    obtain ⟨k, hk, rfl, rfl⟩ := hrel
    by_cases hlt : k < n
    · have hkn : (k : Int) < (n : Int) := by omega
      rcases HV.out with ⟨h0, _⟩ | ⟨b, o, c', e, q1, q2, q3, q4⟩
      · have := HN.out; rw [h0] at this; simp at this; omega
      · cases e
        have hcell := q4 k (by rw [HN.out]; exact hlt)
        have HTk := Lib.hid (show numL (l.take (k + 1)) = numL (l.take k) * 256 + (l.getD k 0).toNat by
          have hlt' : k < l.length := by rw [HN.out]; exact hlt
          rw [List.take_succ_eq_append_getElem hlt', numL_snoc]
          simp [List.getD_eq_getElem?_getD, hlt'])
        have hb1 := numL_lt (l.take k)
        have hp : 256 ^ (l.take k).length ≤ 256 ^ 6 := Nat.pow_le_pow_right (by omega) (by rw [List.length_take]; omega)
        have hv := (l.getD k 0).toNat_lt
        obtain ⟨x, hx⟩ : ∃ x, numL (l.take k) = x := ⟨_, rfl⟩
        obtain ⟨v, hve⟩ : ∃ v, (l.getD k 0).toNat = v := ⟨_, rfl⟩
        rw [hx] at hb1 HTk ⊢
        rw [hve] at hv hcell HTk
        have hx1 : (x : Int) < 281474976710656 := by
          have : x < 256 ^ 6 := Nat.lt_of_lt_of_le hb1 hp
          simp only [Nat.reducePow] at this
          omega
        have hv1 : (v : Int) < 256 := by omega
        have w1 : IntKind.i64.wrap ((x : Int) * 256) = (x : Int) * 256 := by rw [IntKind.wrap_i64]; omega
        have w2 : IntKind.i64.wrap ((x : Int) * 256 + (v : Int)) = (x : Int) * 256 + (v : Int) := by rw [IntKind.wrap_i64]; omega
        have w3 : IntKind.i64.wrap (v : Int) = (v : Int) := by rw [IntKind.wrap_i64]; omega
        clear hb1 hp hv hx hve q4 hlt
        go_wp2
        go_round
        case rel => exact ⟨k + 1, by omega, by go_num, by rw [HTk.out]; congr 1⟩
        case measure => simp [intOf]; omega
    · have hkn : ¬ (k : Int) < (n : Int) := by omega
      obtain rfl : k = n := by omega
      have HL := Lib.hid (show l.take k = l from List.take_of_length_le (Nat.le_of_eq HN.out))
      rw [HL.out]
      clear hlt
      go_wp2
      go_ret
      exact ⟨rfl, rfl⟩
set_option maxRecDepth 100000 in
set_option maxHeartbeats 4000000 in
theorem rReadK_calls (v : Value) (l : List UInt8) (w : World) (h : BR w v l) :
    Calls Tryd.prog 49 #[v] w fun e w' => e = .returned (.tuple #[.agg #[.int .i64 (rdV l).1, .int .i64 (rdV l).2.1, .int .i64 (rdV l).2.2], .int .i64 (rdE l)]) ∧ Below w.heap.size w w' := by
  by_cases hl : l.length = 12
  · rcases h with ⟨rfl, _⟩ | ⟨b, o, c, rfl, q1, q2, q3, q4⟩
    · cases hl
    · have hv0 : BR w (.slice (some ⟨b, o, none⟩) 12 c) l := .inr ⟨b, o, c, by rw [hl], q1, q2, q3, q4⟩
      have mixed : Tryd.prog.follows .mixedOrders = true := by kernel_rfl
      unfold maxLen at q3
      have hc12 : 12 ≤ c := by omega
      have hV := fun W (hb : Below w.heap.size w W) => hv0.below hb
      have HN0 := Lib.hid (fun W (hb : Below (w.alloc (.cells #[.int .i64 0, .int .i64 0, .int .i64 0] 23)).heap.size (w.alloc (.cells #[.int .i64 0, .int .i64 0, .int .i64 0] 23)) W) => rNumber_calls (.slice (some ⟨b, o, none⟩) 7 c) (l.take 7) W (by
        have := (hV W (((Below.refl w.heap.size w).alloc (Nat.le_refl _) _).trans (hb.mono (by simp)))).cut2 0 7 (by omega) (by omega)
        simpa using this) (by simp; omega))
      have HN1 := Lib.hid (fun W (hb : Below (w.alloc (.cells #[.int .i64 0, .int .i64 0, .int .i64 0] 23)).heap.size (w.alloc (.cells #[.int .i64 0, .int .i64 0, .int .i64 0] 23)) W) => rNumber_calls (.slice (some ⟨b, o + 7, none⟩) 1 (c - 7)) ((l.drop 7).take 1) W (by
        have := (hV W (((Below.refl w.heap.size w).alloc (Nat.le_refl _) _).trans (hb.mono (by simp)))).cut2 7 8 (by omega) (by omega)
        simpa using this) (by simp; omega))
      have HN2 := Lib.hid (fun W (hb : Below (w.alloc (.cells #[.int .i64 0, .int .i64 0, .int .i64 0] 23)).heap.size (w.alloc (.cells #[.int .i64 0, .int .i64 0, .int .i64 0] 23)) W) => rNumber_calls (.slice (some ⟨b, o + 8, none⟩) 4 (c - 8)) (l.drop 8) W (by
        have := (hV W (((Below.refl w.heap.size w).alloc (Nat.le_refl _) _).trans (hb.mono (by simp)))).cut2 8 12 (by omega) (by omega)
        have e : (l.drop 8).take 4 = l.drop 8 := List.take_of_length_le (by simp; omega)
        simpa [e] using this) (by simp; omega))
      have HRt := Lib.hid (fun W => rRight_calls (keyB l) W)
      have hcs : if RightK (keyB l) then (rdV l = keyB l ∧ rdE l = 0) else (rdV l = (0, 0, 0) ∧ rdE l = 71) := by
        by_cases hr : RightK (keyB l)
        · rw [if_pos hr]; exact rd_yes hl hr
        · rw [if_neg hr]; exact rd_no (fun k => hr k.2)
      unfold keyB at HRt hcs
      obtain ⟨N0, h0⟩ : ∃ N, (numL (l.take 7) : Int) = N := ⟨_, rfl⟩
      obtain ⟨N1, h1⟩ : ∃ N, (numL ((l.drop 7).take 1) : Int) = N := ⟨_, rfl⟩
      obtain ⟨N2, h2⟩ : ∃ N, (numL (l.drop 8) : Int) = N := ⟨_, rfl⟩
      rw [h0] at HN0
      rw [h1] at HN1
      rw [h2] at HN2
      rw [h0, h1, h2] at HRt hcs
      simp only at HRt
      have HCs := Lib.hid hcs
      have HR0 := Lib.hid (show KAt (w.alloc (.cells #[.int .i64 0, .int .i64 0, .int .i64 0] 23)) w.heap.size (0, 0, 0) from World.alloc_heap_new w _)
      have HB0 := Lib.hid ((Below.refl w.heap.size w).alloc (Nat.le_refl _) (.cells #[.int .i64 0, .int .i64 0, .int .i64 0] 23))
      have cc : (c : Int) ≤ 9223372036854775807 := by omega
      have c12 : (12 : Int) ≤ (c : Int) := by omega
      have c7 : (7 : Int) ≤ (c : Int) := by omega
      have c8 : (8 : Int) ≤ (c : Int) := by omega
      have c78 : (7 : Int) ≤ 8 := by omega
      have n7 : (c == 7) = false := by rw [beq_eq_false_iff_ne]; omega
      have n8 : (c == 8) = false := by rw [beq_eq_false_iff_ne]; omega
      have m7 : ¬ c = 7 := by omega
      have m8 : ¬ c = 8 := by omega
      rw [hl]
      clear h0 h1 h2 hcs hV hv0 q1 q2 q3 q4 hl
      go_enter Tryd.func49, Tryd.ntmps49
      go_wp2_with fail
      generalize hWW : w.alloc (.cells #[.int .i64 0, .int .i64 0, .int .i64 0] 23) = W0 at *
      clear hWW
      refine (wpIn_wide (n := 5)).1 ?_
      refine wpIn_region_inv (by kernel_rfl) (by kernel_rfl) (fun B a wc => ∃ p : Nat, a = { tmps := #[.slice (some ⟨b, o, none⟩) 12 c, undef, .pointer (some ⟨w.heap.size, 0, none⟩), .int .i64 0, bif B 10 then .pointer (some ⟨p, 0, none⟩) else undef, .slice (some ⟨b, o, none⟩) 12 c, .int .i64 12, .bool false, undef, bif B 0 then .slice (some ⟨b, o, none⟩) 12 c else undef, bif B 1 then .slice (some ⟨b, o, none⟩) 7 c else undef, bif B 2 then .int .i64 N0 else undef, bif B 3 then .slice (some ⟨b, o, none⟩) 12 c else undef, bif B 4 then .slice (some ⟨b, o + 7, none⟩) 1 (c - 7) else undef, bif B 5 then .int .i64 N1 else undef, bif B 6 then .slice (some ⟨b, o, none⟩) 12 c else undef, bif B 7 then .slice (some ⟨b, o + 8, none⟩) 4 (c - 8) else undef, bif B 8 then .int .i64 N2 else undef, bif B 9 then .agg #[.int .i64 N0, .int .i64 N1, .int .i64 N2] else undef, undef, undef, undef, undef, undef], defers := [] } ∧ Below W0.heap.size W0 wc ∧ (B 10 = true → W0.heap.size ≤ p ∧ KAt wc p (bif B 11 then (N0, N1, N2) else (0, 0, 0)))) ?init ?step ?fin
      case init => exact ⟨0, rfl, (Below.refl _ _).drew, by simp⟩
      case step =>
        intro B j a wc hj hbj hcl hw hI K hK
        obtain ⟨p, rfl, hB, h10⟩ := hI
        have hj : j < 12 := hj
        have hcl11 := hcl 11 (by decide)
        clear hcl
        obtain rfl | rfl | rfl | rfl | rfl | rfl | rfl | rfl | rfl | rfl | rfl | rfl : j = 0 ∨ j = 1 ∨ j = 2 ∨ j = 3 ∨ j = 4 ∨ j = 5 ∨ j = 6 ∨ j = 7 ∨ j = 8 ∨ j = 9 ∨ j = 10 ∨ j = 11 := by omega
        all_goals (simp [waits, Region.binds] at hw hcl11)
        · simp only [hbj, cond_false]
          refine wpOpIn_step rfl ?_
          intro K' hK'
          go_simp
          exact hK' _ _ (hK _ _ ⟨p, by simp [upd], hB, fun h => by simpa [upd] using h10 (by simpa [upd] using h)⟩)
        · simp only [hbj, hw, cond_true, cond_false]
          refine wpOpIn_step rfl ?_
          intro K' hK'
          go_simp
          exact hK' _ _ (hK _ _ ⟨p, by simp [upd, hw], hB, fun h => by simpa [upd] using h10 (by simpa [upd] using h)⟩)
        · simp only [hbj, hw, cond_true, cond_false]
          refine wpOpIn_step rfl ?_
          intro K' hK'
          go_simp
          refine ⟨trivial, (callsIn_wide.2 (HN0.out wc hB)).mono ?_⟩
          rintro e w' ⟨rfl, rfl⟩
          refine hK' _ _ (hK _ _ ⟨p, ?_, hB, ?_⟩)
          · simp [upd, hw]
          · exact fun h => by simpa [upd] using h10 (by simpa [upd] using h)
        · simp only [hbj, cond_false]
          refine wpOpIn_step rfl ?_
          intro K' hK'
          go_simp
          exact hK' _ _ (hK _ _ ⟨p, by simp [upd], hB, fun h => by simpa [upd] using h10 (by simpa [upd] using h)⟩)
        · simp only [hbj, hw, cond_true, cond_false]
          refine wpOpIn_step rfl ?_
          intro K' hK'
          go_simp
          exact hK' _ _ (hK _ _ ⟨p, by simp [upd, hw], hB, fun h => by simpa [upd] using h10 (by simpa [upd] using h)⟩)
        · simp only [hbj, hw, cond_true, cond_false]
          refine wpOpIn_step rfl ?_
          intro K' hK'
          go_simp
          refine ⟨trivial, (callsIn_wide.2 (HN1.out wc hB)).mono ?_⟩
          rintro e w' ⟨rfl, rfl⟩
          refine hK' _ _ (hK _ _ ⟨p, ?_, hB, ?_⟩)
          · simp [upd, hw]
          · exact fun h => by simpa [upd] using h10 (by simpa [upd] using h)
        · simp only [hbj, cond_false]
          refine wpOpIn_step rfl ?_
          intro K' hK'
          go_simp
          exact hK' _ _ (hK _ _ ⟨p, by simp [upd], hB, fun h => by simpa [upd] using h10 (by simpa [upd] using h)⟩)
        · simp only [hbj, hw, cond_true, cond_false]
          refine wpOpIn_step rfl ?_
          intro K' hK'
          go_simp
          exact hK' _ _ (hK _ _ ⟨p, by simp [upd, hw], hB, fun h => by simpa [upd] using h10 (by simpa [upd] using h)⟩)
        · simp only [hbj, hw, cond_true, cond_false]
          refine wpOpIn_step rfl ?_
          intro K' hK'
          go_simp
          refine ⟨trivial, (callsIn_wide.2 (HN2.out wc hB)).mono ?_⟩
          rintro e w' ⟨rfl, rfl⟩
          refine hK' _ _ (hK _ _ ⟨p, ?_, hB, ?_⟩)
          · simp [upd, hw]
          · exact fun h => by simpa [upd] using h10 (by simpa [upd] using h)
        · simp only [hbj, hw, cond_true, cond_false]
          refine wpOpIn_step rfl ?_
          intro K' hK'
          go_simp
          exact hK' _ _ (hK _ _ ⟨p, by simp [upd, hw], hB, fun h => by simpa [upd] using h10 (by simpa [upd] using h)⟩)
        · have n11 : B 11 = false := by
            cases h : B 11 with
            | false => rfl
            | true => have h2 := hcl11 h; simp [hbj] at h2
          simp only [hbj, cond_false]
          refine wpOpIn_step rfl ?_
          intro K' hK'
          go_simp
          have hb := (Below.refl wc.heap.size wc).alloc (Nat.le_refl _) (.cells #[.int .i64 0, .int .i64 0, .int .i64 0] 23)
          exact hK' _ _ (hK _ _ ⟨wc.heap.size, by simp [upd], hB.trans (hb.mono hB.size), fun _ => ⟨hB.size, by simp only [upd, n11]; exact World.alloc_heap_new wc _⟩⟩)
        · have hk := (h10 (by simp [hw])).2
          have hge := (h10 (by simp [hw])).1
          rw [hbj, cond_false] at hk
          have c0 := (hk.cells 0 (by omega)).1
          have c1 := (hk.cells 1 (by omega)).1
          have c2 := (hk.cells 2 (by omega)).1
          have f0 := (hk.cells 0 (by omega)).2
          have f1 := (hk.cells 1 (by omega)).2
          have f2 := (hk.cells 2 (by omega)).2
          simp only [fldK] at c0 c1 c2
          have hk2 := Lib.hid (kat_set hk N0 N1 N2)
          have hB2 := Lib.hid (set3_below hB hge (.int .i64 N0) (.int .i64 N1) (.int .i64 N2))
          clear hk
          simp only [hw, cond_true]
          refine wpOpIn_step rfl ?_
          intro K' hK'
          go_simp
          exact hK' _ _ (hK _ _ ⟨p, by simp [upd, hw], hB2.out, fun _ => ⟨hge, by simp only [upd]; exact hk2.out⟩⟩)
      case fin =>
        intro B a wc hall hI
        obtain ⟨p, rfl, hB, h10⟩ := hI
        have hk := (h10 (hall 10 (by decide))).2
        rw [hall 11 (by decide), cond_true] at hk
        simp only [hall 0 (by decide), hall 1 (by decide), hall 2 (by decide), hall 3 (by decide), hall 4 (by decide), hall 5 (by decide), hall 6 (by decide), hall 7 (by decide), hall 8 (by decide), hall 9 (by decide), hall 10 (by decide), cond_true]
        clear hall h10
        have HB := Lib.hid (HB0.out.trans (hB.mono HB0.out.size))
        have HK4 := Lib.hid hk
        have HKr := Lib.hid (HR0.out.below hB)
        clear hB hk HN0 HN1 HN2 HR0 HB0
        have c0 := (HK4.out.cells 0 (by omega)).1
        have c1 := (HK4.out.cells 1 (by omega)).1
        have c2 := (HK4.out.cells 2 (by omega)).1
        simp only [fldK] at c0 c1 c2
        go_wp2_with fail
        clear c0 c1 c2
        refine (HRt.out _).mono ?_
        rintro e w5 ⟨rfl, hb⟩
        have HB5 := Lib.hid (HB.out.trans (hb.mono HB.out.size))
        have hk4 := HK4.out.below hb
        have hkr := HKr.out.below hb
        clear hb
        have c0 := (hk4.cells 0 (by omega)).1
        have c1 := (hk4.cells 1 (by omega)).1
        have c2 := (hk4.cells 2 (by omega)).1
        have k0 := (hkr.cells 0 (by omega)).1
        have k1 := (hkr.cells 1 (by omega)).1
        have k2 := (hkr.cells 2 (by omega)).1
        have f0 := (hkr.cells 0 (by omega)).2
        have f1 := (hkr.cells 1 (by omega)).2
        have f2 := (hkr.cells 2 (by omega)).2
        simp only [fldK] at c0 c1 c2 k0 k1 k2
        have hKs := Lib.hid (kat_set hkr N0 N1 N2)
        have hKz := Lib.hid (kat_set hkr 0 0 0)
        have HBs := Lib.hid (set3_below HB5.out (Nat.le_refl _) (.int .i64 N0) (.int .i64 N1) (.int .i64 N2))
        have HBz := Lib.hid (set3_below HB5.out (Nat.le_refl _) (.int .i64 0) (.int .i64 0) (.int .i64 0))
        clear hkr hk4
        by_cases hr : RightK (N0, N1, N2)
        · have hd : decide (RightK (N0, N1, N2)) = true := decide_eq_true hr
          have he := HCs.out
          rw [if_pos hr] at he
          have HV := Lib.hid he
          clear he HCs hr
          go_wp2_with fail
          have v0 := (hKs.out.cells 0 (by omega)).1
          have v1 := (hKs.out.cells 1 (by omega)).1
          have v2 := (hKs.out.cells 2 (by omega)).1
          simp only [fldK] at v0 v1 v2
          exact bodyPost_ret (v := .tuple #[.agg #[.int .i64 N0, .int .i64 N1, .int .i64 N2], .int .i64 0]) (by simp [results, Tryd.f49, go_sem, v0, v1, v2]) rfl ⟨by rw [HV.out.1, HV.out.2], HBs.out⟩
        · have hd : decide (RightK (N0, N1, N2)) = false := decide_eq_false hr
          have he := HCs.out
          rw [if_neg hr] at he
          have HV := Lib.hid he
          clear he HCs hr
          go_wp2_with fail
          have v0 := (hKz.out.cells 0 (by omega)).1
          have v1 := (hKz.out.cells 1 (by omega)).1
          have v2 := (hKz.out.cells 2 (by omega)).1
          simp only [fldK] at v0 v1 v2
          exact bodyPost_ret (v := .tuple #[.agg #[.int .i64 0, .int .i64 0, .int .i64 0], .int .i64 71]) (by simp [results, Tryd.f49, go_sem, v0, v1, v2]) rfl ⟨by rw [HV.out.1, HV.out.2], HBz.out⟩
  · have e := rd_no (l := l) (fun k => hl k.1)
    have HV := Lib.hid e
    obtain ⟨a, c, rfl, -, -⟩ := h.shape
    have hne : ((l.length : Int) != 12) = true := by rw [bne_iff_ne]; omega
    have HB0 := Lib.hid ((Below.refl w.heap.size w).alloc (Nat.le_refl _) (.cells #[.int .i64 0, .int .i64 0, .int .i64 0] 23))
    clear e h hl
    go_enter Tryd.func49, Tryd.ntmps49
    go_wp2
    exact bodyPost_ret (v := .tuple #[.agg #[.int .i64 0, .int .i64 0, .int .i64 0], .int .i64 71]) (by simp [results, Tryd.f49, go_sem]) rfl ⟨by rw [HV.out.1, HV.out.2], HB0.out⟩
end Go.Proofs.YtapaccbffhcjdaaDoor
