/-
  WALK of HeapTrees.
-/
import Derived.Test.YtbcnpcfobjdkaaaHeapAwC
import Derived.Test.YtbcnpcfobjdkaaaHeapAwake
namespace Go.Proofs.Ytbcnpcfobjdkaaa
open Go.RowKit Go.Shelf

set_option maxRecDepth 100000 in
set_option maxHeartbeats 8000000 in
theorem heapTrees_walk (v : Value) (l : List Sm) (w : World) (hv : SmRow w v l) :
    Calls Try.prog 6 #[v] w fun e w' => e = .returned (.bool true) ∧ Below w.heap.size w w' := by
  have mixed : Try.prog.follows .mixedOrders = true := by kernel_rfl
  have HAw := Lib.hid (awake_calls w)
  have HV := Lib.hid hv
  obtain ⟨va, vc, rfl, -, -⟩ := hv.shape
  clear hv
  go_enter Try.func6, Try.ntmps6
  go_wp2_with fail
  refine HAw.out.mono ?_
  rintro e w1 ⟨rfl, hb1⟩
  have HB1 := Lib.hid hb1
  have HMd := Lib.hid (made_calls _ l w1 (HV.out.below hb1))
  clear hb1
  go_wp2_with fail
  refine HMd.out.mono ?_
  rintro e w2 ⟨q, K, T, F, rfl, hA, hF, hT, hb2⟩
  have HB2 := Lib.hid (HB1.out.trans (hb2.mono HB1.out.size))
  have HA := Lib.hid hA; have HF := Lib.hid hF; have HT := Lib.hid hT
  clear hA hF hT hb2
  have i53 : (Try.prog.info? 53).map (·.size) = some (kcs K).size := by rw [kcs_size]; exact info_karr
  have i54 : (Try.prog.info? 54).map (·.size) = some (tcs T).size := by rw [tcs_size]; exact info_tarr
  have HI := Lib.hid (And.intro i53 i54)
  clear i53 i54
  obtain ⟨h3, h4, hb3⟩ := two_rows w2 K T (kcs fun _ => (0, 0, 0)) (tcs fun _ => false) (kcs_size _) (tcs_size _)
  have H3 := Lib.hid h3; have H4 := Lib.hid h4; have H5 := Lib.hid hb3
  clear h3 h4 hb3
  go_upto_region 6 with (first
    | (refine wpList_alloc_row rfl 53 rfl _ zero_karr ?_)
    | (refine wpList_alloc_row rfl 54 rfl _ zero_tarr ?_)
    | (refine wpList_store_row rfl 53 _ _ rfl w2.heap.size (kcs K) (by simp [Act.eval, Act.put]) (by simp [Act.eval, Act.put]) 53 (kcs fun _ => (0, 0, 0)) ((Below.heap_alloc _ _ _ (by simp)).trans (World.alloc_heap_new w2 _)) HI.out.1 (by rw [kcs_size, kcs_size]) (kcs_one K) ?_)
    | (refine wpList_store_row rfl 54 _ _ rfl (w2.heap.size + 1) (tcs T) (by simp [Act.eval, Act.put]) (by simp [Act.eval, Act.put]) 54 (tcs fun _ => false) ((setRow_other _ _ _ _ (by omega)).trans (by have := World.alloc_heap_new (w2.alloc (.cells (kcs fun _ => (0, 0, 0)) 53)) (.cells (tcs fun _ => false) 54); rwa [World.size_alloc] at this)) HI.out.2 (by rw [tcs_size, tcs_size]) (tcs_one T) ?_)
    | fail)
  have hAH := HA.out.below H5.out
  have HTr := Lib.hid (tree_calls hAH)
  obtain ⟨W3, hW3⟩ : ∃ W3, W3 = (((w2.alloc (.cells (kcs fun _ => (0, 0, 0)) 53)).alloc (.cells (tcs fun _ => false) 54)).setRow w2.heap.size (kcs K)).setRow (w2.heap.size + 1) (tcs T) := ⟨_, rfl⟩
  rw [← hW3] at HTr H3 H4 H5 hAH ⊢
  have HA3 := Lib.hid hAH
  clear hW3 hAH HMd HAw HV HI
  go_wp2_with (first
    | (go_at_call 23; refine HTr.out.mono ?_; rintro e w4 ⟨t, ix, g, c, ht, rfl, hr, hgl, hb4⟩)
    | fail)
  have HB4 := Lib.hid ((HB2.out.trans (H5.out.mono HB2.out.size)).trans (hb4.mono (HB2.out.trans (H5.out.mono HB2.out.size)).size))
  have HA4 := Lib.hid (HA3.out.below hb4)
  have HR4 := Lib.hid hr
  have HK4 := Lib.hid (show KArr w4 w2.heap.size K from (hb4.block _ (Array.getElem?_eq_some_iff.1 H3.out).1).trans H3.out)
  have HT4 := Lib.hid (show TArr w4 (w2.heap.size + 1) (lessT T t 0) by rw [lessT_zero]; exact (hb4.block _ (Array.getElem?_eq_some_iff.1 H4.out).1).trans H4.out)
  have HHt := Lib.hid ht
  have HGl := Lib.hid (show g ≠ w2.heap.size + 1 by have := (Array.getElem?_eq_some_iff.1 H4.out).1; omega)
  have HLn := Lib.hid (show t.length ≤ 24 from ht.2.2.len)
  have HWs := Lib.hid (show w.heap.size ≤ w2.heap.size from HB2.out.size)
  have HFl := Lib.hid (show ∀ j, F j → j < w2.heap.size from HA.out.lt)
  clear hr hgl hb4 ht HTr H3 H4 H5 HA3 HB1
  generalize w2.heap.size = b at HA4 HK4 HT4 HR4 HB4 HHt HGl HLn HWs HFl HF HT HA HB2 ⊢
  obtain ⟨m, hm⟩ : ∃ m, t.length = m := ⟨_, rfl⟩
  have HM := Lib.hid hm
  rw [hm]
  clear hm
  have HS := Lib.hid (show TrAt w w4 q b g c K T t F 0 from ⟨HA4.out, HK4.out, HT4.out, HR4.out, HB4.out, HGl.out, HWs.out, HFl.out⟩)
  have hmi : (m : Int) ≤ 24 := by have := HLn.out; rw [HM.out] at this; omega
  clear HA4 HK4 HT4 HR4 HB4 HGl HWs HFl HB2 HF HT HLn HA
  go_loopw [30] (fun s30 wr => ∃ k : Nat, k ≤ m ∧ s30 = .int .i64 (k : Int) ∧ TrAt w wr q b g c K T t F k) (fun s30 _ => m - (intOf s30).toNat)
  case atStart => exact ⟨0, Nat.zero_le _, rfl, HS.out⟩
  case round =>
    obtain ⟨k, hk, rfl, hA⟩ := hrel
    have HA := Lib.hid hA
    clear HS hA
    by_cases hlt : k < m
    · have hkt : k < t.length := by rw [HM.out]; exact hlt
      obtain ⟨P, hP⟩ : ∃ P, (en t k).2 = P := ⟨_, rfl⟩
      have hP24 : P < 24 := by rw [← hP]; exact (HHt.out.2.2.1 k hkt).1
      have r0 := HA.out.row.cell k (by rw [plc_len]; exact hkt)
      rw [plc_get _ _ hkt, hP] at r0
      obtain ⟨tP, tf⟩ := HA.out.there.cells P hP24
      rw [show lessT T t k P = true by rw [← hP]; exact lessT_here HHt.out.1 HHt.out.2.2 k hkt] at tP
      have HN := Lib.hid (HA.out.next hkt (by rw [hP]; exact hP24))
      rw [hP] at HN
      have HPe := Lib.hid hP
      have hk1 : (k : Int) < (m : Int) := by omega
      have hP1 : (P : Int) < 24 := by omega
      have hwk : IntKind.i64.wrap ((k : Int) + 1) = (k : Int) + 1 := by rw [IntKind.wrap_i64]; omega
      clear hP
      by_cases h0 : k = 0
      · subst h0
        go_wp2_with fail
        go_roundw
        case rel => exact ⟨0 + 1, hlt, by simp, HN.out⟩
        case measure => simp [intOf]; omega
      · have hkg : (k : Int) > 0 := by omega
        obtain ⟨u, hu⟩ : ∃ u, (k - 1) / 4 = u := ⟨_, rfl⟩
        have hum : u < m := by omega
        have hw1 : IntKind.i64.wrap ((k : Int) - 1) = (k : Int) - 1 := by rw [IntKind.wrap_i64]; omega
        have hq4 : ((k : Int) - 1).tdiv 4 = (u : Int) := by rw [Int.tdiv_eq_ediv_of_nonneg (by omega)]; omega
        obtain ⟨Q, hQ⟩ : ∃ Q, (en t u).2 = Q := ⟨_, rfl⟩
        have hQ24 : Q < 24 := by rw [← hQ]; exact (HHt.out.2.2.1 u (by rw [HM.out]; exact hum)).1
        have r1 := HN.out.row.cell u (by rw [plc_len, HM.out]; exact hum)
        rw [plc_get _ _ (by rw [HM.out]; exact hum), hQ] at r1
        have HUp := Lib.hid (up_le HHt.out.1 HHt.out.2.2 HHt.out.2.1 k hkt (by omega))
        rw [HPe.out, hu, hQ] at HUp
        have hu1 : (u : Int) < (m : Int) := by omega
        have hQ1 : (Q : Int) < 24 := by omega
        have r1'' : wr.cell? ⟨g, u, none⟩ = some (.int .i64 (Q : Int)) := by
          have := HA.out.row.cell u (by rw [plc_len, HM.out]; exact hum)
          rw [plc_get _ _ (by rw [HM.out]; exact hum), hQ] at this
          exact this
        clear hu hQ
        go_upto_region 15 with fail
        clear tP tf r0 r1 r1''
        generalize wr.setCell ⟨b + 1, P, none⟩ (.bool false) = W5 at HN ⊢
        obtain ⟨x0, x1, x2, -⟩ := HN.out.keys.cells P hP24
        obtain ⟨y0, y1, y2, -⟩ := HN.out.keys.cells Q hQ24
        have hbl := (Array.getElem?_eq_some_iff.1 HN.out.keys).1
        have a0 := fun n os => Go.cell_grown (n := n) (os := os) (w := W5) (a := ⟨b, P * 3, none⟩) hbl x0
        have a1 := fun n os => Go.cell_grown (n := n) (os := os) (w := W5) (a := ⟨b, P * 3 + 1, none⟩) hbl x1
        have a2 := fun n os => Go.cell_grown (n := n) (os := os) (w := W5) (a := ⟨b, P * 3 + 2, none⟩) hbl x2
        have b0 := fun n os => Go.cell_grown (n := n) (os := os) (w := W5) (a := ⟨b, Q * 3, none⟩) hbl y0
        have b1 := fun n os => Go.cell_grown (n := n) (os := os) (w := W5) (a := ⟨b, Q * 3 + 1, none⟩) hbl y1
        have b2 := fun n os => Go.cell_grown (n := n) (os := os) (w := W5) (a := ⟨b, Q * 3 + 2, none⟩) hbl y2
        have o0 := Lib.hid (fun n os => Drawn.calls_grow (compareK_calls (K Q) (K P) (Go.Sort.grow (W5.drewN n) os)))
        generalize cfK (K Q) (K P) = z at *
        generalize byK (K Q) (K P) = z2 at *
        generalize K Q = KQ at *
        generalize K P = KP at *
        clear x0 x1 x2 y0 y1 y2 hbl
        refine wp_region_quiet_grown (by assumption) (by kernel_rfl) ?_
        repeat (go_big_quiet_step (first | (with_reducible exact Calls.grown_of (o0.out _ _)) | fail))
        refine wpQuiet_nil ?_
        rintro _ ⟨⟨nq, osq⟩, rfl⟩
        have HN2 := Lib.hid (HN.out.to (below_grow W5 nq osq))
        rcases HUp.out with hz | ⟨hz, hlt2⟩
        · have z1 : ¬ z > 0 := by omega
          have z3 : (z == 0) = false := by rw [beq_eq_false_iff_ne]; omega
          clear hz
          go_wp2_with fail
          go_roundw
          case rel => exact ⟨k + 1, hlt, by go_num, HN2.out⟩
          case measure => simp [intOf]; omega
        · have z3 : ¬ (Q : Int) ≥ (P : Int) := by omega
          subst hz
          go_wp2_with fail
          go_roundw
          case rel => exact ⟨k + 1, hlt, by go_num, HN2.out⟩
          case measure => simp [intOf]; omega
    · obtain rfl : k = m := by omega
      have HLl := Lib.hid (len_calls HA.out.heap)
      rw [ordM_len HHt.out.1 HHt.out.2.2, HM.out] at HLl
      have HTh := Lib.hid HA.out.there
      have HAll := Lib.hid (show ∀ r, lessT T t k r = false from fun r => by rw [← HM.out]; exact lessT_all HHt.out.1 r)
      have HIx := Lib.hid (fun (r : Nat) (hr : r < 24) (W : World) => run_index_t (lessT T t k) r hr W)
      have i54 : (Try.prog.info? 54).map (·.size) = some (tcs (lessT T t k)).size := by rw [tcs_size]; exact info_tarr
      have HI := Lib.hid i54
      generalize lessT T t k = T' at HTh HAll HIx HI ⊢
      clear i54 hlt hk
      go_wp2_with (first
        | (refine wpList_load_row rfl 54 _ rfl (b + 1) (by simp [Act.eval]) _ (tcs T') _ (.array 24 4) HTh.out Try.underlying54 rfl HI.out ?_)
        | fail)
      go_loopw [80] (fun s80 wx => ∃ r : Nat, r ≤ 24 ∧ s80 = .int .i64 (r : Int) ∧ wx = wr) (fun s80 _ => 24 - (intOf s80).toNat)
      case atStart => exact ⟨0, by omega, rfl, rfl⟩
      case round =>
        obtain ⟨r, hr, rfl, rfl⟩ := hrel
        by_cases hr2 : r < 24
        · have hr3 : (r : Int) < 24 := by omega
          have hix := HIx.out r hr2
          rw [HAll.out r] at hix
          have hwr : IntKind.i64.wrap ((r : Int) + 1) = (r : Int) + 1 := by rw [IntKind.wrap_i64]; omega
          go_wp2_with fail
          go_roundw
          case rel => exact ⟨r + 1, by omega, by go_num, by first | rfl | trivial⟩
          case measure => simp [intOf]; omega
        · obtain rfl : r = 24 := by omega
          go_wp2_with (first | (go_at_call 15; refine HLl.out.mono ?_; rintro e w9 ⟨rfl, rfl⟩) | fail)
          go_ret
          exact ⟨by simp, HA.out.below⟩
end Go.Proofs.Ytbcnpcfobjdkaaa
