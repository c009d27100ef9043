/-
  THE WALK of KeyFinds: keys are found at their places, and others where they would stand.
-/
import Derived.Test.YtapaccbffhcjdaaDoorKeyFindQ
import Derived.Test.YtapaccbffhcjdaaDoorKeyAppIn
import Derived.Deep.Cut
import Derived.Deep.DeepCutAuto
import Derived.Deep.RegionHeld3
namespace Go.Proofs.YtapaccbffhcjdaaDoor
open Go.RowKit Go.Shelf Go.Sort

theorem Search_inc (v : Value) (l : List Ky) (x1 x2 x3 : Int) (w : World) (h : KRow w v l) (hn : l.length ≤ 1000000) (hi : IncK l) :
    Calls Tryd.prog 33 #[v, .agg #[.int .i64 x1, .int .i64 x2, .int .i64 x3]] w fun e w' => e = .returned (.tuple #[.int .i64 (findI l (x1, x2, x3) : Nat), .bool (decide ((x1, x2, x3) ∈ l)), .int .i64 0]) ∧ Below w.heap.size w w' := by
  have := Search_calls v l (x1, x2, x3) w h hn
  simp only [if_pos hi] at this
  exact this
theorem Search_not (v : Value) (l : List Ky) (x1 x2 x3 : Int) (w : World) (h : KRow w v l) (hn : l.length ≤ 1000000) (hi : ¬ IncK l) :
    Calls Tryd.prog 33 #[v, .agg #[.int .i64 x1, .int .i64 x2, .int .i64 x3]] w fun e w' => e = .returned (.tuple #[.int .i64 0, .bool false, .int .i64 73]) ∧ Below w.heap.size w w' := by
  have := Search_calls v l (x1, x2, x3) w h hn
  simp only [if_neg hi] at this
  exact this
theorem krow_two (w : World) (x1 x2 x3 : Int) : KRow (w.alloc (.cells #[.int .i64 x1, .int .i64 x2, .int .i64 x3, .int .i64 x1, .int .i64 x2, .int .i64 x3] 23)) (.slice (some ⟨w.heap.size, 0, none⟩) 2 2) [(x1, x2, x3), (x1, x2, x3)] := by
  refine .inr ⟨w.heap.size, 0, 2, rfl, by simp, by simp, by unfold maxLen; omega, fun t u ht => ?_⟩
  have hc := World.alloc_heap_new w (.cells #[.int .i64 x1, .int .i64 x2, .int .i64 x3, .int .i64 x1, .int .i64 x2, .int .i64 x3] 23)
  rw [Nat.zero_add]
  simp only [World.cell?, hc]
  rw [← Array.getElem?_toList]
  exact ht

theorem Search_rev (L : List Ky) (x1 x2 x3 : Int) (hinc : IncK L) (hn : L.length ≤ 1000) : ∃ (i : Int) (d : Bool) (er : Int), ((er = 73 ∧ 1 < L.length) ∨ (er = 0 ∧ ¬ 1 < L.length)) ∧ ∀ (w : World) (v : Value), KRow w v (revF L L.length) →
    Calls Tryd.prog 33 #[v, .agg #[.int .i64 x1, .int .i64 x2, .int .i64 x3]] w fun e w' => e = .returned (.tuple #[.int .i64 i, .bool d, .int .i64 er]) ∧ Below w.heap.size w w' := by
  have hl : (revF L L.length).length ≤ 1000000 := by rw [revF_length]; omega
  by_cases h : 1 < L.length
  · exact ⟨0, false, 73, .inl ⟨rfl, h⟩, fun w v hv => Search_not v _ x1 x2 x3 w hv hl (fun q => (rev_inc hinc).1 q h)⟩
  · exact ⟨_, _, 0, .inr ⟨rfl, h⟩, fun w v hv => Search_inc v _ x1 x2 x3 w hv hl ((rev_inc hinc).2 h)⟩

set_option maxRecDepth 100000 in
set_option maxHeartbeats 4000000 in
theorem keyFinds_calls (v0 : Value) (S : List Ky) (x : Ky) (w : World) (hS : SmRow w v0 S) (hx : SmallK x) :
    Calls Tryd.prog 10 #[v0, .agg #[.int .u64 x.1, .int .u32 x.2.1, .int .u32 x.2.2]] w fun e w' => e = .returned (.bool true) ∧ Below w.heap.size w w' := by
  have mixed : Tryd.prog.follows .mixedOrders = true := by kernel_rfl
  have HM := Lib.hid (fun W => madeK_calls x W hx)
  obtain ⟨⟨X1, X2, X3⟩, hXe⟩ : ∃ X, madeK x = X := ⟨_, rfl⟩
  rw [hXe] at HM
  have HB_w := Lib.hid (Below.refl w.heap.size w)
  have V0_w := Lib.hid hS
  obtain ⟨a0, c0, rfl, hc0, hc1⟩ := hS.shape
  clear hXe hx hS
  have hb := (Below.refl w.heap.size w).alloc (Nat.le_refl _) (.cells #[.int .u64 x.1, .int .u32 x.2.1, .int .u32 x.2.2] 33)
  have V0_wa := Lib.hid (show SmRow (w.alloc (.cells #[.int .u64 x.1, .int .u32 x.2.1, .int .u32 x.2.2] 33)) (.slice a0 S.length c0) S from V0_w.out.below hb)
  have HB_wa := Lib.hid (HB_w.out.trans (hb.mono HB_w.out.size))
  clear V0_w HB_w
  have XS_wa := Lib.hid (show SAt (w.alloc (.cells #[.int .u64 x.1, .int .u32 x.2.1, .int .u32 x.2.2] 33)) (w.heap.size) x from World.alloc_heap_new w _)
  clear hb
  have HK := Lib.hid (fun W (h : SmRow W (.slice a0 S.length c0) S) => keysK_calls _ S W h)
  have hl40 : ((S.take 40).map madeK).length ≤ 40 := by rw [List.length_map, List.length_take]; omega
  obtain ⟨L0, hL0⟩ : ∃ L, (S.take 40).map madeK = L := ⟨_, rfl⟩
  rw [hL0] at HK hl40
  clear hL0
  have hinc := setK_inc L0
  have hlen := setK_len L0
  have HSo := Lib.hid (fun W v (h : KRow W v L0) => Sort_calls v L0 W h (by omega))
  obtain ⟨L, hL⟩ : ∃ L, setK cfK L0 = L := ⟨_, rfl⟩
  rw [hL] at hinc hlen HSo
  have hLl : L.length ≤ 40 := by omega
  have HInc := Lib.hid hinc
  clear hL hinc hlen hl40
  go_enter Tryd.func10, Tryd.ntmps10
  go_wp2_with fail
  refine (awakeK_calls _).mono ?_
  rintro e w1 ⟨rfl, hb⟩
  have V0_w1 := Lib.hid (show SmRow w1 (.slice a0 S.length c0) S from V0_wa.out.below hb)
  have XS_w1 := Lib.hid (show SAt w1 (w.heap.size) x from XS_wa.out.below hb)
  have HB_w1 := Lib.hid (HB_wa.out.trans (hb.mono HB_wa.out.size))
  clear V0_wa XS_wa HB_wa
  clear hb
  go_wp2_with fail
  refine (HK.out _ V0_w1.out).mono ?_
  rintro e w2 ⟨⟨v1, rfl, hv1⟩, hb⟩
  have V0_w2 := Lib.hid (show SmRow w2 (.slice a0 S.length c0) S from V0_w1.out.below hb)
  have XS_w2 := Lib.hid (show SAt w2 (w.heap.size) x from XS_w1.out.below hb)
  have HB_w2 := Lib.hid (HB_w1.out.trans (hb.mono HB_w1.out.size))
  clear V0_w1 XS_w1 HB_w1
  have V1_w2 := Lib.hid (show KRow w2 v1 L0 from hv1.row)
  clear hv1
  clear hb
  go_wp2_with fail
  refine (HSo.out _ _ V1_w2.out).mono ?_
  rintro e w3 ⟨v2, rfl, hv2, hb⟩
  have hs2 : w.heap.size ≤ w2.heap.size := HB_w2.out.size
  have XS_w3 := Lib.hid (show SAt w3 (w.heap.size) x from XS_w2.out.below hb)
  have HB_w3 := Lib.hid (HB_w2.out.trans (hb.mono HB_w2.out.size))
  clear XS_w2 HB_w2
  obtain ⟨a2, c2, rfl, -, -⟩ := hv2.row.shape
  have V2_w3 := Lib.hid (hv2.mono hs2)
  clear hv2 hb HSo HK hs2
  obtain ⟨n, hn⟩ : ∃ n, L.length = n := ⟨_, rfl⟩
  have HN := Lib.hid hn
  have hn40 : (n : Int) ≤ 40 := by omega
  rw [hn] at V2_w3 ⊢
  clear hn hLl
  go_wp2_with fail
  go_loopw [25] (fun s25 wr => ∃ k : Nat, k ≤ n ∧ s25 = .int .i64 (k : Int) ∧ Below w3.heap.size w3 wr) (fun s25 _ => n - (intOf s25).toNat)
  case atStart => exact ⟨0, Nat.zero_le _, rfl, Below.refl _ _⟩
  case round =>
    obtain ⟨k, hk, rfl, hb⟩ := hrel
    have HB_r := Lib.hid (HB_w3.out.trans (hb.mono HB_w3.out.size))
    have V2_r := Lib.hid (V2_w3.out.below hb)
    have XS_r := Lib.hid (XS_w3.out.below hb)
    have HBb := Lib.hid hb
    clear hb
    by_cases hlt : k < n
    · have hkn : (k : Int) < (n : Int) := by omega
      have hlS : k < L.length := by rw [HN.out]; exact hlt
      have hr := V2_r.out.row
      rcases V2_r.out.2 with ⟨e, h0⟩ | ⟨g, cap, cur, e, _⟩
      · rw [HN.out] at h0; omega
      · rw [HN.out] at e
        cases e
        have hcells := hr.cells k hlS
        rw [Nat.zero_add] at hcells
        obtain ⟨hbl, y0, y1, y2⟩ := hcells
        have hmem := kq_mem hlS
        have hself := find_self HInc.out k hlS
        obtain ⟨⟨k1, k2, k3⟩, hq⟩ : ∃ q, kq L k = q := ⟨_, rfl⟩
        rw [hq] at y0 y1 y2 hmem hself
        simp only at y0 y1 y2
        have HSr := Lib.hid (fun W (h : KRow W (.slice (some ⟨g, 0, none⟩) n c2) L) => Search_inc _ L k1 k2 k3 W h (by rw [HN.out]; omega) HInc.out)
        rw [hself, decide_eq_true hmem] at HSr
        have i0 : (0 : Int) ≤ (k : Int) := by omega
        clear hr hlS hmem hself hq hlt
        have hb := (Below.refl wr.heap.size wr).alloc (Nat.le_refl _) (.cells #[.int .i64 k1, .int .i64 k2, .int .i64 k3] 23)
        have V2_ra := Lib.hid (show OwnK (wr.alloc (.cells #[.int .i64 k1, .int .i64 k2, .int .i64 k3] 23)) w.heap.size (.slice (some ⟨g, 0, none⟩) n c2) L from V2_r.out.below hb)
        have HB_ra := Lib.hid (HBb.out.trans (hb.mono HBb.out.size))
        clear V2_r HBb
        have K7_ra := Lib.hid (show KAt (wr.alloc (.cells #[.int .i64 k1, .int .i64 k2, .int .i64 k3] 23)) (wr.heap.size) (k1, k2, k3) from World.alloc_heap_new wr _)
        clear hb
        have j0 := (K7_ra.out.cells 0 (by omega)).1
        have j1 := (K7_ra.out.cells 1 (by omega)).1
        have j2 := (K7_ra.out.cells 2 (by omega)).1
        simp only [fldK] at j0 j1 j2
        go_wp2_with fail
        clear j0 j1 j2 y0 y1 y2
        refine (HSr.out _ V2_ra.out.row).mono ?_
        rintro e rs ⟨rfl, hb⟩
        have V2_rs := Lib.hid (show OwnK rs w.heap.size (.slice (some ⟨g, 0, none⟩) n c2) L from V2_ra.out.below hb)
        have K7_rs := Lib.hid (show KAt rs (wr.heap.size) (k1, k2, k3) from K7_ra.out.below hb)
        have HB_rs := Lib.hid (HB_ra.out.trans (hb.mono HB_ra.out.size))
        clear V2_ra K7_ra HB_ra
        clear hb
        go_wp2_with fail
        go_roundw
        case rel => exact ⟨k + 1, by omega, by go_num, HB_rs.out⟩
        case measure => simp [intOf]; omega
    · have hkn : ¬ (k : Int) < (n : Int) := by omega
      clear hlt hk HB_w3 V2_w3 XS_w3
      clear HBb
      have HSr := Lib.hid (fun W (h : KRow W (.slice a2 n c2) L) => Search_inc _ L X1 X2 X3 W h (by rw [HN.out]; omega) HInc.out)
      have HCo := Lib.hid (fun W (h : KRow W (.slice a2 n c2) L) => containsKs_calls _ L (X1, X2, X3) W h (by rw [HN.out]; omega))
      have hsp := find_spec HInc.out (X1, X2, X3)
      rw [HN.out] at hsp
      obtain ⟨i, hi⟩ : ∃ i, findI L (X1, X2, X3) = i := ⟨_, rfl⟩
      rw [hi] at hsp HSr
      have HSp := Lib.hid hsp
      have hin : i ≤ n := hsp.1
      obtain ⟨z, hz⟩ : ∃ z : Int, (i : Int) = z := ⟨_, rfl⟩
      rw [hz] at HSr
      have hzt : z.toNat = i := by omega
      have hz0 : ¬ z < 0 := by omega
      have hin1 : ¬ (n : Int) < z := by omega
      have HZ := Lib.hid hz
      clear hz
      generalize decide ((X1, X2, X3) ∈ L) = dm at *
      clear hi hsp
      have s0 := (XS_r.out.cells).1
      have s1 := (XS_r.out.cells).2.1
      have s2 := (XS_r.out.cells).2.2
      go_wp2_with fail
      clear s0 s1 s2 hkn
      refine (HM.out _).mono ?_
      rintro e e1 ⟨rfl, hb⟩
      have V2_e1 := Lib.hid (show OwnK e1 w.heap.size (.slice a2 n c2) L from V2_r.out.below hb)
      have HB_e1 := Lib.hid (HB_r.out.trans (hb.mono HB_r.out.size))
      clear V2_r HB_r
      clear hb
      have HG1 := Lib.hid (own_lt V2_e1.out)
      have hb := (Below.refl e1.heap.size e1).alloc (Nat.le_refl _) (.cells #[.int .i64 X1, .int .i64 X2, .int .i64 X3] 23)
      have V2_e1a := Lib.hid (show OwnK (e1.alloc (.cells #[.int .i64 X1, .int .i64 X2, .int .i64 X3] 23)) w.heap.size (.slice a2 n c2) L from V2_e1.out.below hb)
      have HB_e1a := Lib.hid (HB_e1.out.trans (hb.mono HB_e1.out.size))
      clear V2_e1 HB_e1
      have K11_e1a := Lib.hid (show KAt (e1.alloc (.cells #[.int .i64 X1, .int .i64 X2, .int .i64 X3] 23)) (e1.heap.size) (X1, X2, X3) from World.alloc_heap_new e1 _)
      clear hb
      have y0 := (K11_e1a.out.cells 0 (by omega)).1
      have y1 := (K11_e1a.out.cells 1 (by omega)).1
      have y2 := (K11_e1a.out.cells 2 (by omega)).1
      simp only [fldK] at y0 y1 y2
      go_wp2_with fail
      clear y0 y1 y2
      refine (HSr.out _ V2_e1a.out.row).mono ?_
      rintro e e2 ⟨rfl, hb⟩
      have V2_e2 := Lib.hid (show OwnK e2 w.heap.size (.slice a2 n c2) L from V2_e1a.out.below hb)
      have K11_e2 := Lib.hid (show KAt e2 (e1.heap.size) (X1, X2, X3) from K11_e1a.out.below hb)
      have HB_e2 := Lib.hid (HB_e1a.out.trans (hb.mono HB_e1a.out.size))
      clear V2_e1a K11_e1a HB_e1a
      clear hb
      have y0 := (K11_e2.out.cells 0 (by omega)).1
      have y1 := (K11_e2.out.cells 1 (by omega)).1
      have y2 := (K11_e2.out.cells 2 (by omega)).1
      simp only [fldK] at y0 y1 y2
      go_wp2_with fail
      clear y0 y1 y2
      refine (HCo.out _ V2_e2.out.row).mono ?_
      rintro e e3 ⟨rfl, hb⟩
      have V2_e3 := Lib.hid (show OwnK e3 w.heap.size (.slice a2 n c2) L from V2_e2.out.below hb)
      have K11_e3 := Lib.hid (show KAt e3 (e1.heap.size) (X1, X2, X3) from K11_e2.out.below hb)
      have HB_e3 := Lib.hid (HB_e2.out.trans (hb.mono HB_e2.out.size))
      clear V2_e2 K11_e2 HB_e2
      clear hb
      go_upto_region 15 with fail
      go_cut [103] (fun s wx => s = .bool false ∧ Below e3.heap.size e3 wx)
      case first =>
        have hrow := V2_e3.out.row
        have ha0 := fun n os => Go.cell_grown (n := n) (os := os) (w := e3) (a := ⟨e1.heap.size, 0, none⟩) K11_e3.out.lt (K11_e3.out.cells 0 (by omega)).1
        have ha1 := fun n os => Go.cell_grown (n := n) (os := os) (w := e3) (a := ⟨e1.heap.size, 1, none⟩) K11_e3.out.lt (K11_e3.out.cells 1 (by omega)).1
        have ha2 := fun n os => Go.cell_grown (n := n) (os := os) (w := e3) (a := ⟨e1.heap.size, 2, none⟩) K11_e3.out.lt (K11_e3.out.cells 2 (by omega)).1
        simp only [fldK] at ha0 ha1 ha2
        by_cases hi0 : 0 < i
        · have hz := HZ.out
          have d0 : decide (0 < z) = true := decide_eq_true (by omega)
          have hzp := HSp.out.2.1 (i - 1) (by omega)
          have hm1 : IntKind.i64.wrap (z - 1) = z - 1 := by rw [IntKind.wrap_i64]; omega
          have hm2 : (z - 1).toNat = i - 1 := by omega
          have hm3 : (0 : Int) ≤ z - 1 := by omega
          have hm3' : (1 : Int) ≤ z := by omega
          have hm4 : z - 1 < (n : Int) := by omega
          by_cases hi1 : i < n
          · rcases V2_e3.out.2 with ⟨e, h0⟩ | ⟨g, cap, cur, e, _⟩
            · rw [HN.out] at h0; omega
            · rw [HN.out] at e
              cases e
              have hcp := hrow.cells (i - 1) (by rw [HN.out]; omega)
              rw [Nat.zero_add] at hcp
              obtain ⟨hblp, p0, p1, p2⟩ := hcp
              obtain ⟨⟨pa, pb, pc⟩, hqp⟩ : ∃ q, kq L (i - 1) = q := ⟨_, rfl⟩
              rw [hqp] at p0 p1 p2 hzp
              simp only at p0 p1 p2
              have Gp0 := fun n os => Go.cell_grown (n := n) (os := os) (w := e3) (a := ⟨g, (i - 1) * 3, none⟩) hblp p0
              have Gp1 := fun n os => Go.cell_grown (n := n) (os := os) (w := e3) (a := ⟨g, (i - 1) * 3 + 1, none⟩) hblp p1
              have Gp2 := fun n os => Go.cell_grown (n := n) (os := os) (w := e3) (a := ⟨g, (i - 1) * 3 + 2, none⟩) hblp p2
              have ip := Lib.hid (fun n os => Drawn.calls_grow (orderL3_calls pa pb pc X1 X2 X3 (Go.Sort.grow (e3.drewN n) os)))
              obtain ⟨zp, hzpe⟩ : ∃ z, cfK (pa, pb, pc) (X1, X2, X3) = z := ⟨_, rfl⟩
              rw [hzpe] at ip hzp
              clear p0 p1 p2 hqp hzpe
              have d1 : decide (z < (n : Int)) = true := decide_eq_true (by omega)
              have g1 : z < (n : Int) := by omega
              have g2 : (0 : Int) ≤ z := by omega
              have hzq := HSp.out.2.2 i (Nat.le_refl _) hi1
              have hcq := hrow.cells (i) (by rw [HN.out]; omega)
              rw [Nat.zero_add] at hcq
              obtain ⟨hblq, q0, q1, q2⟩ := hcq
              obtain ⟨⟨qa, qb, qc⟩, hqq⟩ : ∃ q, kq L (i) = q := ⟨_, rfl⟩
              rw [hqq] at q0 q1 q2 hzq
              simp only at q0 q1 q2
              have Gq0 := fun n os => Go.cell_grown (n := n) (os := os) (w := e3) (a := ⟨g, (i) * 3, none⟩) hblq q0
              have Gq1 := fun n os => Go.cell_grown (n := n) (os := os) (w := e3) (a := ⟨g, (i) * 3 + 1, none⟩) hblq q1
              have Gq2 := fun n os => Go.cell_grown (n := n) (os := os) (w := e3) (a := ⟨g, (i) * 3 + 2, none⟩) hblq q2
              have iq := Lib.hid (fun n os => Drawn.calls_grow (orderL3_calls qa qb qc X1 X2 X3 (Go.Sort.grow (e3.drewN n) os)))
              obtain ⟨zq, hzqe⟩ : ∃ z, cfK (qa, qb, qc) (X1, X2, X3) = z := ⟨_, rfl⟩
              rw [hzqe] at iq hzq
              clear q0 q1 q2 hqq hzqe
              have dp : decide (0 ≤ zp) = false := decide_eq_false (by omega)
              have dq : decide (zq < 0) = false := decide_eq_false (by omega)
              clear hrow hzp hzq hi0 hi1 hin hin1 hz0 hz
              go_quiet_grown (first | (with_reducible exact Calls.grown_of (ip.out _ _)) | (with_reducible exact Calls.grown_of (iq.out _ _)))
              go_wp2_with fail
              go_meet
              exact ⟨rfl, below_grow e3 _ _⟩
          · rcases V2_e3.out.2 with ⟨e, h0⟩ | ⟨g, cap, cur, e, _⟩
            · rw [HN.out] at h0; omega
            · rw [HN.out] at e
              cases e
              have d1 : decide (z < (n : Int)) = false := decide_eq_false (by omega)
              have hcp := hrow.cells (i - 1) (by rw [HN.out]; omega)
              rw [Nat.zero_add] at hcp
              obtain ⟨hblp, p0, p1, p2⟩ := hcp
              obtain ⟨⟨pa, pb, pc⟩, hqp⟩ : ∃ q, kq L (i - 1) = q := ⟨_, rfl⟩
              rw [hqp] at p0 p1 p2 hzp
              simp only at p0 p1 p2
              have Gp0 := fun n os => Go.cell_grown (n := n) (os := os) (w := e3) (a := ⟨g, (i - 1) * 3, none⟩) hblp p0
              have Gp1 := fun n os => Go.cell_grown (n := n) (os := os) (w := e3) (a := ⟨g, (i - 1) * 3 + 1, none⟩) hblp p1
              have Gp2 := fun n os => Go.cell_grown (n := n) (os := os) (w := e3) (a := ⟨g, (i - 1) * 3 + 2, none⟩) hblp p2
              have ip := Lib.hid (fun n os => Drawn.calls_grow (orderL3_calls pa pb pc X1 X2 X3 (Go.Sort.grow (e3.drewN n) os)))
              obtain ⟨zp, hzpe⟩ : ∃ z, cfK (pa, pb, pc) (X1, X2, X3) = z := ⟨_, rfl⟩
              rw [hzpe] at ip hzp
              clear p0 p1 p2 hqp hzpe
              have dp : decide (0 ≤ zp) = false := decide_eq_false (by omega)
              clear hrow hzp hi0 hi1 hin hin1 hz0 hz
              refine wp_region_quiet_grown (by assumption) (by kernel_rfl) ?_
              repeat (go_big_quiet_step (first | (with_reducible exact Calls.grown_of (ip.out _ _))))
              refine wpQuiet_nil ?_
              intro _ hw'
              obtain ⟨⟨nq, osq⟩, hw''⟩ := hw'
              subst hw''
              go_wp2_with fail
              go_meet
              exact ⟨rfl, below_grow e3 _ _⟩
        · have hz := HZ.out
          have d0 : decide (0 < z) = false := decide_eq_false (by omega)
          by_cases hi1 : i < n
          · rcases V2_e3.out.2 with ⟨e, h0⟩ | ⟨g, cap, cur, e, _⟩
            · rw [HN.out] at h0; omega
            · rw [HN.out] at e
              cases e
              have d1 : decide (z < (n : Int)) = true := decide_eq_true (by omega)
              have g1 : z < (n : Int) := by omega
              have g2 : (0 : Int) ≤ z := by omega
              have hzq := HSp.out.2.2 i (Nat.le_refl _) hi1
              have hcq := hrow.cells (i) (by rw [HN.out]; omega)
              rw [Nat.zero_add] at hcq
              obtain ⟨hblq, q0, q1, q2⟩ := hcq
              obtain ⟨⟨qa, qb, qc⟩, hqq⟩ : ∃ q, kq L (i) = q := ⟨_, rfl⟩
              rw [hqq] at q0 q1 q2 hzq
              simp only at q0 q1 q2
              have Gq0 := fun n os => Go.cell_grown (n := n) (os := os) (w := e3) (a := ⟨g, (i) * 3, none⟩) hblq q0
              have Gq1 := fun n os => Go.cell_grown (n := n) (os := os) (w := e3) (a := ⟨g, (i) * 3 + 1, none⟩) hblq q1
              have Gq2 := fun n os => Go.cell_grown (n := n) (os := os) (w := e3) (a := ⟨g, (i) * 3 + 2, none⟩) hblq q2
              have iq := Lib.hid (fun n os => Drawn.calls_grow (orderL3_calls qa qb qc X1 X2 X3 (Go.Sort.grow (e3.drewN n) os)))
              obtain ⟨zq, hzqe⟩ : ∃ z, cfK (qa, qb, qc) (X1, X2, X3) = z := ⟨_, rfl⟩
              rw [hzqe] at iq hzq
              clear q0 q1 q2 hqq hzqe
              have dq : decide (zq < 0) = false := decide_eq_false (by omega)
              clear hrow hzq hi0 hi1 hin hin1 hz0 hz
              refine wp_region_quiet_grown (by assumption) (by kernel_rfl) ?_
              repeat (go_big_quiet_step (first | (with_reducible exact Calls.grown_of (iq.out _ _))))
              refine wpQuiet_nil ?_
              intro _ hw'
              obtain ⟨⟨nq, osq⟩, hw''⟩ := hw'
              subst hw''
              go_wp2_with fail
              go_meet
              exact ⟨rfl, below_grow e3 _ _⟩
          · have d1 : decide (z < (n : Int)) = false := decide_eq_false (by omega)
            clear hrow hi0 hi1 hin hin1 hz0 hz
            go_quiet (fail)
            go_wp2_with fail
            go_meet
            exact ⟨rfl, below_drewN e3 _⟩
      case rest =>
        obtain ⟨rfl, hb⟩ := hcut
        obtain ⟨e4, rfl⟩ : ∃ x : World, x = wc := ⟨_, rfl⟩
        have HB_e4 := Lib.hid (HB_e3.out.trans (hb.mono HB_e3.out.size))
        have V2_e4 := Lib.hid (V2_e3.out.below hb)
        have K11_e4 := Lib.hid (K11_e3.out.below hb)
        clear hb HSp hin hin1 hz0 hzt HZ HB_e3 V2_e3 K11_e3
        have hl1 : L.length ≤ 1000 := by rw [HN.out]; omega
        have HCl := Lib.hid (fun W (h : KRow W (.slice a2 n c2) L) => cloneK_calls _ L W h (by omega))
        have HSn := Lib.hid (fun W v (h : KRow W v (L ++ [(X1, X2, X3), (X1, X2, X3)])) => Search_not v _ X1 X2 X3 W h (by simp; omega) (twice_not L _))
        have HLl := Lib.hid hl1
        clear hl1
        go_wp2_with fail
        refine (wpIn_wide (n := 5)).1 ?_
        refine wpIn_region_invA (by kernel_rfl) (by kernel_rfl) (fun B a wc => ∃ (vC vA : Value) (p : Nat), a = { tmps := #[.slice a0 S.length c0, .agg #[.int .u64 x.fst, .int .u32 x.snd.fst, .int .u32 x.snd.snd], undef, .pointer (some ⟨w.heap.size, 0, none⟩), u4, .slice a2 n c2, u6, u7, u8, u9, u10, .pointer (some ⟨e1.heap.size, 0, none⟩), .int .i64 z, .bool dm, .int .i64 0, bif B 12 then .int .i64 0 else undef, bif B 13 then .bool false else undef, bif B 14 then .int .i64 73 else undef, u18, u19, u20, u21, u22, .slice a2 n c2, .int .i64 n, .int .i64 k, u26, u27, u28, u29, u30, u31, u32, u33, u34, u35, u36, u37, u38, u39, u40, u41, u42, u43, u44, u45, u46, u47, u48, u49, u50, u51, u52, u53, u54, u55, u56, u57, u58, u59, u60, u61, u62, u63, u64, u65, u66, u67, u68, u69, u70, u71, u72, u73, u74, u75, u76, u77, u78, u79, u80, u81, u82, u83, u84, u85, u86, u87, u88, u89, u90, u91, u92, u93, u94, u95, u96, u97, u98, u99, u100, u101, u102, .bool false, bif B 8 then .tuple #[.int .i64 0, .bool false, .int .i64 73] else u104, bif B 0 then .slice a2 n c2 else u105, bif B 1 then vC else u106, bif B 2 then .agg #[.int .i64 X1, .int .i64 X2, .int .i64 X3] else u107, bif B 3 then .agg #[.int .i64 X1, .int .i64 X2, .int .i64 X3] else u108, bif B 4 then .slice (some ⟨p, 0, none⟩) 2 2 else u109, bif B 5 then vA else u110, bif B 6 then .agg #[.int .i64 X1, .int .i64 X2, .int .i64 X3] else u111, bif B 7 then .tuple #[.int .i64 0, .bool false, .int .i64 73] else u112, bif B 9 then .int .i64 0 else u113, bif B 10 then .bool false else u114, bif B 11 then .int .i64 73 else u115, u116, u117, u118, u119, u120, u121, u122, u123, u124, u125, u126, u127, u128, u129, u130, u131, u132], defers := [] } ∧ Below e4.heap.size e4 wc ∧ (B 1 = true → B 5 = false → OwnK wc e4.heap.size vC L) ∧ (B 4 = true → B 5 = false → KRow wc (.slice (some ⟨p, 0, none⟩) 2 2) [(X1, X2, X3), (X1, X2, X3)]) ∧ (B 5 = true → KRow wc vA (L ++ [(X1, X2, X3), (X1, X2, X3)]))) ?init ?step ?fin
        case init => exact ⟨undef, undef, 0, rfl, (Below.refl _ _).drew, by simp, by simp, by simp⟩
        case step =>
          intro B j a wc hj hbj hcl hw hI K hK
          obtain ⟨vC, vA, p, rfl, hB, h1, h4, h5⟩ := hI
          have hj : j < 15 := hj
          clear hcl
          have kk := K11_e4.out.below hB
          have k0 := (kk.cells 0 (by omega)).1
          have k1 := (kk.cells 1 (by omega)).1
          have k2 := (kk.cells 2 (by omega)).1
          simp only [fldK] at k0 k1 k2
          clear kk
          obtain rfl | rfl | rfl | rfl | rfl | rfl | rfl | rfl | rfl | rfl | rfl | rfl | rfl | rfl | rfl : j = 0 ∨ j = 1 ∨ j = 2 ∨ j = 3 ∨ j = 4 ∨ j = 5 ∨ j = 6 ∨ j = 7 ∨ j = 8 ∨ j = 9 ∨ j = 10 ∨ j = 11 ∨ j = 12 ∨ j = 13 ∨ j = 14 := by omega
          all_goals (simp [waits, Region.binds] at hw)
          · simp only [hbj, cond_false]
            refine wpOpIn_step rfl ?_
            intro K' hK'
            go_simp
            exact hK' _ _ (hK _ _ ⟨vC, vA, p, by simp [upd], hB, by simpa [upd] using h1, by simpa [upd] using h4, by simpa [upd] using h5⟩)
          · simp only [hbj, hw, cond_true, cond_false]
            refine wpOpIn_step rfl ?_
            intro K' hK'
            go_simp
            refine ⟨trivial, (callsIn_wide.2 (HCl.out wc (V2_e4.out.below hB).row)).mono ?_⟩
            rintro e w' ⟨vD, rfl, ho, hb, -⟩
            exact hK' _ _ (hK _ _ ⟨vD, vA, p, by simp [upd, hw], hB.trans (hb.mono hB.size), fun _ _ => ho.mono hB.size, fun a b => (h4 (by simpa [upd] using a) (by simpa [upd] using b)).below hb, fun a => (h5 (by simpa [upd] using a)).below hb⟩)
          · simp only [hbj, cond_false]
            refine wpOpIn_step rfl ?_
            intro K' hK'
            go_simp
            exact hK' _ _ (hK _ _ ⟨vC, vA, p, by simp [upd], hB, by simpa [upd] using h1, by simpa [upd] using h4, by simpa [upd] using h5⟩)
          · simp only [hbj, cond_false]
            refine wpOpIn_step rfl ?_
            intro K' hK'
            go_simp
            exact hK' _ _ (hK _ _ ⟨vC, vA, p, by simp [upd], hB, by simpa [upd] using h1, by simpa [upd] using h4, by simpa [upd] using h5⟩)
          · have hb := (Below.refl wc.heap.size wc).alloc (Nat.le_refl _) (.cells #[.int .i64 X1, .int .i64 X2, .int .i64 X3, .int .i64 X1, .int .i64 X2, .int .i64 X3] 23)
            have hr := krow_two wc X1 X2 X3
            simp only [hbj, hw, cond_true, cond_false]
            refine wpOpIn_step rfl ?_
            intro K' hK'
            go_simp
            exact hK' _ _ (hK _ _ ⟨vC, vA, wc.heap.size, by simp [upd, hw], hB.trans (hb.mono hB.size), fun a b => (h1 (by simpa [upd] using a) (by simpa [upd] using b)).below hb, fun _ _ => hr, fun a => (h5 (by simpa [upd] using a)).below hb⟩)
          · have ho := h1 (by simp [hw]) hbj
            have hr := h4 (by simp [hw]) hbj
            obtain ⟨vD, wD, hrun, ho2, hg, -, -⟩ := run_appendK wc 28 e4.heap.size hB.size vC L ho _ _ hr (by have := HLl.out; simp; omega)
            have hBD := hB.grown hg hB.size (own_ge ho)
            have hrow := ho2.row
            simp only [hbj, hw, cond_true, cond_false]
            refine wpOpIn_append rfl rfl (.tmp 106) (.tmp 109) rfl rfl rfl hrun ?_
            go_simp
            exact hK _ _ ⟨vC, vD, p, by simp [upd, hw], hBD, fun _ h => by simp [upd] at h, fun _ h => by simp [upd] at h, fun _ => hrow⟩
          · simp only [hbj, cond_false]
            refine wpOpIn_step rfl ?_
            intro K' hK'
            go_simp
            exact hK' _ _ (hK _ _ ⟨vC, vA, p, by simp [upd], hB, by simpa [upd] using h1, by simpa [upd] using h4, by simpa [upd] using h5⟩)
          · have hr := h5 (by simp [hw])
            simp only [hbj, hw, cond_true, cond_false]
            refine wpOpIn_step rfl ?_
            intro K' hK'
            go_simp
            refine ⟨trivial, (callsIn_wide.2 (HSn.out wc _ hr)).mono ?_⟩
            rintro e w' ⟨rfl, hb⟩
            exact hK' _ _ (hK _ _ ⟨vC, vA, p, by simp [upd, hw], hB.trans (hb.mono hB.size), fun a b => (h1 (by simpa [upd] using a) (by simpa [upd] using b)).below hb, fun a b => (h4 (by simpa [upd] using a) (by simpa [upd] using b)).below hb, fun a => (h5 (by simpa [upd] using a)).below hb⟩)
          · simp only [hbj, hw, cond_true, cond_false]
            refine wpOpIn_step rfl ?_
            intro K' hK'
            go_simp
            exact hK' _ _ (hK _ _ ⟨vC, vA, p, by simp [upd, hw], hB, by simpa [upd] using h1, by simpa [upd] using h4, by simpa [upd] using h5⟩)
          · simp only [hbj, hw, cond_true, cond_false]
            refine wpOpIn_step rfl ?_
            intro K' hK'
            go_simp
            exact hK' _ _ (hK _ _ ⟨vC, vA, p, by simp [upd, hw], hB, by simpa [upd] using h1, by simpa [upd] using h4, by simpa [upd] using h5⟩)
          · simp only [hbj, hw, cond_true, cond_false]
            refine wpOpIn_step rfl ?_
            intro K' hK'
            go_simp
            exact hK' _ _ (hK _ _ ⟨vC, vA, p, by simp [upd, hw], hB, by simpa [upd] using h1, by simpa [upd] using h4, by simpa [upd] using h5⟩)
          · simp only [hbj, hw, cond_true, cond_false]
            refine wpOpIn_step rfl ?_
            intro K' hK'
            go_simp
            exact hK' _ _ (hK _ _ ⟨vC, vA, p, by simp [upd, hw], hB, by simpa [upd] using h1, by simpa [upd] using h4, by simpa [upd] using h5⟩)
          · simp only [hbj, hw, cond_true, cond_false]
            refine wpOpIn_step rfl ?_
            intro K' hK'
            go_simp
            exact hK' _ _ (hK _ _ ⟨vC, vA, p, by simp [upd, hw], hB, by simpa [upd] using h1, by simpa [upd] using h4, by simpa [upd] using h5⟩)
          · simp only [hbj, hw, cond_true, cond_false]
            refine wpOpIn_step rfl ?_
            intro K' hK'
            go_simp
            exact hK' _ _ (hK _ _ ⟨vC, vA, p, by simp [upd, hw], hB, by simpa [upd] using h1, by simpa [upd] using h4, by simpa [upd] using h5⟩)
          · simp only [hbj, hw, cond_true, cond_false]
            refine wpOpIn_step rfl ?_
            intro K' hK'
            go_simp
            exact hK' _ _ (hK _ _ ⟨vC, vA, p, by simp [upd, hw], hB, by simpa [upd] using h1, by simpa [upd] using h4, by simpa [upd] using h5⟩)
        case fin =>
          intro B a w5 hall hI
          obtain ⟨vC, vA, p, rfl, hB, -, -, -⟩ := hI
          simp only [hall 0 (by decide), hall 1 (by decide), hall 2 (by decide), hall 3 (by decide), hall 4 (by decide), hall 5 (by decide), hall 6 (by decide), hall 7 (by decide), hall 8 (by decide), hall 9 (by decide), hall 10 (by decide), hall 11 (by decide), hall 12 (by decide), hall 13 (by decide), hall 14 (by decide), cond_true]
          have HB_w5 := Lib.hid (HB_e4.out.trans (hB.mono HB_e4.out.size))
          have V2_w5 := Lib.hid (V2_e4.out.below hB)
          have K11_w5 := Lib.hid (K11_e4.out.below hB)
          have HRv := Lib.hid (fun W (hO : OwnK W w.heap.size (.slice a2 L.length c2) L) (hk : KAt W e1.heap.size (X1, X2, X3)) (hs : w.heap.size ≤ W.heap.size) => reverseK_keep a2 c2 w.heap.size L W e1.heap.size (X1, X2, X3) hO (by have := HLl.out; omega) hs hk HG1.out)
          rw [HN.out] at HRv
          obtain ⟨iv, dv, er, her, hsv⟩ := Search_rev L X1 X2 X3 HInc.out HLl.out
          rw [HN.out] at her hsv
          have HSv := Lib.hid hsv
          have HEr := Lib.hid her
          clear hall hB HB_e4 V2_e4 K11_e4 HCl HSn hsv her HG1
          go_wp2_with fail
          refine (HRv.out _ V2_w5.out K11_w5.out HB_w5.out.size).mono ?_
          rintro e w6 ⟨rfl, hr6, hb6, hk6⟩
          have HB_w6 := Lib.hid (HB_w5.out.trans hb6)
          have HR6 := Lib.hid hr6
          have y0 := (hk6.cells 0 (by omega)).1
          have y1 := (hk6.cells 1 (by omega)).1
          have y2 := (hk6.cells 2 (by omega)).1
          simp only [fldK] at y0 y1 y2
          clear hr6 hb6 hk6 HB_w5 V2_w5 K11_w5 HRv
          go_wp2_with fail
          clear y0 y1 y2
          refine (HSv.out _ _ HR6.out).mono ?_
          rintro e w7 ⟨rfl, hb7⟩
          have HB_w7 := Lib.hid (HB_w6.out.trans (hb7.mono HB_w6.out.size))
          clear hb7 HR6 HSv HB_w6
          obtain ⟨rfl, h1⟩ | ⟨rfl, h1⟩ := HEr.out
          · have h1 : (1 : Int) < (n : Int) := by omega
            clear HEr
            go_wp2
            go_ret
            exact ⟨rfl, HB_w7.out⟩
          · have h1 : ¬ (1 : Int) < (n : Int) := by omega
            clear HEr
            go_wp2
            go_ret
            exact ⟨by show Ending.returned (Value.bool (!decide ((1 : Int) < (n : Int)))) = Ending.returned (Value.bool true); rw [decide_eq_false (Int.not_lt.2 h1)]; rfl, HB_w7.out⟩
end Go.Proofs.YtapaccbffhcjdaaDoor
