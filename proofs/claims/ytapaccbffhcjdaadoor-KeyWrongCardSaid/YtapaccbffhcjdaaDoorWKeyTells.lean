/-
  THE WALK of KeyTells: what the keys tell, beside the reference.
-/
import Derived.Test.YtapaccbffhcjdaaDoorKeyRef3
namespace Go.Proofs.YtapaccbffhcjdaaDoor
open Go.RowKit Go.Shelf Go.Sort

def bL (k : Ky) : List UInt8 := if RightK k then bytesK k else []
def tL (k : Ky) : List UInt8 := if RightK k then textK k else []
def oE (k : Ky) : Int := if RightK k then 0 else 70
def enV (t : Int) : Ky × Ky × Int := if endsOk t then ((t, 0, 0), (t, 16, 4294967295), 0) else ((0, 0, 0), (0, 0, 0), 2)
theorem bytesK_any (k : Ky) (w : World) :
    Calls Tryd.prog 17 #[.agg #[.int .i64 k.1, .int .i64 k.2.1, .int .i64 k.2.2]] w fun e W' => (∃ v, e = .returned (.tuple #[v, .int .i64 (oE k)]) ∧ BR W' v (bL k)) ∧ Below w.heap.size w W' := by
  unfold oE bL
  by_cases h : RightK k
  · simp only [if_pos h]; exact bytesK_yes k w h
  · simp only [if_neg h]; exact (bytesK_no k w h).mono fun e W' ⟨he, hb⟩ => ⟨⟨_, he, .inl ⟨rfl, _, _, rfl, Nat.zero_le _⟩⟩, hb⟩
theorem rBytesK_any (k : Ky) (w : World) :
    Calls Tryd.prog 42 #[.agg #[.int .i64 k.1, .int .i64 k.2.1, .int .i64 k.2.2]] w fun e W' => (∃ v, e = .returned (.tuple #[v, .int .i64 (oE k)]) ∧ BR W' v (bL k)) ∧ Below w.heap.size w W' := by
  unfold oE bL
  by_cases h : RightK k
  · simp only [if_pos h]; exact (rBytesK_yes k w h).mono fun e W' ⟨⟨v, he, ho⟩, hb⟩ => ⟨⟨v, he, ho.row⟩, hb⟩
  · simp only [if_neg h]; exact (rBytesK_no k w h).mono fun e W' ⟨he, hb⟩ => ⟨⟨_, he, .inl ⟨rfl, _, _, rfl, Nat.zero_le _⟩⟩, hb⟩
theorem textK_any (k : Ky) (w : World) (ht : Tab w) :
    Calls Tryd.prog 18 #[.agg #[.int .i64 k.1, .int .i64 k.2.1, .int .i64 k.2.2]] w fun e W' => e = .returned (.tuple #[.string ⟨(tL k).toArray⟩, .int .i64 (oE k)]) ∧ Below w.heap.size w W' := by
  unfold oE tL
  by_cases h : RightK k
  · simp only [if_pos h]; exact textK_yes k w h (.inl ht)
  · simp only [if_neg h]; exact textK_no k w h
theorem rTextK_any (k : Ky) (w : World) :
    Calls Tryd.prog 43 #[.agg #[.int .i64 k.1, .int .i64 k.2.1, .int .i64 k.2.2]] w fun e W' => e = .returned (.tuple #[.string ⟨(tL k).toArray⟩, .int .i64 (oE k)]) ∧ Below w.heap.size w W' := by
  unfold oE tL
  by_cases h : RightK k
  · simp only [if_pos h]; exact rTextK_yes k w h
  · simp only [if_neg h]; exact rTextK_no k w h
theorem endsK_any (t : Int) (w : World) :
    Calls Tryd.prog 27 #[.int .i64 t] w fun e W' => e = .returned (.tuple #[.agg #[.int .i64 (enV t).1.1, .int .i64 (enV t).1.2.1, .int .i64 (enV t).1.2.2], .agg #[.int .i64 (enV t).2.1.1, .int .i64 (enV t).2.1.2.1, .int .i64 (enV t).2.1.2.2], .int .i64 (enV t).2.2]) ∧ Below w.heap.size w W' := by
  unfold enV
  by_cases h : endsOk t
  · simp only [if_pos h]; exact endsK_yes t w h
  · simp only [if_neg h]; exact endsK_no t w h
theorem rEndsK_any (t : Int) (w : World) :
    Calls Tryd.prog 46 #[.int .i64 t] w fun e W' => e = .returned (.tuple #[.agg #[.int .i64 (enV t).1.1, .int .i64 (enV t).1.2.1, .int .i64 (enV t).1.2.2], .agg #[.int .i64 (enV t).2.1.1, .int .i64 (enV t).2.1.2.1, .int .i64 (enV t).2.1.2.2], .int .i64 (enV t).2.2]) ∧ Below w.heap.size w W' := by
  unfold enV
  by_cases h : endsOk t
  · simp only [if_pos h]; exact rEndsK_yes t w h
  · simp only [if_neg h]; exact rEndsK_no t w h

set_option maxRecDepth 100000 in
set_option maxHeartbeats 4000000 in
theorem tells_calls (x y : Ky) (t : Int) (w : World) (ht : Tab w) :
    Calls Tryd.prog 12 #[.agg #[.int .i64 x.1, .int .i64 x.2.1, .int .i64 x.2.2], .agg #[.int .i64 y.1, .int .i64 y.2.1, .int .i64 y.2.2], .int .i64 t] w fun e w' => e = .returned (.bool true) ∧ Below w.heap.size w w' := by
  have mixed : Tryd.prog.follows .mixedOrders = true := by kernel_rfl
  obtain ⟨A1, A2, A3⟩ := x
  obtain ⟨B1, B2, B3⟩ := y
  simp only
  have HB_w := Lib.hid (Below.refl w.heap.size w)
  have HTb := Lib.hid (fun (W : World) (hb : Below w.heap.size w W) => ht.below hb)
  have H1 := Lib.hid (fun W => compareK_calls (A1, A2, A3) (B1, B2, B3) W)
  have H2 := Lib.hid (fun W => rCompare_calls (A1, A2, A3) (B1, B2, B3) W)
  have H3 := Lib.hid (fun W => bytesK_any (A1, A2, A3) W)
  have H4 := Lib.hid (fun W => rBytesK_any (A1, A2, A3) W)
  have H5 := Lib.hid (fun W (h : Tab W) => textK_any (A1, A2, A3) W h)
  have H6 := Lib.hid (fun W => rTextK_any (A1, A2, A3) W)
  have H7 := Lib.hid (fun W => nextK_calls (A1, A2, A3) W)
  have H8 := Lib.hid (fun W => rNextK_calls (A1, A2, A3) W)
  have H9 := Lib.hid (fun W => backK_calls (A1, A2, A3) W)
  have H10 := Lib.hid (fun W => rBackK_calls (A1, A2, A3) W)
  have H11 := Lib.hid (fun W => endsK_any t W)
  have H12 := Lib.hid (fun W => rEndsK_any t W)
  have H13 := Lib.hid (fun W => rightK_calls (A1, A2, A3) W)
  have H14 := Lib.hid (fun W => rRight_calls (A1, A2, A3) W)
  generalize cfK (A1, A2, A3) (B1, B2, B3) = cf at *
  generalize byK (A1, A2, A3) (B1, B2, B3) = by_ at *
  generalize bL (A1, A2, A3) = bl at *
  generalize tL (A1, A2, A3) = tl at *
  generalize oE (A1, A2, A3) = oe at *
  generalize nextK (A1, A2, A3) = nx at *
  generalize backK (A1, A2, A3) = bk at *
  generalize enV t = en at *
  generalize decide (RightK (A1, A2, A3)) = rr at *
  obtain ⟨⟨N1, N2, N3⟩, ne⟩ := nx
  obtain ⟨⟨P1, P2, P3⟩, pe⟩ := bk
  obtain ⟨⟨F1, F2, F3⟩, ⟨L1, L2, L3⟩, fe⟩ := en
  simp only at H1 H2 H3 H4 H5 H6 H7 H8 H9 H10 H11 H12 H13 H14
  clear ht
  have hb := (Below.refl w.heap.size w).alloc (Nat.le_refl _) (.cells #[.int .i64 A1, .int .i64 A2, .int .i64 A3] 23)
  have HB_wa := Lib.hid (HB_w.out.trans (hb.mono HB_w.out.size))
  clear HB_w
  have K3_wa := Lib.hid (show KAt (w.alloc (.cells #[.int .i64 A1, .int .i64 A2, .int .i64 A3] 23)) (w.heap.size) (A1, A2, A3) from World.alloc_heap_new w _)
  clear hb
  have hK2 := World.alloc_heap_new (w.alloc (.cells #[.int .i64 A1, .int .i64 A2, .int .i64 A3] 23)) (.cells #[.int .i64 B1, .int .i64 B2, .int .i64 B3] 23)
  rw [World.size_alloc] at hK2
  have K4_h := Lib.hid hK2
  clear hK2
  have hb := (Below.refl (w.alloc (.cells #[.int .i64 A1, .int .i64 A2, .int .i64 A3] 23)).heap.size (w.alloc (.cells #[.int .i64 A1, .int .i64 A2, .int .i64 A3] 23))).alloc (Nat.le_refl _) (.cells #[.int .i64 B1, .int .i64 B2, .int .i64 B3] 23)
  have K3_wb := Lib.hid (show KAt ((w.alloc (.cells #[.int .i64 A1, .int .i64 A2, .int .i64 A3] 23)).alloc (.cells #[.int .i64 B1, .int .i64 B2, .int .i64 B3] 23)) (w.heap.size) (A1, A2, A3) from K3_wa.out.below hb)
  have HB_wb := Lib.hid (HB_wa.out.trans (hb.mono HB_wa.out.size))
  clear K3_wa HB_wa
  clear hb
  have K4_wb := Lib.hid (show KAt ((w.alloc (.cells #[.int .i64 A1, .int .i64 A2, .int .i64 A3] 23)).alloc (.cells #[.int .i64 B1, .int .i64 B2, .int .i64 B3] 23)) (w.heap.size + 1) (B1, B2, B3) from K4_h.out)
  clear K4_h
  go_enter Tryd.func12, Tryd.ntmps12
  have a0 := (K3_wb.out.cells 0 (by omega)).1
  have a1 := (K3_wb.out.cells 1 (by omega)).1
  have a2 := (K3_wb.out.cells 2 (by omega)).1
  have b0 := (K4_wb.out.cells 0 (by omega)).1
  have b1 := (K4_wb.out.cells 1 (by omega)).1
  have b2 := (K4_wb.out.cells 2 (by omega)).1
  simp only [fldK] at a0 a1 a2 b0 b1 b2
  go_wp2_with fail
  clear a0 a1 a2 b0 b1 b2
  refine (H1.out _).mono ?_
  rintro e w1 ⟨rfl, hb⟩
  have K3_w1 := Lib.hid (show KAt w1 (w.heap.size) (A1, A2, A3) from K3_wb.out.below hb)
  have K4_w1 := Lib.hid (show KAt w1 (w.heap.size + 1) (B1, B2, B3) from K4_wb.out.below hb)
  have HB_w1 := Lib.hid (HB_wb.out.trans (hb.mono HB_wb.out.size))
  clear K3_wb K4_wb HB_wb
  clear hb
  have a0 := (K3_w1.out.cells 0 (by omega)).1
  have a1 := (K3_w1.out.cells 1 (by omega)).1
  have a2 := (K3_w1.out.cells 2 (by omega)).1
  have b0 := (K4_w1.out.cells 0 (by omega)).1
  have b1 := (K4_w1.out.cells 1 (by omega)).1
  have b2 := (K4_w1.out.cells 2 (by omega)).1
  simp only [fldK] at a0 a1 a2 b0 b1 b2
  go_wp2_with fail
  clear a0 a1 a2 b0 b1 b2
  refine (H2.out _).mono ?_
  rintro e w2 ⟨rfl, hb⟩
  have K3_w2 := Lib.hid (show KAt w2 (w.heap.size) (A1, A2, A3) from K3_w1.out.below hb)
  have K4_w2 := Lib.hid (show KAt w2 (w.heap.size + 1) (B1, B2, B3) from K4_w1.out.below hb)
  have HB_w2 := Lib.hid (HB_w1.out.trans (hb.mono HB_w1.out.size))
  clear K3_w1 K4_w1 HB_w1
  clear hb
  have a0 := (K3_w2.out.cells 0 (by omega)).1
  have a1 := (K3_w2.out.cells 1 (by omega)).1
  have a2 := (K3_w2.out.cells 2 (by omega)).1
  simp only [fldK] at a0 a1 a2
  go_wp2_with fail
  clear a0 a1 a2
  refine (H3.out _).mono ?_
  rintro e w3 ⟨⟨vb, rfl, hvb⟩, hb⟩
  have K3_w3 := Lib.hid (show KAt w3 (w.heap.size) (A1, A2, A3) from K3_w2.out.below hb)
  have K4_w3 := Lib.hid (show KAt w3 (w.heap.size + 1) (B1, B2, B3) from K4_w2.out.below hb)
  have HB_w3 := Lib.hid (HB_w2.out.trans (hb.mono HB_w2.out.size))
  clear K3_w2 K4_w2 HB_w2
  have VB_w3 := Lib.hid (show BR w3 vb bl from hvb)
  clear hvb
  clear hb
  have a0 := (K3_w3.out.cells 0 (by omega)).1
  have a1 := (K3_w3.out.cells 1 (by omega)).1
  have a2 := (K3_w3.out.cells 2 (by omega)).1
  simp only [fldK] at a0 a1 a2
  go_wp2_with fail
  clear a0 a1 a2
  refine (H4.out _).mono ?_
  rintro e w4 ⟨⟨vc, rfl, hvc⟩, hb⟩
  have K3_w4 := Lib.hid (show KAt w4 (w.heap.size) (A1, A2, A3) from K3_w3.out.below hb)
  have K4_w4 := Lib.hid (show KAt w4 (w.heap.size + 1) (B1, B2, B3) from K4_w3.out.below hb)
  have VB_w4 := Lib.hid (show BR w4 vb bl from VB_w3.out.below hb)
  have HB_w4 := Lib.hid (HB_w3.out.trans (hb.mono HB_w3.out.size))
  clear K3_w3 K4_w3 VB_w3 HB_w3
  have VC_w4 := Lib.hid (show BR w4 vc bl from hvc)
  clear hvc
  clear hb
  have a0 := (K3_w4.out.cells 0 (by omega)).1
  have a1 := (K3_w4.out.cells 1 (by omega)).1
  have a2 := (K3_w4.out.cells 2 (by omega)).1
  simp only [fldK] at a0 a1 a2
  go_wp2_with fail
  clear a0 a1 a2
  refine (H5.out _ (HTb.out _ HB_w4.out)).mono ?_
  rintro e w5 ⟨rfl, hb⟩
  have K3_w5 := Lib.hid (show KAt w5 (w.heap.size) (A1, A2, A3) from K3_w4.out.below hb)
  have K4_w5 := Lib.hid (show KAt w5 (w.heap.size + 1) (B1, B2, B3) from K4_w4.out.below hb)
  have VB_w5 := Lib.hid (show BR w5 vb bl from VB_w4.out.below hb)
  have VC_w5 := Lib.hid (show BR w5 vc bl from VC_w4.out.below hb)
  have HB_w5 := Lib.hid (HB_w4.out.trans (hb.mono HB_w4.out.size))
  clear K3_w4 K4_w4 VB_w4 VC_w4 HB_w4
  clear hb
  have a0 := (K3_w5.out.cells 0 (by omega)).1
  have a1 := (K3_w5.out.cells 1 (by omega)).1
  have a2 := (K3_w5.out.cells 2 (by omega)).1
  simp only [fldK] at a0 a1 a2
  go_wp2_with fail
  clear a0 a1 a2
  refine (H6.out _).mono ?_
  rintro e w6 ⟨rfl, hb⟩
  have K3_w6 := Lib.hid (show KAt w6 (w.heap.size) (A1, A2, A3) from K3_w5.out.below hb)
  have K4_w6 := Lib.hid (show KAt w6 (w.heap.size + 1) (B1, B2, B3) from K4_w5.out.below hb)
  have VB_w6 := Lib.hid (show BR w6 vb bl from VB_w5.out.below hb)
  have VC_w6 := Lib.hid (show BR w6 vc bl from VC_w5.out.below hb)
  have HB_w6 := Lib.hid (HB_w5.out.trans (hb.mono HB_w5.out.size))
  clear K3_w5 K4_w5 VB_w5 VC_w5 HB_w5
  clear hb
  have a0 := (K3_w6.out.cells 0 (by omega)).1
  have a1 := (K3_w6.out.cells 1 (by omega)).1
  have a2 := (K3_w6.out.cells 2 (by omega)).1
  simp only [fldK] at a0 a1 a2
  go_wp2_with fail
  clear a0 a1 a2
  refine (H7.out _).mono ?_
  rintro e w7 ⟨rfl, hb⟩
  have K3_w7 := Lib.hid (show KAt w7 (w.heap.size) (A1, A2, A3) from K3_w6.out.below hb)
  have K4_w7 := Lib.hid (show KAt w7 (w.heap.size + 1) (B1, B2, B3) from K4_w6.out.below hb)
  have VB_w7 := Lib.hid (show BR w7 vb bl from VB_w6.out.below hb)
  have VC_w7 := Lib.hid (show BR w7 vc bl from VC_w6.out.below hb)
  have HB_w7 := Lib.hid (HB_w6.out.trans (hb.mono HB_w6.out.size))
  clear K3_w6 K4_w6 VB_w6 VC_w6 HB_w6
  clear hb
  have hb := (Below.refl w7.heap.size w7).alloc (Nat.le_refl _) (.cells #[.int .i64 N1, .int .i64 N2, .int .i64 N3] 23)
  have K3_w7a := Lib.hid (show KAt (w7.alloc (.cells #[.int .i64 N1, .int .i64 N2, .int .i64 N3] 23)) (w.heap.size) (A1, A2, A3) from K3_w7.out.below hb)
  have K4_w7a := Lib.hid (show KAt (w7.alloc (.cells #[.int .i64 N1, .int .i64 N2, .int .i64 N3] 23)) (w.heap.size + 1) (B1, B2, B3) from K4_w7.out.below hb)
  have VB_w7a := Lib.hid (show BR (w7.alloc (.cells #[.int .i64 N1, .int .i64 N2, .int .i64 N3] 23)) vb bl from VB_w7.out.below hb)
  have VC_w7a := Lib.hid (show BR (w7.alloc (.cells #[.int .i64 N1, .int .i64 N2, .int .i64 N3] 23)) vc bl from VC_w7.out.below hb)
  have HB_w7a := Lib.hid (HB_w7.out.trans (hb.mono HB_w7.out.size))
  clear K3_w7 K4_w7 VB_w7 VC_w7 HB_w7
  have K19_w7a := Lib.hid (show KAt (w7.alloc (.cells #[.int .i64 N1, .int .i64 N2, .int .i64 N3] 23)) (w7.heap.size) (N1, N2, N3) from World.alloc_heap_new w7 _)
  clear hb
  have a0 := (K3_w7a.out.cells 0 (by omega)).1
  have a1 := (K3_w7a.out.cells 1 (by omega)).1
  have a2 := (K3_w7a.out.cells 2 (by omega)).1
  simp only [fldK] at a0 a1 a2
  go_wp2_with fail
  clear a0 a1 a2
  refine (H8.out _).mono ?_
  rintro e w8 ⟨rfl, hb⟩
  have K3_w8 := Lib.hid (show KAt w8 (w.heap.size) (A1, A2, A3) from K3_w7a.out.below hb)
  have K4_w8 := Lib.hid (show KAt w8 (w.heap.size + 1) (B1, B2, B3) from K4_w7a.out.below hb)
  have VB_w8 := Lib.hid (show BR w8 vb bl from VB_w7a.out.below hb)
  have VC_w8 := Lib.hid (show BR w8 vc bl from VC_w7a.out.below hb)
  have K19_w8 := Lib.hid (show KAt w8 (w7.heap.size) (N1, N2, N3) from K19_w7a.out.below hb)
  have HB_w8 := Lib.hid (HB_w7a.out.trans (hb.mono HB_w7a.out.size))
  clear K3_w7a K4_w7a VB_w7a VC_w7a K19_w7a HB_w7a
  clear hb
  have hb := (Below.refl w8.heap.size w8).alloc (Nat.le_refl _) (.cells #[.int .i64 N1, .int .i64 N2, .int .i64 N3] 23)
  have K3_w8a := Lib.hid (show KAt (w8.alloc (.cells #[.int .i64 N1, .int .i64 N2, .int .i64 N3] 23)) (w.heap.size) (A1, A2, A3) from K3_w8.out.below hb)
  have K4_w8a := Lib.hid (show KAt (w8.alloc (.cells #[.int .i64 N1, .int .i64 N2, .int .i64 N3] 23)) (w.heap.size + 1) (B1, B2, B3) from K4_w8.out.below hb)
  have VB_w8a := Lib.hid (show BR (w8.alloc (.cells #[.int .i64 N1, .int .i64 N2, .int .i64 N3] 23)) vb bl from VB_w8.out.below hb)
  have VC_w8a := Lib.hid (show BR (w8.alloc (.cells #[.int .i64 N1, .int .i64 N2, .int .i64 N3] 23)) vc bl from VC_w8.out.below hb)
  have K19_w8a := Lib.hid (show KAt (w8.alloc (.cells #[.int .i64 N1, .int .i64 N2, .int .i64 N3] 23)) (w7.heap.size) (N1, N2, N3) from K19_w8.out.below hb)
  have HB_w8a := Lib.hid (HB_w8.out.trans (hb.mono HB_w8.out.size))
  clear K3_w8 K4_w8 VB_w8 VC_w8 K19_w8 HB_w8
  have K21_w8a := Lib.hid (show KAt (w8.alloc (.cells #[.int .i64 N1, .int .i64 N2, .int .i64 N3] 23)) (w8.heap.size) (N1, N2, N3) from World.alloc_heap_new w8 _)
  clear hb
  have a0 := (K3_w8a.out.cells 0 (by omega)).1
  have a1 := (K3_w8a.out.cells 1 (by omega)).1
  have a2 := (K3_w8a.out.cells 2 (by omega)).1
  simp only [fldK] at a0 a1 a2
  go_wp2_with fail
  clear a0 a1 a2
  refine (H9.out _).mono ?_
  rintro e w9 ⟨rfl, hb⟩
  have K3_w9 := Lib.hid (show KAt w9 (w.heap.size) (A1, A2, A3) from K3_w8a.out.below hb)
  have K4_w9 := Lib.hid (show KAt w9 (w.heap.size + 1) (B1, B2, B3) from K4_w8a.out.below hb)
  have VB_w9 := Lib.hid (show BR w9 vb bl from VB_w8a.out.below hb)
  have VC_w9 := Lib.hid (show BR w9 vc bl from VC_w8a.out.below hb)
  have K19_w9 := Lib.hid (show KAt w9 (w7.heap.size) (N1, N2, N3) from K19_w8a.out.below hb)
  have K21_w9 := Lib.hid (show KAt w9 (w8.heap.size) (N1, N2, N3) from K21_w8a.out.below hb)
  have HB_w9 := Lib.hid (HB_w8a.out.trans (hb.mono HB_w8a.out.size))
  clear K3_w8a K4_w8a VB_w8a VC_w8a K19_w8a K21_w8a HB_w8a
  clear hb
  have hb := (Below.refl w9.heap.size w9).alloc (Nat.le_refl _) (.cells #[.int .i64 P1, .int .i64 P2, .int .i64 P3] 23)
  have K3_w9a := Lib.hid (show KAt (w9.alloc (.cells #[.int .i64 P1, .int .i64 P2, .int .i64 P3] 23)) (w.heap.size) (A1, A2, A3) from K3_w9.out.below hb)
  have K4_w9a := Lib.hid (show KAt (w9.alloc (.cells #[.int .i64 P1, .int .i64 P2, .int .i64 P3] 23)) (w.heap.size + 1) (B1, B2, B3) from K4_w9.out.below hb)
  have VB_w9a := Lib.hid (show BR (w9.alloc (.cells #[.int .i64 P1, .int .i64 P2, .int .i64 P3] 23)) vb bl from VB_w9.out.below hb)
  have VC_w9a := Lib.hid (show BR (w9.alloc (.cells #[.int .i64 P1, .int .i64 P2, .int .i64 P3] 23)) vc bl from VC_w9.out.below hb)
  have K19_w9a := Lib.hid (show KAt (w9.alloc (.cells #[.int .i64 P1, .int .i64 P2, .int .i64 P3] 23)) (w7.heap.size) (N1, N2, N3) from K19_w9.out.below hb)
  have K21_w9a := Lib.hid (show KAt (w9.alloc (.cells #[.int .i64 P1, .int .i64 P2, .int .i64 P3] 23)) (w8.heap.size) (N1, N2, N3) from K21_w9.out.below hb)
  have HB_w9a := Lib.hid (HB_w9.out.trans (hb.mono HB_w9.out.size))
  clear K3_w9 K4_w9 VB_w9 VC_w9 K19_w9 K21_w9 HB_w9
  have K23_w9a := Lib.hid (show KAt (w9.alloc (.cells #[.int .i64 P1, .int .i64 P2, .int .i64 P3] 23)) (w9.heap.size) (P1, P2, P3) from World.alloc_heap_new w9 _)
  clear hb
  have a0 := (K3_w9a.out.cells 0 (by omega)).1
  have a1 := (K3_w9a.out.cells 1 (by omega)).1
  have a2 := (K3_w9a.out.cells 2 (by omega)).1
  simp only [fldK] at a0 a1 a2
  go_wp2_with fail
  clear a0 a1 a2
  refine (H10.out _).mono ?_
  rintro e w10 ⟨rfl, hb⟩
  have K3_w10 := Lib.hid (show KAt w10 (w.heap.size) (A1, A2, A3) from K3_w9a.out.below hb)
  have K4_w10 := Lib.hid (show KAt w10 (w.heap.size + 1) (B1, B2, B3) from K4_w9a.out.below hb)
  have VB_w10 := Lib.hid (show BR w10 vb bl from VB_w9a.out.below hb)
  have VC_w10 := Lib.hid (show BR w10 vc bl from VC_w9a.out.below hb)
  have K19_w10 := Lib.hid (show KAt w10 (w7.heap.size) (N1, N2, N3) from K19_w9a.out.below hb)
  have K21_w10 := Lib.hid (show KAt w10 (w8.heap.size) (N1, N2, N3) from K21_w9a.out.below hb)
  have K23_w10 := Lib.hid (show KAt w10 (w9.heap.size) (P1, P2, P3) from K23_w9a.out.below hb)
  have HB_w10 := Lib.hid (HB_w9a.out.trans (hb.mono HB_w9a.out.size))
  clear K3_w9a K4_w9a VB_w9a VC_w9a K19_w9a K21_w9a K23_w9a HB_w9a
  clear hb
  have hb := (Below.refl w10.heap.size w10).alloc (Nat.le_refl _) (.cells #[.int .i64 P1, .int .i64 P2, .int .i64 P3] 23)
  have K3_w10a := Lib.hid (show KAt (w10.alloc (.cells #[.int .i64 P1, .int .i64 P2, .int .i64 P3] 23)) (w.heap.size) (A1, A2, A3) from K3_w10.out.below hb)
  have K4_w10a := Lib.hid (show KAt (w10.alloc (.cells #[.int .i64 P1, .int .i64 P2, .int .i64 P3] 23)) (w.heap.size + 1) (B1, B2, B3) from K4_w10.out.below hb)
  have VB_w10a := Lib.hid (show BR (w10.alloc (.cells #[.int .i64 P1, .int .i64 P2, .int .i64 P3] 23)) vb bl from VB_w10.out.below hb)
  have VC_w10a := Lib.hid (show BR (w10.alloc (.cells #[.int .i64 P1, .int .i64 P2, .int .i64 P3] 23)) vc bl from VC_w10.out.below hb)
  have K19_w10a := Lib.hid (show KAt (w10.alloc (.cells #[.int .i64 P1, .int .i64 P2, .int .i64 P3] 23)) (w7.heap.size) (N1, N2, N3) from K19_w10.out.below hb)
  have K21_w10a := Lib.hid (show KAt (w10.alloc (.cells #[.int .i64 P1, .int .i64 P2, .int .i64 P3] 23)) (w8.heap.size) (N1, N2, N3) from K21_w10.out.below hb)
  have K23_w10a := Lib.hid (show KAt (w10.alloc (.cells #[.int .i64 P1, .int .i64 P2, .int .i64 P3] 23)) (w9.heap.size) (P1, P2, P3) from K23_w10.out.below hb)
  have HB_w10a := Lib.hid (HB_w10.out.trans (hb.mono HB_w10.out.size))
  clear K3_w10 K4_w10 VB_w10 VC_w10 K19_w10 K21_w10 K23_w10 HB_w10
  have K25_w10a := Lib.hid (show KAt (w10.alloc (.cells #[.int .i64 P1, .int .i64 P2, .int .i64 P3] 23)) (w10.heap.size) (P1, P2, P3) from World.alloc_heap_new w10 _)
  clear hb
  go_wp2_with fail
  refine (H11.out _).mono ?_
  rintro e w11 ⟨rfl, hb⟩
  have K3_w11 := Lib.hid (show KAt w11 (w.heap.size) (A1, A2, A3) from K3_w10a.out.below hb)
  have K4_w11 := Lib.hid (show KAt w11 (w.heap.size + 1) (B1, B2, B3) from K4_w10a.out.below hb)
  have VB_w11 := Lib.hid (show BR w11 vb bl from VB_w10a.out.below hb)
  have VC_w11 := Lib.hid (show BR w11 vc bl from VC_w10a.out.below hb)
  have K19_w11 := Lib.hid (show KAt w11 (w7.heap.size) (N1, N2, N3) from K19_w10a.out.below hb)
  have K21_w11 := Lib.hid (show KAt w11 (w8.heap.size) (N1, N2, N3) from K21_w10a.out.below hb)
  have K23_w11 := Lib.hid (show KAt w11 (w9.heap.size) (P1, P2, P3) from K23_w10a.out.below hb)
  have K25_w11 := Lib.hid (show KAt w11 (w10.heap.size) (P1, P2, P3) from K25_w10a.out.below hb)
  have HB_w11 := Lib.hid (HB_w10a.out.trans (hb.mono HB_w10a.out.size))
  clear K3_w10a K4_w10a VB_w10a VC_w10a K19_w10a K21_w10a K23_w10a K25_w10a HB_w10a
  clear hb
  have hb := (Below.refl w11.heap.size w11).alloc (Nat.le_refl _) (.cells #[.int .i64 F1, .int .i64 F2, .int .i64 F3] 23)
  have K3_w11a := Lib.hid (show KAt (w11.alloc (.cells #[.int .i64 F1, .int .i64 F2, .int .i64 F3] 23)) (w.heap.size) (A1, A2, A3) from K3_w11.out.below hb)
  have K4_w11a := Lib.hid (show KAt (w11.alloc (.cells #[.int .i64 F1, .int .i64 F2, .int .i64 F3] 23)) (w.heap.size + 1) (B1, B2, B3) from K4_w11.out.below hb)
  have VB_w11a := Lib.hid (show BR (w11.alloc (.cells #[.int .i64 F1, .int .i64 F2, .int .i64 F3] 23)) vb bl from VB_w11.out.below hb)
  have VC_w11a := Lib.hid (show BR (w11.alloc (.cells #[.int .i64 F1, .int .i64 F2, .int .i64 F3] 23)) vc bl from VC_w11.out.below hb)
  have K19_w11a := Lib.hid (show KAt (w11.alloc (.cells #[.int .i64 F1, .int .i64 F2, .int .i64 F3] 23)) (w7.heap.size) (N1, N2, N3) from K19_w11.out.below hb)
  have K21_w11a := Lib.hid (show KAt (w11.alloc (.cells #[.int .i64 F1, .int .i64 F2, .int .i64 F3] 23)) (w8.heap.size) (N1, N2, N3) from K21_w11.out.below hb)
  have K23_w11a := Lib.hid (show KAt (w11.alloc (.cells #[.int .i64 F1, .int .i64 F2, .int .i64 F3] 23)) (w9.heap.size) (P1, P2, P3) from K23_w11.out.below hb)
  have K25_w11a := Lib.hid (show KAt (w11.alloc (.cells #[.int .i64 F1, .int .i64 F2, .int .i64 F3] 23)) (w10.heap.size) (P1, P2, P3) from K25_w11.out.below hb)
  have HB_w11a := Lib.hid (HB_w11.out.trans (hb.mono HB_w11.out.size))
  clear K3_w11 K4_w11 VB_w11 VC_w11 K19_w11 K21_w11 K23_w11 K25_w11 HB_w11
  have K27_w11a := Lib.hid (show KAt (w11.alloc (.cells #[.int .i64 F1, .int .i64 F2, .int .i64 F3] 23)) (w11.heap.size) (F1, F2, F3) from World.alloc_heap_new w11 _)
  clear hb
  have hK2 := World.alloc_heap_new (w11.alloc (.cells #[.int .i64 F1, .int .i64 F2, .int .i64 F3] 23)) (.cells #[.int .i64 L1, .int .i64 L2, .int .i64 L3] 23)
  rw [World.size_alloc] at hK2
  have K28_h := Lib.hid hK2
  clear hK2
  have hb := (Below.refl (w11.alloc (.cells #[.int .i64 F1, .int .i64 F2, .int .i64 F3] 23)).heap.size (w11.alloc (.cells #[.int .i64 F1, .int .i64 F2, .int .i64 F3] 23))).alloc (Nat.le_refl _) (.cells #[.int .i64 L1, .int .i64 L2, .int .i64 L3] 23)
  have K3_w11b := Lib.hid (show KAt ((w11.alloc (.cells #[.int .i64 F1, .int .i64 F2, .int .i64 F3] 23)).alloc (.cells #[.int .i64 L1, .int .i64 L2, .int .i64 L3] 23)) (w.heap.size) (A1, A2, A3) from K3_w11a.out.below hb)
  have K4_w11b := Lib.hid (show KAt ((w11.alloc (.cells #[.int .i64 F1, .int .i64 F2, .int .i64 F3] 23)).alloc (.cells #[.int .i64 L1, .int .i64 L2, .int .i64 L3] 23)) (w.heap.size + 1) (B1, B2, B3) from K4_w11a.out.below hb)
  have VB_w11b := Lib.hid (show BR ((w11.alloc (.cells #[.int .i64 F1, .int .i64 F2, .int .i64 F3] 23)).alloc (.cells #[.int .i64 L1, .int .i64 L2, .int .i64 L3] 23)) vb bl from VB_w11a.out.below hb)
  have VC_w11b := Lib.hid (show BR ((w11.alloc (.cells #[.int .i64 F1, .int .i64 F2, .int .i64 F3] 23)).alloc (.cells #[.int .i64 L1, .int .i64 L2, .int .i64 L3] 23)) vc bl from VC_w11a.out.below hb)
  have K19_w11b := Lib.hid (show KAt ((w11.alloc (.cells #[.int .i64 F1, .int .i64 F2, .int .i64 F3] 23)).alloc (.cells #[.int .i64 L1, .int .i64 L2, .int .i64 L3] 23)) (w7.heap.size) (N1, N2, N3) from K19_w11a.out.below hb)
  have K21_w11b := Lib.hid (show KAt ((w11.alloc (.cells #[.int .i64 F1, .int .i64 F2, .int .i64 F3] 23)).alloc (.cells #[.int .i64 L1, .int .i64 L2, .int .i64 L3] 23)) (w8.heap.size) (N1, N2, N3) from K21_w11a.out.below hb)
  have K23_w11b := Lib.hid (show KAt ((w11.alloc (.cells #[.int .i64 F1, .int .i64 F2, .int .i64 F3] 23)).alloc (.cells #[.int .i64 L1, .int .i64 L2, .int .i64 L3] 23)) (w9.heap.size) (P1, P2, P3) from K23_w11a.out.below hb)
  have K25_w11b := Lib.hid (show KAt ((w11.alloc (.cells #[.int .i64 F1, .int .i64 F2, .int .i64 F3] 23)).alloc (.cells #[.int .i64 L1, .int .i64 L2, .int .i64 L3] 23)) (w10.heap.size) (P1, P2, P3) from K25_w11a.out.below hb)
  have K27_w11b := Lib.hid (show KAt ((w11.alloc (.cells #[.int .i64 F1, .int .i64 F2, .int .i64 F3] 23)).alloc (.cells #[.int .i64 L1, .int .i64 L2, .int .i64 L3] 23)) (w11.heap.size) (F1, F2, F3) from K27_w11a.out.below hb)
  have HB_w11b := Lib.hid (HB_w11a.out.trans (hb.mono HB_w11a.out.size))
  clear K3_w11a K4_w11a VB_w11a VC_w11a K19_w11a K21_w11a K23_w11a K25_w11a K27_w11a HB_w11a
  clear hb
  have K28_w11b := Lib.hid (show KAt ((w11.alloc (.cells #[.int .i64 F1, .int .i64 F2, .int .i64 F3] 23)).alloc (.cells #[.int .i64 L1, .int .i64 L2, .int .i64 L3] 23)) (w11.heap.size + 1) (L1, L2, L3) from K28_h.out)
  clear K28_h
  go_wp2_with fail
  refine (H12.out _).mono ?_
  rintro e w12 ⟨rfl, hb⟩
  have K3_w12 := Lib.hid (show KAt w12 (w.heap.size) (A1, A2, A3) from K3_w11b.out.below hb)
  have K4_w12 := Lib.hid (show KAt w12 (w.heap.size + 1) (B1, B2, B3) from K4_w11b.out.below hb)
  have VB_w12 := Lib.hid (show BR w12 vb bl from VB_w11b.out.below hb)
  have VC_w12 := Lib.hid (show BR w12 vc bl from VC_w11b.out.below hb)
  have K19_w12 := Lib.hid (show KAt w12 (w7.heap.size) (N1, N2, N3) from K19_w11b.out.below hb)
  have K21_w12 := Lib.hid (show KAt w12 (w8.heap.size) (N1, N2, N3) from K21_w11b.out.below hb)
  have K23_w12 := Lib.hid (show KAt w12 (w9.heap.size) (P1, P2, P3) from K23_w11b.out.below hb)
  have K25_w12 := Lib.hid (show KAt w12 (w10.heap.size) (P1, P2, P3) from K25_w11b.out.below hb)
  have K27_w12 := Lib.hid (show KAt w12 (w11.heap.size) (F1, F2, F3) from K27_w11b.out.below hb)
  have K28_w12 := Lib.hid (show KAt w12 (w11.heap.size + 1) (L1, L2, L3) from K28_w11b.out.below hb)
  have HB_w12 := Lib.hid (HB_w11b.out.trans (hb.mono HB_w11b.out.size))
  clear K3_w11b K4_w11b VB_w11b VC_w11b K19_w11b K21_w11b K23_w11b K25_w11b K27_w11b K28_w11b HB_w11b
  clear hb
  have hb := (Below.refl w12.heap.size w12).alloc (Nat.le_refl _) (.cells #[.int .i64 F1, .int .i64 F2, .int .i64 F3] 23)
  have K3_w12a := Lib.hid (show KAt (w12.alloc (.cells #[.int .i64 F1, .int .i64 F2, .int .i64 F3] 23)) (w.heap.size) (A1, A2, A3) from K3_w12.out.below hb)
  have K4_w12a := Lib.hid (show KAt (w12.alloc (.cells #[.int .i64 F1, .int .i64 F2, .int .i64 F3] 23)) (w.heap.size + 1) (B1, B2, B3) from K4_w12.out.below hb)
  have VB_w12a := Lib.hid (show BR (w12.alloc (.cells #[.int .i64 F1, .int .i64 F2, .int .i64 F3] 23)) vb bl from VB_w12.out.below hb)
  have VC_w12a := Lib.hid (show BR (w12.alloc (.cells #[.int .i64 F1, .int .i64 F2, .int .i64 F3] 23)) vc bl from VC_w12.out.below hb)
  have K19_w12a := Lib.hid (show KAt (w12.alloc (.cells #[.int .i64 F1, .int .i64 F2, .int .i64 F3] 23)) (w7.heap.size) (N1, N2, N3) from K19_w12.out.below hb)
  have K21_w12a := Lib.hid (show KAt (w12.alloc (.cells #[.int .i64 F1, .int .i64 F2, .int .i64 F3] 23)) (w8.heap.size) (N1, N2, N3) from K21_w12.out.below hb)
  have K23_w12a := Lib.hid (show KAt (w12.alloc (.cells #[.int .i64 F1, .int .i64 F2, .int .i64 F3] 23)) (w9.heap.size) (P1, P2, P3) from K23_w12.out.below hb)
  have K25_w12a := Lib.hid (show KAt (w12.alloc (.cells #[.int .i64 F1, .int .i64 F2, .int .i64 F3] 23)) (w10.heap.size) (P1, P2, P3) from K25_w12.out.below hb)
  have K27_w12a := Lib.hid (show KAt (w12.alloc (.cells #[.int .i64 F1, .int .i64 F2, .int .i64 F3] 23)) (w11.heap.size) (F1, F2, F3) from K27_w12.out.below hb)
  have K28_w12a := Lib.hid (show KAt (w12.alloc (.cells #[.int .i64 F1, .int .i64 F2, .int .i64 F3] 23)) (w11.heap.size + 1) (L1, L2, L3) from K28_w12.out.below hb)
  have HB_w12a := Lib.hid (HB_w12.out.trans (hb.mono HB_w12.out.size))
  clear K3_w12 K4_w12 VB_w12 VC_w12 K19_w12 K21_w12 K23_w12 K25_w12 K27_w12 K28_w12 HB_w12
  have K30_w12a := Lib.hid (show KAt (w12.alloc (.cells #[.int .i64 F1, .int .i64 F2, .int .i64 F3] 23)) (w12.heap.size) (F1, F2, F3) from World.alloc_heap_new w12 _)
  clear hb
  have hK2 := World.alloc_heap_new (w12.alloc (.cells #[.int .i64 F1, .int .i64 F2, .int .i64 F3] 23)) (.cells #[.int .i64 L1, .int .i64 L2, .int .i64 L3] 23)
  rw [World.size_alloc] at hK2
  have K31_h := Lib.hid hK2
  clear hK2
  have hb := (Below.refl (w12.alloc (.cells #[.int .i64 F1, .int .i64 F2, .int .i64 F3] 23)).heap.size (w12.alloc (.cells #[.int .i64 F1, .int .i64 F2, .int .i64 F3] 23))).alloc (Nat.le_refl _) (.cells #[.int .i64 L1, .int .i64 L2, .int .i64 L3] 23)
  have K3_w12b := Lib.hid (show KAt ((w12.alloc (.cells #[.int .i64 F1, .int .i64 F2, .int .i64 F3] 23)).alloc (.cells #[.int .i64 L1, .int .i64 L2, .int .i64 L3] 23)) (w.heap.size) (A1, A2, A3) from K3_w12a.out.below hb)
  have K4_w12b := Lib.hid (show KAt ((w12.alloc (.cells #[.int .i64 F1, .int .i64 F2, .int .i64 F3] 23)).alloc (.cells #[.int .i64 L1, .int .i64 L2, .int .i64 L3] 23)) (w.heap.size + 1) (B1, B2, B3) from K4_w12a.out.below hb)
  have VB_w12b := Lib.hid (show BR ((w12.alloc (.cells #[.int .i64 F1, .int .i64 F2, .int .i64 F3] 23)).alloc (.cells #[.int .i64 L1, .int .i64 L2, .int .i64 L3] 23)) vb bl from VB_w12a.out.below hb)
  have VC_w12b := Lib.hid (show BR ((w12.alloc (.cells #[.int .i64 F1, .int .i64 F2, .int .i64 F3] 23)).alloc (.cells #[.int .i64 L1, .int .i64 L2, .int .i64 L3] 23)) vc bl from VC_w12a.out.below hb)
  have K19_w12b := Lib.hid (show KAt ((w12.alloc (.cells #[.int .i64 F1, .int .i64 F2, .int .i64 F3] 23)).alloc (.cells #[.int .i64 L1, .int .i64 L2, .int .i64 L3] 23)) (w7.heap.size) (N1, N2, N3) from K19_w12a.out.below hb)
  have K21_w12b := Lib.hid (show KAt ((w12.alloc (.cells #[.int .i64 F1, .int .i64 F2, .int .i64 F3] 23)).alloc (.cells #[.int .i64 L1, .int .i64 L2, .int .i64 L3] 23)) (w8.heap.size) (N1, N2, N3) from K21_w12a.out.below hb)
  have K23_w12b := Lib.hid (show KAt ((w12.alloc (.cells #[.int .i64 F1, .int .i64 F2, .int .i64 F3] 23)).alloc (.cells #[.int .i64 L1, .int .i64 L2, .int .i64 L3] 23)) (w9.heap.size) (P1, P2, P3) from K23_w12a.out.below hb)
  have K25_w12b := Lib.hid (show KAt ((w12.alloc (.cells #[.int .i64 F1, .int .i64 F2, .int .i64 F3] 23)).alloc (.cells #[.int .i64 L1, .int .i64 L2, .int .i64 L3] 23)) (w10.heap.size) (P1, P2, P3) from K25_w12a.out.below hb)
  have K27_w12b := Lib.hid (show KAt ((w12.alloc (.cells #[.int .i64 F1, .int .i64 F2, .int .i64 F3] 23)).alloc (.cells #[.int .i64 L1, .int .i64 L2, .int .i64 L3] 23)) (w11.heap.size) (F1, F2, F3) from K27_w12a.out.below hb)
  have K28_w12b := Lib.hid (show KAt ((w12.alloc (.cells #[.int .i64 F1, .int .i64 F2, .int .i64 F3] 23)).alloc (.cells #[.int .i64 L1, .int .i64 L2, .int .i64 L3] 23)) (w11.heap.size + 1) (L1, L2, L3) from K28_w12a.out.below hb)
  have K30_w12b := Lib.hid (show KAt ((w12.alloc (.cells #[.int .i64 F1, .int .i64 F2, .int .i64 F3] 23)).alloc (.cells #[.int .i64 L1, .int .i64 L2, .int .i64 L3] 23)) (w12.heap.size) (F1, F2, F3) from K30_w12a.out.below hb)
  have HB_w12b := Lib.hid (HB_w12a.out.trans (hb.mono HB_w12a.out.size))
  clear K3_w12a K4_w12a VB_w12a VC_w12a K19_w12a K21_w12a K23_w12a K25_w12a K27_w12a K28_w12a K30_w12a HB_w12a
  clear hb
  have K31_w12b := Lib.hid (show KAt ((w12.alloc (.cells #[.int .i64 F1, .int .i64 F2, .int .i64 F3] 23)).alloc (.cells #[.int .i64 L1, .int .i64 L2, .int .i64 L3] 23)) (w12.heap.size + 1) (L1, L2, L3) from K31_h.out)
  clear K31_h
  go_wp2_with fail
  obtain ⟨E, hW⟩ : ∃ W, W = ((w12.alloc (.cells #[.int .i64 F1, .int .i64 F2, .int .i64 F3] 23)).alloc (.cells #[.int .i64 L1, .int .i64 L2, .int .i64 L3] 23)) := ⟨_, rfl⟩
  have K3_E := Lib.hid (show KAt E (w.heap.size) (A1, A2, A3) from by rw [hW]; exact K3_w12b.out)
  clear K3_w12b
  have K4_E := Lib.hid (show KAt E (w.heap.size + 1) (B1, B2, B3) from by rw [hW]; exact K4_w12b.out)
  clear K4_w12b
  have VB_E := Lib.hid (show BR E vb bl from by rw [hW]; exact VB_w12b.out)
  clear VB_w12b
  have VC_E := Lib.hid (show BR E vc bl from by rw [hW]; exact VC_w12b.out)
  clear VC_w12b
  have K19_E := Lib.hid (show KAt E (w7.heap.size) (N1, N2, N3) from by rw [hW]; exact K19_w12b.out)
  clear K19_w12b
  have K21_E := Lib.hid (show KAt E (w8.heap.size) (N1, N2, N3) from by rw [hW]; exact K21_w12b.out)
  clear K21_w12b
  have K23_E := Lib.hid (show KAt E (w9.heap.size) (P1, P2, P3) from by rw [hW]; exact K23_w12b.out)
  clear K23_w12b
  have K25_E := Lib.hid (show KAt E (w10.heap.size) (P1, P2, P3) from by rw [hW]; exact K25_w12b.out)
  clear K25_w12b
  have K27_E := Lib.hid (show KAt E (w11.heap.size) (F1, F2, F3) from by rw [hW]; exact K27_w12b.out)
  clear K27_w12b
  have K28_E := Lib.hid (show KAt E (w11.heap.size + 1) (L1, L2, L3) from by rw [hW]; exact K28_w12b.out)
  clear K28_w12b
  have K30_E := Lib.hid (show KAt E (w12.heap.size) (F1, F2, F3) from by rw [hW]; exact K30_w12b.out)
  clear K30_w12b
  have K31_E := Lib.hid (show KAt E (w12.heap.size + 1) (L1, L2, L3) from by rw [hW]; exact K31_w12b.out)
  clear K31_w12b
  have HB_E := Lib.hid (show Below w.heap.size w E from by rw [hW]; exact HB_w12b.out)
  clear HB_w12b
  rw [← hW]
  clear hW
  have a0 := fun n os => Go.cell_grown (n := n) (os := os) (w := E) (a := ⟨w.heap.size, 0, none⟩) K3_E.out.lt (K3_E.out.cells 0 (by omega)).1
  have a1 := fun n os => Go.cell_grown (n := n) (os := os) (w := E) (a := ⟨w.heap.size, 1, none⟩) K3_E.out.lt (K3_E.out.cells 1 (by omega)).1
  have a2 := fun n os => Go.cell_grown (n := n) (os := os) (w := E) (a := ⟨w.heap.size, 2, none⟩) K3_E.out.lt (K3_E.out.cells 2 (by omega)).1
  have c0 := fun n os => Go.cell_grown (n := n) (os := os) (w := E) (a := ⟨w7.heap.size, 0, none⟩) K19_E.out.lt (K19_E.out.cells 0 (by omega)).1
  have c1 := fun n os => Go.cell_grown (n := n) (os := os) (w := E) (a := ⟨w7.heap.size, 1, none⟩) K19_E.out.lt (K19_E.out.cells 1 (by omega)).1
  have c2 := fun n os => Go.cell_grown (n := n) (os := os) (w := E) (a := ⟨w7.heap.size, 2, none⟩) K19_E.out.lt (K19_E.out.cells 2 (by omega)).1
  have d0 := fun n os => Go.cell_grown (n := n) (os := os) (w := E) (a := ⟨w8.heap.size, 0, none⟩) K21_E.out.lt (K21_E.out.cells 0 (by omega)).1
  have d1 := fun n os => Go.cell_grown (n := n) (os := os) (w := E) (a := ⟨w8.heap.size, 1, none⟩) K21_E.out.lt (K21_E.out.cells 1 (by omega)).1
  have d2 := fun n os => Go.cell_grown (n := n) (os := os) (w := E) (a := ⟨w8.heap.size, 2, none⟩) K21_E.out.lt (K21_E.out.cells 2 (by omega)).1
  have f0 := fun n os => Go.cell_grown (n := n) (os := os) (w := E) (a := ⟨w9.heap.size, 0, none⟩) K23_E.out.lt (K23_E.out.cells 0 (by omega)).1
  have f1 := fun n os => Go.cell_grown (n := n) (os := os) (w := E) (a := ⟨w9.heap.size, 1, none⟩) K23_E.out.lt (K23_E.out.cells 1 (by omega)).1
  have f2 := fun n os => Go.cell_grown (n := n) (os := os) (w := E) (a := ⟨w9.heap.size, 2, none⟩) K23_E.out.lt (K23_E.out.cells 2 (by omega)).1
  have g0 := fun n os => Go.cell_grown (n := n) (os := os) (w := E) (a := ⟨w10.heap.size, 0, none⟩) K25_E.out.lt (K25_E.out.cells 0 (by omega)).1
  have g1 := fun n os => Go.cell_grown (n := n) (os := os) (w := E) (a := ⟨w10.heap.size, 1, none⟩) K25_E.out.lt (K25_E.out.cells 1 (by omega)).1
  have g2 := fun n os => Go.cell_grown (n := n) (os := os) (w := E) (a := ⟨w10.heap.size, 2, none⟩) K25_E.out.lt (K25_E.out.cells 2 (by omega)).1
  have h0 := fun n os => Go.cell_grown (n := n) (os := os) (w := E) (a := ⟨w11.heap.size, 0, none⟩) K27_E.out.lt (K27_E.out.cells 0 (by omega)).1
  have h1 := fun n os => Go.cell_grown (n := n) (os := os) (w := E) (a := ⟨w11.heap.size, 1, none⟩) K27_E.out.lt (K27_E.out.cells 1 (by omega)).1
  have h2 := fun n os => Go.cell_grown (n := n) (os := os) (w := E) (a := ⟨w11.heap.size, 2, none⟩) K27_E.out.lt (K27_E.out.cells 2 (by omega)).1
  have i0 := fun n os => Go.cell_grown (n := n) (os := os) (w := E) (a := ⟨w11.heap.size + 1, 0, none⟩) K28_E.out.lt (K28_E.out.cells 0 (by omega)).1
  have i1 := fun n os => Go.cell_grown (n := n) (os := os) (w := E) (a := ⟨w11.heap.size + 1, 1, none⟩) K28_E.out.lt (K28_E.out.cells 1 (by omega)).1
  have i2 := fun n os => Go.cell_grown (n := n) (os := os) (w := E) (a := ⟨w11.heap.size + 1, 2, none⟩) K28_E.out.lt (K28_E.out.cells 2 (by omega)).1
  have j0 := fun n os => Go.cell_grown (n := n) (os := os) (w := E) (a := ⟨w12.heap.size, 0, none⟩) K30_E.out.lt (K30_E.out.cells 0 (by omega)).1
  have j1 := fun n os => Go.cell_grown (n := n) (os := os) (w := E) (a := ⟨w12.heap.size, 1, none⟩) K30_E.out.lt (K30_E.out.cells 1 (by omega)).1
  have j2 := fun n os => Go.cell_grown (n := n) (os := os) (w := E) (a := ⟨w12.heap.size, 2, none⟩) K30_E.out.lt (K30_E.out.cells 2 (by omega)).1
  have k0 := fun n os => Go.cell_grown (n := n) (os := os) (w := E) (a := ⟨w12.heap.size + 1, 0, none⟩) K31_E.out.lt (K31_E.out.cells 0 (by omega)).1
  have k1 := fun n os => Go.cell_grown (n := n) (os := os) (w := E) (a := ⟨w12.heap.size + 1, 1, none⟩) K31_E.out.lt (K31_E.out.cells 1 (by omega)).1
  have k2 := fun n os => Go.cell_grown (n := n) (os := os) (w := E) (a := ⟨w12.heap.size + 1, 2, none⟩) K31_E.out.lt (K31_E.out.cells 2 (by omega)).1
  simp only [fldK] at a0 a1 a2 c0 c1 c2 d0 d1 d2 f0 f1 f2 g0 g1 g2 h0 h1 h2 i0 i1 i2 j0 j1 j2 k0 k1 k2
  have q1 := fun W => eqlK N1 N2 N3 N1 N2 N3 W
  have q2 := fun W => eqlK P1 P2 P3 P1 P2 P3 W
  have q3 := fun W => eqlK F1 F2 F3 F1 F2 F3 W
  have q4 := fun W => eqlK L1 L2 L3 L1 L2 L3 W
  have r1 := fun n os => br_text (VB_E.out.below (below_grow E n os))
  have r2 := fun n os => br_text (VC_E.out.below (below_grow E n os))
  have i0 := Lib.hid (fun n os => Drawn.calls_grow (H13.out (Go.Sort.grow (E.drewN n) os)))
  have i1 := Lib.hid (fun n os => Drawn.calls_grow (H14.out (Go.Sort.grow (E.drewN n) os)))
  dsimp only [List.append]
  go_quiet_grown (first | (with_reducible exact Calls.grown_of (i0.out _ _)) | (with_reducible exact Calls.grown_of (i1.out _ _)))
  go_wp2
  go_ret
  exact ⟨by simp, HB_E.out.trans ((below_grow E _ _).mono HB_E.out.size)⟩

set_option maxRecDepth 100000 in
theorem keyTells_calls (x y : Ky) (t : Int) (w : World) (ht : Tab w) :
    Calls Tryd.prog 3 #[.agg #[.int .i64 x.1, .int .i64 x.2.1, .int .i64 x.2.2], .agg #[.int .i64 y.1, .int .i64 y.2.1, .int .i64 y.2.2], .int .i64 t] w fun e w' => e = .returned (.bool true) ∧ Below w.heap.size w w' := by
  have HB0 := Lib.hid (((Below.refl w.heap.size w).alloc (Nat.le_refl _) (.cells #[.int .i64 x.1, .int .i64 x.2.1, .int .i64 x.2.2] 23)).alloc (by simp) (.cells #[.int .i64 y.1, .int .i64 y.2.1, .int .i64 y.2.2] 23))
  have HT := Lib.hid (fun W (h : Tab W) => tells_calls x y t W h)
  have HTb := Lib.hid (fun (W : World) (hb : Below w.heap.size w W) => ht.below hb)
  clear ht
  go_enter Tryd.func3, Tryd.ntmps3
  go_wp2_with fail
  refine (HT.out _ (HTb.out _ HB0.out)).mono ?_
  rintro e w1 ⟨rfl, hb⟩
  have HB1 := Lib.hid (HB0.out.trans (hb.mono HB0.out.size))
  clear hb
  go_wp2_with fail
  refine (awakeK_calls _).mono ?_
  rintro e w2 ⟨rfl, hb⟩
  have HB2 := Lib.hid (HB1.out.trans (hb.mono HB1.out.size))
  clear hb
  go_wp2
  go_ret
  exact ⟨rfl, HB2.out⟩
end Go.Proofs.YtapaccbffhcjdaaDoor
