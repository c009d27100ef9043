/-
  THE WALK of KeyReads: what is read of bytes, and of a text, beside the reference.
-/
import Derived.Test.YtapaccbffhcjdaaDoorKeyRefP
import Derived.Test.YtapaccbffhcjdaaDoorKeyRefR
namespace Go.Proofs.YtapaccbffhcjdaaDoor
open Go.RowKit Go.Shelf Go.Sort

set_option maxRecDepth 100000 in
set_option maxHeartbeats 1000000 in
/-- slices.Clone of any bytes. -/
theorem cloneB_calls (v : Value) (l : List UInt8) (w : World) (h : BR w v l) (hn : l.length ≤ 1000000) :
    Calls Tryd.prog 37 #[v] w fun e w' => (∃ v', e = .returned v' ∧ OwnB w' w.heap.size v' l) ∧ Below w.heap.size w w' := by
  have q : ∀ (W : World) (a : Option Addr) (n c n' c' : Nat), (binOp .eql 26 (.slice a n c) (.slice none n' c')).run Tryd.prog W = .ok (.bool a.isNone) W := fun W a n c n' c' => Lib.run_eql_slice_nil W _ _ a n c n' c' Tryd.underlying26
  have HR := Lib.hid h
  obtain ⟨a, c, rfl, -, -⟩ := h.shape
  cases a with
  | none =>
    have hl : l = [] := by
      rcases HR.out with ⟨h, _⟩ | ⟨b, o, c, e, _⟩
      · exact h
      · cases e
    subst hl
    clear h
    go_enter Tryd.func37, Tryd.ntmps37
    go_wp2
    go_ret
    exact ⟨⟨_, rfl, OwnB.nil _ _⟩, Below.refl _ _⟩
  | some a =>
    have HL := Lib.hid (show OwnB (w.alloc (.cells #[] 5)) w.heap.size (.slice (some ⟨w.heap.size, 0, none⟩) 0 0) [] from World.ownsRow_lit (base := w.heap.size) (e := 5) (size := 1) w #[] 0 (Nat.le_refl _) (Nat.zero_le _) rfl)
    have HA := Lib.hid ((Below.refl w.heap.size w).alloc (Nat.le_refl _) (.cells #[] 5))
    clear h
    go_enter Tryd.func37, Tryd.ntmps37
    go_wp2_with (at_builtin; go_must (refine wpList_appendB rfl (.tmp 5) (.tmp 6) (by rfl) w.heap.size _ [] (by first | rfl | simp [Act.eval]) HL.out _ l (by first | rfl | simp [Act.eval]) (HR.out.below (Below.refl _ _ |>.alloc (Nat.le_refl _) _)) (by simp; omega) HA.out.size ?_; intro v5 w5 hr5 hg5; have HR5 := Lib.hid hr5; have HB5 := Lib.hid (HA.out.grown hg5 HA.out.size (fun j hj => (World.ownsRow.lt HL.out j hj).1)); clear hr5 hg5))
    go_ret
    refine ⟨⟨_, rfl, ?_⟩, HB5.out⟩
    have := HR5.out
    rwa [List.nil_append] at this
/-- key.Parse, as one function says it. -/
theorem parseK_any (s : List UInt8) (w : World) (hl : s.length ≤ 1000000) :
    Calls Tryd.prog 20 #[.string ⟨s.toArray⟩] w fun e W' => e = .returned (.tuple #[.agg #[.int .i64 (pV s).1, .int .i64 (pV s).2.1, .int .i64 (pV s).2.2], .int .i64 (pE s)]) ∧ Below w.heap.size w W' :=
  (parseK_calls s w hl).mono fun e W' ⟨h, hb⟩ => by
    refine ⟨?_, hb⟩
    unfold pV pE
    rcases h with ⟨h1, h2⟩ | ⟨h1, h2⟩
    · rw [if_pos h1, if_pos h1]; exact h2
    · rw [if_neg h1, if_neg h1]; exact h2

set_option maxRecDepth 100000 in
set_option maxHeartbeats 4000000 in
theorem reads_calls (v0 : Value) (l s : List UInt8) (w : World) (hv : BR w v0 l) (hn : l.length ≤ 1000000) (hs : s.length ≤ 1000000) :
    Calls Tryd.prog 14 #[v0, .string ⟨s.toArray⟩] w fun e w' => e = .returned (.bool true) ∧ Below w.heap.size w w' := by
  have HB_w := Lib.hid (Below.refl w.heap.size w)
  have V0_w := Lib.hid hv
  have H1 := Lib.hid (fun W v (h : BR W v l) => cloneB_calls v l W h hn)
  have H2 := Lib.hid (fun W v (h : BR W v l) => readK_calls v l W h)
  have H3 := Lib.hid (fun W v (h : BR W v l) => rReadK_calls v l W h)
  have H4 := Lib.hid (fun W => parseK_any s W hs)
  have H5 := Lib.hid (fun W => rParseK_calls s W hs)
  generalize rdV l = rv at *
  generalize rdE l = re at *
  generalize pV s = pv at *
  generalize pE s = pe at *
  obtain ⟨R1, R2, R3⟩ := rv
  obtain ⟨P1, P2, P3⟩ := pv
  simp only at H2 H3 H4 H5
  obtain ⟨a0, c0, rfl, -, -⟩ := hv.shape
  clear hv hn hs
  go_enter Tryd.func14, Tryd.ntmps14
  go_wp2_with fail
  refine (H1.out _ _ V0_w.out).mono ?_
  rintro e w1 ⟨⟨v1, rfl, hv1⟩, hb⟩
  have V0_w1 := Lib.hid (show BR w1 (.slice a0 l.length c0) l from V0_w.out.below hb)
  have HB_w1 := Lib.hid (HB_w.out.trans (hb.mono HB_w.out.size))
  clear V0_w HB_w
  have V1_w1 := Lib.hid (show BR w1 v1 l from hv1.row)
  clear hv1
  clear hb
  go_wp2_with fail
  refine (H2.out _ _ V1_w1.out).mono ?_
  rintro e w2 ⟨rfl, hb⟩
  have V0_w2 := Lib.hid (show BR w2 (.slice a0 l.length c0) l from V0_w1.out.below hb)
  have V1_w2 := Lib.hid (show BR w2 v1 l from V1_w1.out.below hb)
  have HB_w2 := Lib.hid (HB_w1.out.trans (hb.mono HB_w1.out.size))
  clear V0_w1 V1_w1 HB_w1
  clear hb
  have hb := (Below.refl w2.heap.size w2).alloc (Nat.le_refl _) (.cells #[.int .i64 R1, .int .i64 R2, .int .i64 R3] 23)
  have V0_w2a := Lib.hid (show BR (w2.alloc (.cells #[.int .i64 R1, .int .i64 R2, .int .i64 R3] 23)) (.slice a0 l.length c0) l from V0_w2.out.below hb)
  have V1_w2a := Lib.hid (show BR (w2.alloc (.cells #[.int .i64 R1, .int .i64 R2, .int .i64 R3] 23)) v1 l from V1_w2.out.below hb)
  have HB_w2a := Lib.hid (HB_w2.out.trans (hb.mono HB_w2.out.size))
  clear V0_w2 V1_w2 HB_w2
  have K6_w2a := Lib.hid (show KAt (w2.alloc (.cells #[.int .i64 R1, .int .i64 R2, .int .i64 R3] 23)) (w2.heap.size) (R1, R2, R3) from World.alloc_heap_new w2 _)
  clear hb
  go_wp2_with fail
  refine (H3.out _ _ V0_w2a.out).mono ?_
  rintro e w3 ⟨rfl, hb⟩
  have V0_w3 := Lib.hid (show BR w3 (.slice a0 l.length c0) l from V0_w2a.out.below hb)
  have V1_w3 := Lib.hid (show BR w3 v1 l from V1_w2a.out.below hb)
  have K6_w3 := Lib.hid (show KAt w3 (w2.heap.size) (R1, R2, R3) from K6_w2a.out.below hb)
  have HB_w3 := Lib.hid (HB_w2a.out.trans (hb.mono HB_w2a.out.size))
  clear V0_w2a V1_w2a K6_w2a HB_w2a
  clear hb
  have hb := (Below.refl w3.heap.size w3).alloc (Nat.le_refl _) (.cells #[.int .i64 R1, .int .i64 R2, .int .i64 R3] 23)
  have V0_w3a := Lib.hid (show BR (w3.alloc (.cells #[.int .i64 R1, .int .i64 R2, .int .i64 R3] 23)) (.slice a0 l.length c0) l from V0_w3.out.below hb)
  have V1_w3a := Lib.hid (show BR (w3.alloc (.cells #[.int .i64 R1, .int .i64 R2, .int .i64 R3] 23)) v1 l from V1_w3.out.below hb)
  have K6_w3a := Lib.hid (show KAt (w3.alloc (.cells #[.int .i64 R1, .int .i64 R2, .int .i64 R3] 23)) (w2.heap.size) (R1, R2, R3) from K6_w3.out.below hb)
  have HB_w3a := Lib.hid (HB_w3.out.trans (hb.mono HB_w3.out.size))
  clear V0_w3 V1_w3 K6_w3 HB_w3
  have K8_w3a := Lib.hid (show KAt (w3.alloc (.cells #[.int .i64 R1, .int .i64 R2, .int .i64 R3] 23)) (w3.heap.size) (R1, R2, R3) from World.alloc_heap_new w3 _)
  clear hb
  go_wp2_with fail
  refine (H4.out _).mono ?_
  rintro e w4 ⟨rfl, hb⟩
  have V0_w4 := Lib.hid (show BR w4 (.slice a0 l.length c0) l from V0_w3a.out.below hb)
  have V1_w4 := Lib.hid (show BR w4 v1 l from V1_w3a.out.below hb)
  have K6_w4 := Lib.hid (show KAt w4 (w2.heap.size) (R1, R2, R3) from K6_w3a.out.below hb)
  have K8_w4 := Lib.hid (show KAt w4 (w3.heap.size) (R1, R2, R3) from K8_w3a.out.below hb)
  have HB_w4 := Lib.hid (HB_w3a.out.trans (hb.mono HB_w3a.out.size))
  clear V0_w3a V1_w3a K6_w3a K8_w3a HB_w3a
  clear hb
  have hb := (Below.refl w4.heap.size w4).alloc (Nat.le_refl _) (.cells #[.int .i64 P1, .int .i64 P2, .int .i64 P3] 23)
  have V0_w4a := Lib.hid (show BR (w4.alloc (.cells #[.int .i64 P1, .int .i64 P2, .int .i64 P3] 23)) (.slice a0 l.length c0) l from V0_w4.out.below hb)
  have V1_w4a := Lib.hid (show BR (w4.alloc (.cells #[.int .i64 P1, .int .i64 P2, .int .i64 P3] 23)) v1 l from V1_w4.out.below hb)
  have K6_w4a := Lib.hid (show KAt (w4.alloc (.cells #[.int .i64 P1, .int .i64 P2, .int .i64 P3] 23)) (w2.heap.size) (R1, R2, R3) from K6_w4.out.below hb)
  have K8_w4a := Lib.hid (show KAt (w4.alloc (.cells #[.int .i64 P1, .int .i64 P2, .int .i64 P3] 23)) (w3.heap.size) (R1, R2, R3) from K8_w4.out.below hb)
  have HB_w4a := Lib.hid (HB_w4.out.trans (hb.mono HB_w4.out.size))
  clear V0_w4 V1_w4 K6_w4 K8_w4 HB_w4
  have K10_w4a := Lib.hid (show KAt (w4.alloc (.cells #[.int .i64 P1, .int .i64 P2, .int .i64 P3] 23)) (w4.heap.size) (P1, P2, P3) from World.alloc_heap_new w4 _)
  clear hb
  go_wp2_with fail
  refine (H5.out _).mono ?_
  rintro e w5 ⟨rfl, hb⟩
  have V0_w5 := Lib.hid (show BR w5 (.slice a0 l.length c0) l from V0_w4a.out.below hb)
  have V1_w5 := Lib.hid (show BR w5 v1 l from V1_w4a.out.below hb)
  have K6_w5 := Lib.hid (show KAt w5 (w2.heap.size) (R1, R2, R3) from K6_w4a.out.below hb)
  have K8_w5 := Lib.hid (show KAt w5 (w3.heap.size) (R1, R2, R3) from K8_w4a.out.below hb)
  have K10_w5 := Lib.hid (show KAt w5 (w4.heap.size) (P1, P2, P3) from K10_w4a.out.below hb)
  have HB_w5 := Lib.hid (HB_w4a.out.trans (hb.mono HB_w4a.out.size))
  clear V0_w4a V1_w4a K6_w4a K8_w4a K10_w4a HB_w4a
  clear hb
  have hb := (Below.refl w5.heap.size w5).alloc (Nat.le_refl _) (.cells #[.int .i64 P1, .int .i64 P2, .int .i64 P3] 23)
  have V0_w5a := Lib.hid (show BR (w5.alloc (.cells #[.int .i64 P1, .int .i64 P2, .int .i64 P3] 23)) (.slice a0 l.length c0) l from V0_w5.out.below hb)
  have V1_w5a := Lib.hid (show BR (w5.alloc (.cells #[.int .i64 P1, .int .i64 P2, .int .i64 P3] 23)) v1 l from V1_w5.out.below hb)
  have K6_w5a := Lib.hid (show KAt (w5.alloc (.cells #[.int .i64 P1, .int .i64 P2, .int .i64 P3] 23)) (w2.heap.size) (R1, R2, R3) from K6_w5.out.below hb)
  have K8_w5a := Lib.hid (show KAt (w5.alloc (.cells #[.int .i64 P1, .int .i64 P2, .int .i64 P3] 23)) (w3.heap.size) (R1, R2, R3) from K8_w5.out.below hb)
  have K10_w5a := Lib.hid (show KAt (w5.alloc (.cells #[.int .i64 P1, .int .i64 P2, .int .i64 P3] 23)) (w4.heap.size) (P1, P2, P3) from K10_w5.out.below hb)
  have HB_w5a := Lib.hid (HB_w5.out.trans (hb.mono HB_w5.out.size))
  clear V0_w5 V1_w5 K6_w5 K8_w5 K10_w5 HB_w5
  have K12_w5a := Lib.hid (show KAt (w5.alloc (.cells #[.int .i64 P1, .int .i64 P2, .int .i64 P3] 23)) (w5.heap.size) (P1, P2, P3) from World.alloc_heap_new w5 _)
  clear hb
  have a0 := (K6_w5a.out.cells 0 (by omega)).1
  have a1 := (K6_w5a.out.cells 1 (by omega)).1
  have a2 := (K6_w5a.out.cells 2 (by omega)).1
  have b0 := (K8_w5a.out.cells 0 (by omega)).1
  have b1 := (K8_w5a.out.cells 1 (by omega)).1
  have b2 := (K8_w5a.out.cells 2 (by omega)).1
  have c0 := (K10_w5a.out.cells 0 (by omega)).1
  have c1 := (K10_w5a.out.cells 1 (by omega)).1
  have c2 := (K10_w5a.out.cells 2 (by omega)).1
  have d0 := (K12_w5a.out.cells 0 (by omega)).1
  have d1 := (K12_w5a.out.cells 1 (by omega)).1
  have d2 := (K12_w5a.out.cells 2 (by omega)).1
  simp only [fldK] at a0 a1 a2 b0 b1 b2 c0 c1 c2 d0 d1 d2
  have q1 := fun W => eqlK R1 R2 R3 R1 R2 R3 W
  have q2 := fun W => eqlK P1 P2 P3 P1 P2 P3 W
  have r1 := br_text V0_w5a.out
  have r2 := br_text V1_w5a.out
  go_wp2
  go_ret
  exact ⟨by simp, HB_w5a.out⟩

set_option maxRecDepth 100000 in
theorem keyReads_calls (v0 : Value) (l s : List UInt8) (w : World) (hv : BR w v0 l) :
    Calls Tryd.prog 4 #[v0, .string ⟨s.toArray⟩] w fun e w' => e = .returned (.bool true) ∧ Below w.heap.size w w' := by
  have hsz : (⟨s.toArray⟩ : ByteArray).size = s.length := by simp [ByteArray.size]
  have HR := Lib.hid (fun (h1 : l.length ≤ 40) (h2 : s.length ≤ 60) => reads_calls v0 l s w hv (by omega) (by omega))
  have HB0 := Lib.hid (Below.refl w.heap.size w)
  obtain ⟨a0, c0, rfl, -, -⟩ := hv.shape
  clear hv
  by_cases h1 : l.length ≤ 40
  · by_cases h2 : s.length ≤ 60
    · have g1 : ¬ (40 : Int) < (l.length : Int) := by omega
      have g2 : ¬ (60 : Int) < (s.length : Int) := by omega
      have HR2 := Lib.hid (HR.out h1 h2)
      clear HR h1 h2
      go_enter Tryd.func4, Tryd.ntmps4
      go_wp2_with fail
      refine HR2.out.mono ?_
      rintro e w1 ⟨rfl, hb⟩
      have HB1 := Lib.hid (HB0.out.trans (hb.mono HB0.out.size))
      clear hb
      go_wp2_with fail
      refine (awakeK_calls _).mono ?_
      rintro e w2 ⟨rfl, hb⟩
      have HB2 := Lib.hid (HB1.out.trans (hb.mono HB1.out.size))
      clear hb
      go_wp2
      go_ret
      exact ⟨rfl, HB2.out⟩
    · have g1 : ¬ (40 : Int) < (l.length : Int) := by omega
      have g2 : (60 : Int) < (s.length : Int) := by omega
      clear HR
      go_enter Tryd.func4, Tryd.ntmps4
      go_wp2_with fail
      refine (awakeK_calls _).mono ?_
      rintro e w2 ⟨rfl, hb⟩
      have HB2 := Lib.hid (HB0.out.trans (hb.mono HB0.out.size))
      clear hb
      go_wp2
      go_ret
      exact ⟨rfl, HB2.out⟩
  · have g1 : (40 : Int) < (l.length : Int) := by omega
    clear HR
    go_enter Tryd.func4, Tryd.ntmps4
    go_wp2_with fail
    refine (awakeK_calls _).mono ?_
    rintro e w2 ⟨rfl, hb⟩
    have HB2 := Lib.hid (HB0.out.trans (hb.mono HB0.out.size))
    clear hb
    go_wp2
    go_ret
    exact ⟨rfl, HB2.out⟩
end Go.Proofs.YtapaccbffhcjdaaDoor
