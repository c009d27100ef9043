/-
  THE WALK of KeyRead: what is read of bytes, or of a text, has these bytes, or this text.
-/
import Derived.Test.YtapaccbffhcjdaaDoorKeyLawP
import Derived.Deep.Cut
import Derived.Deep.DeepCutAuto
namespace Go.Proofs.YtapaccbffhcjdaaDoor
open Go.RowKit Go.Shelf Go.Sort

theorem BR.cut {w : World} {a : Option Addr} {n c : Nat} {l : List UInt8} (h : BR w (.slice a n c) l) (k m : Nat) (hm : m = min n k) : BR w (.slice a m c) (l.take k) := by
  rcases h with ⟨rfl, a', c', e, hc⟩ | ⟨b, o, c', e, h1, h2, h3, h4⟩
  · cases e
    exact .inl ⟨by simp, a, c, by rw [hm, Nat.zero_min], hc⟩
  · cases e
    by_cases h0 : m = 0
    · rw [h0] at hm ⊢
      have e2 : l.take k = [] := List.eq_nil_of_length_eq_zero (by rw [List.length_take]; omega)
      rw [e2]
      exact .inl ⟨rfl, _, _, rfl, h3⟩
    · have e2 : (l.take k).length = m := by rw [List.length_take, hm, Nat.min_comm]
      refine .inr ⟨b, o, c, by rw [e2], h1, by omega, h3, fun j hj => ?_⟩
      rw [e2] at hj
      have := h4 j (by omega)
      rw [this]
      congr 3
      simp [List.getD_eq_getElem?_getD, show j < k by omega]
theorem ba_cut (l : List UInt8) (m : Nat) : (⟨l.toArray⟩ : ByteArray).extract 0 m = ⟨(l.take m).toArray⟩ := by
  apply ByteArray.ext
  simp [ByteArray.extract, ByteArray.copySlice]

set_option maxRecDepth 100000 in
set_option maxHeartbeats 4000000 in
theorem keyRead_calls (a : Option Addr) (n c : Nat) (bl s : List UInt8) (w : World) (hb0 : BR w (.slice a n c) bl) (ht : Tab w) :
    Calls Tryd.prog 7 #[.slice a n c, .string ⟨s.toArray⟩] w fun e w' => e = .returned (.bool true) ∧ Below w.heap.size w w' := by
  have mixed : Tryd.prog.follows .mixedOrders = true := by kernel_rfl
  have hsh : n = bl.length ∧ n ≤ c ∧ c ≤ maxLen := by
    obtain ⟨a', c', e, h1, h2⟩ := hb0.shape
    cases e
    exact ⟨rfl, h1, h2⟩
  obtain ⟨hn, hnc, hcm⟩ := hsh
  unfold maxLen at hcm
  have hsz : (⟨s.toArray⟩ : ByteArray).size = s.length := by simp [ByteArray.size]
  have HB_w := Lib.hid (Below.refl w.heap.size w)
  have V0_w := Lib.hid hb0
  have HTb := Lib.hid (fun (W : World) (hb : Below w.heap.size w W) => ht.below hb)
  have HN := Lib.hid hn; have HSz := Lib.hid hsz
  clear hb0 ht hn hsz
  go_enter Tryd.func7, Tryd.ntmps7
  go_wp2_with fail
  refine (awakeK_calls _).mono ?_
  rintro e w1 ⟨rfl, hb⟩
  have V0_w1 := Lib.hid (show BR w1 (.slice a n c) bl from V0_w.out.below hb)
  have HB_w1 := Lib.hid (HB_w.out.trans (hb.mono HB_w.out.size))
  clear V0_w HB_w
  clear hb
  go_upto_region 3 with fail
  go_cut [0, 1] (fun v0 v1 wx => v0 = .slice a (min n 40) c ∧ v1 = .string ⟨(s.take 60).toArray⟩ ∧ Below w1.heap.size w1 wx)
  case first =>
    have e1 : (min (n : Int) 40).toNat = min n 40 := by omega
    have e2 : (⟨s.toArray⟩ : ByteArray).extract 0 (min (s.length : Int) 60).toNat = ⟨(s.take 60).toArray⟩ := by
      rw [show (min (s.length : Int) 60).toNat = min 60 s.length by omega, ba_cut, ← List.take_eq_take_min]
    have E1 := Lib.hid e1; have E2 := Lib.hid e2
    clear e1 e2
    have hn0 : (0 : Int) ≤ (n : Int) := by omega
    have hs0 : (0 : Int) ≤ (s.length : Int) := by omega
    go_region
    all_goals (go_wp2_with fail; go_meet; exact ⟨by rw [E1.out], by rw [E2.out], (Below.refl _ _).drew⟩)
  case rest =>
    obtain ⟨rfl, rfl, hbd⟩ := hcut
    obtain ⟨w2, rfl⟩ : ∃ x : World, x = wc := ⟨_, rfl⟩
    obtain ⟨m, hm⟩ : ∃ m, m = min n 40 := ⟨_, rfl⟩
    obtain ⟨bm, hbm⟩ : ∃ l, bl.take 40 = l := ⟨_, rfl⟩
    obtain ⟨sm, hsm⟩ : ∃ l, s.take 60 = l := ⟨_, rfl⟩
    have hsl : sm.length ≤ 60 := by rw [← hsm, List.length_take]; omega
    have hv0 := (V0_w1.out.below hbd).cut 40 m hm
    rw [hbm] at hv0
    have V0_w2 := Lib.hid hv0
    have HB_w2 := Lib.hid (HB_w1.out.trans (hbd.mono HB_w1.out.size))
    rw [← hm, hsm]
    clear hbd hv0 hm hbm hsm V0_w1 HB_w1 HN HSz hnc hcm
    have HRd := Lib.hid (fun W (h : BR W (.slice a m c) bm) => readK_calls _ bm W h)
    have hcs : (bm.length = 12 ∧ RightK (keyB bm) ∧ rdV bm = keyB bm ∧ rdE bm = 0) ∨ (rdV bm = (0, 0, 0) ∧ rdE bm = 71) := by
      by_cases h : bm.length = 12 ∧ RightK (keyB bm)
      · exact .inl ⟨h.1, h.2, rd_yes h.1 h.2⟩
      · exact .inr (rd_no h)
    have HCs := Lib.hid hcs
    clear hcs
    obtain ⟨⟨R1, R2, R3⟩, hR⟩ : ∃ k, rdV bm = k := ⟨_, rfl⟩
    obtain ⟨ee, hee⟩ : ∃ k, rdE bm = k := ⟨_, rfl⟩
    rw [hR, hee] at HRd HCs
    clear hR hee
    have HPs := Lib.hid (fun W => parseK_calls sm W (by omega))
    go_wp2_with fail
    refine (HRd.out _ V0_w2.out).mono ?_
    rintro e w3 ⟨rfl, hb⟩
    have V0_w3 := Lib.hid (show BR w3 (.slice a m c) bm from V0_w2.out.below hb)
    have HB_w3 := Lib.hid (HB_w2.out.trans (hb.mono HB_w2.out.size))
    clear V0_w2 HB_w2
    clear hb
    have HSZ3 := Lib.hid HB_w3.out.size
    have hb := (Below.refl w3.heap.size w3).alloc (Nat.le_refl _) (.cells #[.int .i64 R1, .int .i64 R2, .int .i64 R3] 23)
    have V0_w3a := Lib.hid (show BR (w3.alloc (.cells #[.int .i64 R1, .int .i64 R2, .int .i64 R3] 23)) (.slice a m c) bm from V0_w3.out.below hb)
    have HB_w3a := Lib.hid (HB_w3.out.trans (hb.mono HB_w3.out.size))
    clear V0_w3 HB_w3
    have K5_w3a := Lib.hid (show KAt (w3.alloc (.cells #[.int .i64 R1, .int .i64 R2, .int .i64 R3] 23)) (w3.heap.size) (R1, R2, R3) from World.alloc_heap_new w3 _)
    clear hb
    go_upto_if 29 with fail
    go_cut [6] (fun _ wx => Below w.heap.size w wx ∧ ∃ k, KAt wx w3.heap.size k)
    case first =>
      rcases HCs.out with ⟨hl, hr, hv, he⟩ | ⟨hv, he⟩
      · subst he
        have HBy := Lib.hid (fun W => bytesK_yes (R1, R2, R3) W (by rw [hv]; exact hr))
        have hbk : bytesK (R1, R2, R3) = bm := by rw [hv]; exact bytes_keyB hl
        rw [hbk] at HBy
        have HRt := Lib.hid (fun W => rightK_calls (R1, R2, R3) W)
        rw [decide_eq_true (show RightK (R1, R2, R3) by rw [hv]; exact hr)] at HRt
        clear hl hr hv hbk
        have c0 := (K5_w3a.out.cells 0 (by omega)).1
        have c1 := (K5_w3a.out.cells 1 (by omega)).1
        have c2 := (K5_w3a.out.cells 2 (by omega)).1
        simp only [fldK] at c0 c1 c2
        go_wp2_with fail
        clear c0 c1 c2
        refine (HBy.out _).mono ?_
        rintro e w4 ⟨⟨vb, rfl, hvb⟩, hb⟩
        have V0_w4 := Lib.hid (show BR w4 (.slice a m c) bm from V0_w3a.out.below hb)
        have K5_w4 := Lib.hid (show KAt w4 (w3.heap.size) (R1, R2, R3) from K5_w3a.out.below hb)
        have HB_w4 := Lib.hid (HB_w3a.out.trans (hb.mono HB_w3a.out.size))
        clear V0_w3a K5_w3a HB_w3a
        have VB_w4 := Lib.hid (show BR w4 vb bm from hvb)
        clear hvb
        clear hb
        have HEq := Lib.hid (bytesEqualB_calls vb (.slice a m c) bm bm _ VB_w4.out V0_w4.out)
        rw [decide_eq_true rfl] at HEq
        go_wp2_with fail
        refine HEq.out.mono ?_
        rintro e w5 ⟨rfl, rfl⟩
        clear HEq
        have c0 := (K5_w4.out.cells 0 (by omega)).1
        have c1 := (K5_w4.out.cells 1 (by omega)).1
        have c2 := (K5_w4.out.cells 2 (by omega)).1
        simp only [fldK] at c0 c1 c2
        go_wp2_with fail
        clear c0 c1 c2
        refine (HRt.out _).mono ?_
        rintro e w6 ⟨rfl, hb⟩
        have V0_w6 := Lib.hid (show BR w6 (.slice a m c) bm from V0_w4.out.below hb)
        have K5_w6 := Lib.hid (show KAt w6 (w3.heap.size) (R1, R2, R3) from K5_w4.out.below hb)
        have VB_w6 := Lib.hid (show BR w6 vb bm from VB_w4.out.below hb)
        have HB_w6 := Lib.hid (HB_w4.out.trans (hb.mono HB_w4.out.size))
        clear V0_w4 K5_w4 VB_w4 HB_w4
        clear hb
        go_wp2_with fail
        go_meet
        exact ⟨HB_w6.out, _, K5_w6.out⟩
      · simp only [Prod.mk.injEq] at hv
        obtain ⟨rfl, rfl, rfl⟩ := hv
        subst he
        have c0 := (K5_w3a.out.cells 0 (by omega)).1
        have c1 := (K5_w3a.out.cells 1 (by omega)).1
        have c2 := (K5_w3a.out.cells 2 (by omega)).1
        simp only [fldK] at c0 c1 c2
        have q1 := fun W => neqK 0 0 0 0 0 0 W
        go_wp2_with fail
        go_meet
        exact ⟨HB_w3a.out, _, K5_w3a.out⟩
    case rest =>
      obtain ⟨hB7, k7, h57⟩ := hcut
      obtain ⟨w7, rfl⟩ : ∃ x : World, x = wc := ⟨_, rfl⟩
      have HK3 := Lib.hid (show w.heap.size ≤ w3.heap.size from HSZ3.out)
      clear HCs HRd
      obtain ⟨R1, R2, R3⟩ := k7
      have HB_w7 := Lib.hid hB7; have K5_w7 := Lib.hid h57
      clear hB7 h57 HB_w3a V0_w3a K5_w3a
      go_wp2_with fail
      refine (HPs.out _).mono ?_
      rintro e w8 ⟨hcase, hb⟩
      have K5_w8 := Lib.hid (show KAt w8 w3.heap.size (R1, R2, R3) from K5_w7.out.below hb)
      have HB_w8 := Lib.hid (HB_w7.out.trans (hb.mono HB_w7.out.size))
      clear K5_w7 HB_w7
      clear hb
      have hk := K5_w8.out
      have c0 := (hk.cells 0 (by omega)).1
      have c1 := (hk.cells 1 (by omega)).1
      have c2 := (hk.cells 2 (by omega)).1
      have f0 := (hk.cells 0 (by omega)).2
      have f1 := (hk.cells 1 (by omega)).2
      have f2 := (hk.cells 2 (by omega)).2
      simp only [fldK] at c0 c1 c2
      clear hk
      rcases hcase with ⟨hok, rfl⟩ | ⟨hno, rfl⟩
      · obtain ⟨⟨P1, P2, P3⟩, hP⟩ : ∃ k, keyT sm = k := ⟨_, rfl⟩
        have htk := textOk_key hok
        rw [hP] at htk
        obtain ⟨hr, htx⟩ := htk
        have HTx := Lib.hid (fun W (h : Tab W) => textK_yes (P1, P2, P3) W hr (.inl h))
        rw [htx] at HTx
        have HRt := Lib.hid (fun W => rightK_calls (P1, P2, P3) W)
        rw [decide_eq_true hr] at HRt
        have HK9 := Lib.hid (kat_set K5_w8.out P1 P2 P3)
        have HB9 := Lib.hid (set3_below HB_w8.out HK3.out (.int .i64 P1) (.int .i64 P2) (.int .i64 P3))
        rw [hP]
        clear hok hP hr htx
        go_wp2_with fail
        clear c0 c1 c2 f0 f1 f2
        refine (HTx.out _ (HTb.out _ HB9.out)).mono ?_
        rintro e w10 ⟨rfl, hb⟩
        have HB10 := Lib.hid (HB9.out.trans (hb.mono HB9.out.size))
        have hk := HK9.out.below hb
        clear hb
        have c0 := (hk.cells 0 (by omega)).1
        have c1 := (hk.cells 1 (by omega)).1
        have c2 := (hk.cells 2 (by omega)).1
        simp only [fldK] at c0 c1 c2
        clear hk
        go_wp2_with fail
        clear c0 c1 c2
        refine (HRt.out _).mono ?_
        rintro e w11 ⟨rfl, hb⟩
        have HB11 := Lib.hid (HB10.out.trans (hb.mono HB10.out.size))
        clear hb
        go_wp2
        go_ret
        exact ⟨rfl, HB11.out⟩
      · have HK9 := Lib.hid (kat_set K5_w8.out 0 0 0)
        have HB9 := Lib.hid (set3_below HB_w8.out HK3.out (.int .i64 0) (.int .i64 0) (.int .i64 0))
        clear hno
        go_wp2_with fail
        go_ret
        exact ⟨rfl, HB9.out⟩
end Go.Proofs.YtapaccbffhcjdaaDoor
