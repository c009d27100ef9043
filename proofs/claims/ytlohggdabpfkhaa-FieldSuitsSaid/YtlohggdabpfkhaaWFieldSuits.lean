/-
  THE WALK of fermatalaw02.FieldSuits: it returns true, and writes nothing that was there.
-/
import Derived.Test.YtlohggdabpfkhaaWantsOwn
import Derived.Deep.CutBlock
import Derived.WalkMore
import Derived.Deep.DeepCutAuto
import Derived.Deep.DeepMust
import Derived.Deep.RegionHeld3
import Derived.Deep.RegionLaw
namespace Go.Proofs.Ytlohggdabpfkhaa
open Go.RowKit Pl

set_option maxRecDepth 100000 in
set_option maxHeartbeats 4000000 in
theorem fieldSuits_walk (vp vt : Value) (p : List Nat) (T : List (List Nat)) (which by_ : Nat) (w : World) (hp : BRow w vp p) (ht : TRow w vt T) (hwhich : which < 256) (hby : by_ < 256) :
    Calls Try.prog 5 #[vp, vt, .int .u8 which, .int .u8 by_] w fun e w' => e = .returned (.bool true) ∧ Below w.heap.size w w' := by
  obtain ⟨mu, hmu⟩ : ∃ mu : Bool, ((by_ : Int) % 2 == 0) = mu := ⟨_, rfl⟩
  obtain ⟨c, hc10, hcc⟩ : ∃ c : Nat, c < 10 ∧ (by_ : Int) % 10 = (c : Int) := ⟨by_ % 10, Nat.mod_lt _ (by omega), by omega⟩
  obtain ⟨d, hd7, hdd⟩ : ∃ d : Nat, d < 7 ∧ (by_ : Int) % 7 = (d : Int) := ⟨by_ % 7, Nat.mod_lt _ (by omega), by omega⟩
  have HP := Lib.hid hp
  have HT := Lib.hid ht
  have HTa := Lib.hid ht.allB
  clear hp ht
  go_enter Try.func5, Try.ntmps5
  go_wp2_with fail
  refine (awake2_calls w).mono ?_
  rintro e w1 ⟨rfl, hb1⟩
  have HB1 := Lib.hid hb1
  clear hb1
  go_wp2_with fail
  refine (made_calls vp vt p T w1 (HP.out.below HB1.out) (HT.out.below HB1.out)).mono ?_
  rintro e wm ⟨vl, rfl, hm, hb2⟩
  have HB2 := Lib.hid (HB1.out.trans (hb2.mono HB1.out.size))
  have HL := Lib.hid (made_row HTa.out hm)
  obtain ⟨g1, g2, g3⟩ := made_under p T
  have hrm := madeF_right p T
  have HMl := Lib.hid (made_allB (gaps := p) HTa.out)
  clear hb2 hm HB1 HP HT HTa
  generalize madeF p T = m at *
  have hsb := sumB_mem m
  have HSm := Lib.hid (show SmallF m from ⟨hrm, g1, fun q hq => by have := hsb q hq; omega⟩)
  have HT64 := Lib.hid (right_tag64 hrm)
  have HTg := Lib.hid (right_tags hrm)
  have HLt := Lib.hid (lastT_le m g3 (fun q hq => (right_tags hrm q hq).1))
  have HG3 := Lib.hid g3
  have hmlen : (m.length : Int) ≤ 20 := by omega
  obtain ⟨al, cl, rfl⟩ := HL.out.shape
  clear g2 g3 hrm hsb
  go_wp2_with fail
  go_loopw [10, 11, 40] (fun v a i wr => ∃ k : Nat, k ≤ m.length ∧ i = .int .i64 k ∧ a = .int .i64 (lastT 0 (m.take k)) ∧ OW wr wm.heap.size v (wantsF mu c d 0 (m.take k)) ∧ Below wm.heap.size wm wr) (fun _ _ i _ => m.length - (intOf i).toNat)
  case atStart => exact ⟨0, Nat.zero_le _, rfl, rfl, ow_nil _ _, Below.refl _ _⟩
  case round =>
    obtain ⟨k, hk, rfl, rfl, how, hbel⟩ := hrel
    have HOw := Lib.hid how
    have HBl := Lib.hid hbel
    by_cases hlt : k < m.length
    · obtain ⟨_, ⟨_, _, _, hn, _⟩ | ⟨bb, off, cap, A, C, e, hc, hmx, hcell⟩⟩ := HL.out
      · rw [hn] at hlt; exact absurd hlt (Nat.not_lt_zero _)
      simp only [Value.slice.injEq, true_and] at e
      obtain ⟨rfl, rfl⟩ := e
      obtain ⟨d1, d2, d3⟩ := hcell k hlt
      have d1' := (hbel.cell (p := ⟨bb, off + k * 2, none⟩) (block_lt_of_cell d1)).trans d1
      have d2' := (hbel.cell (p := ⟨bb, off + k * 2 + 1, none⟩) (block_lt_of_cell d2)).trans d2
      have hkl : decide ((k : Int) < (m.length : Int)) = true := decide_eq_true (by omega)
      have hle := HSm.out.2.2 _ (ft_mem hlt)
      have hta := HG3.out _ (ft_mem hlt)
      have htb := (HTg.out _ (ft_mem hlt)).1
      have HSn := Lib.hid (show wantsF mu c d 0 (m.take (k + 1)) = wantsF mu c d 0 (m.take k) ++ stepW mu c d (lastT 0 (m.take k)) (ft m k, fb m k) by rw [fld_take m k hlt, wantsF_snoc])
      have HLs := Lib.hid (show lastT 0 (m.take (k + 1)) = ft m k by
        rw [lastT_get _ _ (by rw [List.length_take]; omega), List.length_take, show min (k + 1) m.length - 1 = k by omega]
        simp [ft, List.getD_eq_getElem?_getD])
      have hlst : 0 ≤ lastT 0 (m.take k) ∧ lastT 0 (m.take k) ≤ 180 := lastT_le _ (fun q hq => HG3.out q (List.mem_of_mem_take hq)) (fun q hq => (HTg.out q (List.mem_of_mem_take hq)).1)
      have hwl : (wantsF mu c d 0 (m.take k)).length ≤ 60 := by have := wantsF_length mu c d (m.take k) 0; rw [List.length_take] at this; omega
      dsimp only at hle hta htb
      generalize lastT 0 (m.take k) = a at *
      generalize ft m k = t at *
      generalize fb m k = bs at *
      generalize wantsF mu c d 0 (m.take k) = W at *
      generalize A k = A1 at *
      generalize C k = C1 at *
      obtain ⟨cm, hcm, hcm2, hmin⟩ : ∃ cm : Nat, cm = min c bs.length ∧ cm ≤ bs.length ∧ (if bs.length < c then (bs.length : Int) else (c : Int)) = (cm : Int) := by
        by_cases h : bs.length < c
        · exact ⟨bs.length, by omega, Nat.le_refl _, by rw [if_pos h]⟩
        · exact ⟨c, by omega, by omega, by rw [if_neg h]⟩
      have HCm := Lib.hid hcm
      clear hcell d1 d2 d3 hbel how hmx hcm hc
      have HF := Lib.hid ((Below.refl wr.heap.size wr).alloc (Nat.le_refl _) (.cells #[.int .i64 t, .slice A1 bs.length C1] 25))
      obtain ⟨G, hG, hGl⟩ : ∃ G : List Wnt, (if a + 1 < t then [⟨a + 1, false, 0, 5⟩] else []) = G ∧ G.length ≤ 1 := ⟨_, rfl, by split <;> simp⟩
      have HGe := Lib.hid hG
      have HF0 := Lib.hid (World.alloc_heap_new wr (.cells #[.int .i64 t, .slice A1 bs.length C1] 25))
      clear hG
      go_upto_if 48 with fail
      generalize hW0 : wr.alloc (.cells #[.int .i64 t, .slice A1 bs.length C1] 25) = W0 at *
      have HW0 := Lib.hid (show W0.heap.size = wr.heap.size + 1 by rw [← hW0]; simp)
      clear hW0
      have HO0 := Lib.hid (HOw.out.below HF.out)
      have HB0 := Lib.hid (HBl.out.trans (HF.out.mono HBl.out.size))
      go_cut [10] (fun v wx => OW wx wm.heap.size v (W ++ G) ∧ wx.heap[wr.heap.size]? = some (.cells #[.int .i64 t, .slice A1 bs.length C1] 25 (0, 0)) ∧ Below wm.heap.size wm wx)
      case first =>
        by_cases hgap : a + 1 < t
        · have e1 : decide (a + 1 < t) = true := decide_eq_true hgap
          have HG1 := Lib.hid (show [(⟨a + 1, false, 0, 5⟩ : Wnt)] = G by rw [← HGe.out, if_pos hgap])
          have HA1 := Lib.hid ((Below.refl W0.heap.size W0).alloc (Nat.le_refl _) (.cells #[.int .i64 (a + 1), .bool false, .int .i64 0, .int .i64 5] 32))
          have HN1 := Lib.hid (World.alloc_heap_new W0 (.cells #[.int .i64 (a + 1), .bool false, .int .i64 0, .int .i64 5] 32))
          go_wp2_with (at_builtin; go_must (refine wpList_appendW rfl (.tmp 49) (.tmp 53) rfl wm.heap.size _ W rfl (HO0.out.below HA1.out) W0.heap.size ⟨a + 1, false, 0, 5⟩ rfl HN1.out (by omega) (by have := HB0.out.size; have := HA1.out.size; omega) ?_; intro v5 w5 ho5 hg5; have HO5 := Lib.hid ho5; have HB5 := Lib.hid ((HB0.out.trans (HA1.out.mono HB0.out.size)).grown hg5 (by have := HB0.out.size; have := HA1.out.size; omega) (fun j hj => (HO0.out.lt j hj).1)); have HF5 := Lib.hid ((hg5.block wr.heap.size (by have := HW0.out; have := HA1.out.size; omega) (fun e => by have := (HOw.out.lt _ e.symm).2; omega)).trans ((HA1.out.block wr.heap.size (by have := HW0.out; omega)).trans HF0.out)); clear ho5 hg5))
          go_meet
          exact ⟨by rw [← HG1.out]; exact HO5.out, HF5.out, HB5.out⟩
        · have e1 : decide (a + 1 < t) = false := decide_eq_false hgap
          have HG1 := Lib.hid (show [] = G by rw [← HGe.out, if_neg hgap])
          go_wp2_with fail
          go_meet
          exact ⟨by rw [← HG1.out, List.append_nil]; exact HO0.out, HF0.out, HB0.out⟩
      case rest =>
        obtain ⟨ho, hf, hb⟩ := hcut
        have HO := Lib.hid ho
        have HFc := Lib.hid hf
        have HBc := Lib.hid hb
        have f0 : wc.cell? ⟨wr.heap.size, 0, none⟩ = some (.int .i64 t) := by simp [World.cell?, hf]
        have f1 : wc.cell? ⟨wr.heap.size, 1, none⟩ = some (.slice A1 bs.length C1) := by simp [World.cell?, hf]
        have hsz : wr.heap.size < wc.heap.size := (Array.getElem?_eq_some_iff.1 hf).1
        clear ho hf hb HO0 HB0 HF0 HF
        have HLw := Lib.hid (show (W ++ G).length ≤ 80 by rw [List.length_append]; omega)
        have HEq := Lib.hid (show ownW mu c d (t, bs) = ⟨t, mu, (bs.length : Int) - (cm : Int), (bs.length : Int) + (d : Int)⟩ by unfold ownW; dsimp only; rw [← HCm.out])
        have HSt := Lib.hid (show stepW mu c d a (t, bs) = G ++ [ownW mu c d (t, bs)] by unfold stepW; rw [← HGe.out])
        have HA2 := Lib.hid ((Below.refl wc.heap.size wc).alloc (Nat.le_refl _) (.cells #[.int .i64 t, .bool mu, .int .i64 ((bs.length : Int) - (cm : Int)), .int .i64 ((bs.length : Int) + (d : Int))] 32))
        have HN2 := Lib.hid (World.alloc_heap_new wc (.cells #[.int .i64 t, .bool mu, .int .i64 ((bs.length : Int) - (cm : Int)), .int .i64 ((bs.length : Int) + (d : Int))] 32))
        have hne := HO.out.ne HFc.out
        have HNe := Lib.hid hne
        clear hne
        go_wp2_with (at_builtin; go_must (refine wpList_appendW rfl (.tmp 55) (.tmp 80) rfl wm.heap.size _ (W ++ G) rfl (HO.out.below HA2.out) wc.heap.size ⟨t, mu, (bs.length : Int) - (cm : Int), (bs.length : Int) + (d : Int)⟩ rfl HN2.out (by have := HLw.out; omega) (by have := HBc.out.size; have := HA2.out.size; omega) ?_; intro v5 w5 ho5 hg5; have HO5 := Lib.hid ho5; have HB5 := Lib.hid ((HBc.out.trans (HA2.out.mono HBc.out.size)).grown hg5 (by have := HBc.out.size; have := HA2.out.size; omega) (fun j hj => (HO.out.lt j hj).1)); have hf5 := (hg5.block wr.heap.size (Nat.lt_of_lt_of_le hsz HA2.out.size) (fun e => HNe.out e.symm)).trans ((HA2.out.block wr.heap.size hsz).trans HFc.out); have f5 : w5.cell? ⟨wr.heap.size, 0, none⟩ = some (.int .i64 t) := (by simp [World.cell?, hf5]); clear ho5 hg5 hf5))
        go_roundw
        case rel =>
          have hfin : ∃ k' : Nat, k' ≤ m.length ∧ Value.int .i64 ((k : Int) + 1) = .int .i64 k' ∧ Value.int .i64 t = .int .i64 (lastT 0 (m.take k')) ∧ OW w5 wm.heap.size v5 (wantsF mu c d 0 (m.take k')) ∧ Below wm.heap.size wm w5 := ⟨k + 1, by omega, by go_num, by rw [HLs.out], by rw [HSn.out, HSt.out, HEq.out, ← List.append_assoc]; exact HO5.out, HB5.out⟩
          first | exact hfin | ((repeat apply Exists.intro); exact ⟨hfin, rfl⟩)
        case measure => simp [intOf]; omega
    · obtain rfl : k = m.length := by omega
      rw [List.take_length] at HOw
      have HWs := Lib.hid (suits_made (mu := mu) (c := c) (d := d) HSm.out (by omega))
      have HWl := Lib.hid (fun i (hi : i < m.length) => suit_less (mu := mu) (c := c) (d := d) HSm.out (by omega) hi)
      have HWt := Lib.hid (fun i (hi : i < m.length) => suit_tight (mu := mu) (c := c) (d := d) HSm.out (by omega) hi (by_ : Int) (by omega) (by omega))
      have HWw := Lib.hid (fun i (hi : i < m.length) => suit_without (mu := mu) (c := c) (d := d) HSm.out (by omega) hi (by_ : Int) (by omega) (by omega))
      have hwl : (wantsF mu c d 0 m).length ≤ 40 := by have := wantsF_length mu c d m 0; omega
      obtain ⟨aw, cw, rfl⟩ := HOw.out.shape
      have HWr := Lib.hid (HOw.out.row)
      generalize wantsF mu c d 0 m = W at *
      have HS1 := Lib.hid (suit_none (.slice al m.length cl) _ m W wr (HL.out.below HBl.out) HWr.out HWs.out)
      clear how hbel hlt hk HOw HWs hmu hcc hdd
      go_wp2_with fail
      refine HS1.out.mono ?_
      rintro e w2 ⟨rfl, hb2⟩
      have HB3 := Lib.hid (HBl.out.trans (hb2.mono HBl.out.size))
      have HWr2 := Lib.hid (HWr.out.below hb2)
      have HW2 := Lib.hid (HB2.out.trans (HB3.out.mono HB2.out.size))
      have HL2 := Lib.hid (HL.out.below HB3.out)
      clear hb2 HBl HWr HS1 HB2
      by_cases h0 : m.length = 0
      · have hm0 : m = [] := List.eq_nil_of_length_eq_zero h0
        subst hm0
        clear HSm HT64 HTg HLt HG3 hmlen HWl HWt HWw HL h0
        have HE := Lib.hid (suit_empty (which : Int) (by omega) (by omega))
        by_cases hw200 : which < 200
        · have e1 : decide ((which : Int) < 200) = true := decide_eq_true (by omega)
          have e2 : decide ((200 : Int) ≤ (which : Int)) = false := decide_eq_false (by omega)
          rw [e1, if_pos (show (which : Int) < 200 by omega)] at HE
          have HA := Lib.hid ((Below.refl w2.heap.size w2).alloc (Nat.le_refl _) (.cells #[.int .i64 (1 + (which : Int)), .bool true, .int .i64 0, .int .i64 0] 32))
          have HSx := Lib.hid (suit_some _ _ [] _ _ _ _ (HL2.out.below HA.out) (wrow_lit (w := w2) (t := 1 + (which : Int)) (a := 0) (b := 0) (mu := true)) HE.out)
          go_wp2_with fail
          refine HSx.out.mono ?_
          rintro e w3 ⟨rfl, hb3⟩
          have HB9 := Lib.hid (HW2.out.trans ((HA.out.trans (hb3.mono HA.out.size)).mono HW2.out.size))
          clear hb3
          go_wp2
          go_ret
          exact ⟨rfl, HB9.out⟩
        · have e1 : decide ((which : Int) < 200) = false := decide_eq_false (by omega)
          have e2 : decide ((200 : Int) ≤ (which : Int)) = true := decide_eq_true (by omega)
          rw [e1, if_neg (show ¬ (which : Int) < 200 by omega)] at HE
          have HA := Lib.hid ((Below.refl w2.heap.size w2).alloc (Nat.le_refl _) (.cells #[.int .i64 (1 + (which : Int)), .bool false, .int .i64 0, .int .i64 0] 32))
          have HSx := Lib.hid (suit_some _ _ [] _ _ _ _ (HL2.out.below HA.out) (wrow_lit (w := w2) (t := 1 + (which : Int)) (a := 0) (b := 0) (mu := false)) HE.out)
          go_wp2_with fail
          refine HSx.out.mono ?_
          rintro e w3 ⟨rfl, hb3⟩
          have HB9 := Lib.hid (HW2.out.trans ((HA.out.trans (hb3.mono HA.out.size)).mono HW2.out.size))
          clear hb3
          go_wp2
          go_ret
          exact ⟨rfl, HB9.out⟩
      · have e0 : ((m.length : Int) == 0) = false := by rw [beq_eq_false_iff_ne]; omega
        obtain ⟨i, hi, hii⟩ : ∃ i : Nat, i < m.length ∧ (which : Int) % (m.length : Int) = (i : Int) := ⟨which % m.length, Nat.mod_lt _ (by omega), by omega⟩
        obtain ⟨_, ⟨_, _, _, hn, _⟩ | ⟨bb, off, cap, A, C, e, hc, hmx, hcell⟩⟩ := HL2.out
        · rw [hn] at hi; exact absurd hi (Nat.not_lt_zero _)
        simp only [Value.slice.injEq, true_and] at e
        obtain ⟨rfl, rfl⟩ := e
        obtain ⟨d1, d2, d3⟩ := hcell i hi
        have hle := HSm.out.2.2 _ (ft_mem hi)
        dsimp only at hle
        have hi1 : (i : Int) < (m.length : Int) := by omega
        have HWl1 := Lib.hid (HWl.out i hi)
        have HWt1 := Lib.hid (HWt.out i hi)
        have HWw1 := Lib.hid (HWw.out i hi)
        have HD3 := Lib.hid d3
        have HCell := Lib.hid hcell
        have HRt := Lib.hid (rest_right HSm.out (ft m i))
        generalize ft m i = t at *
        generalize fb m i = bs at *
        generalize A i = A1 at *
        generalize C i = C1 at *
        clear hcell d3 hmx HWl HWt HWw hc
        have HFn := Lib.hid (World.alloc_heap_new w2 (.cells #[.int .i64 t, .slice A1 bs.length C1] 25))
        have HFb := Lib.hid ((Below.refl w2.heap.size w2).alloc (Nat.le_refl _) (.cells #[.int .i64 t, .slice A1 bs.length C1] 25))
        have HFs := Lib.hid (show (w2.alloc (.cells #[.int .i64 t, .slice A1 bs.length C1] 25)).heap.size = w2.heap.size + 1 by simp)
        go_upto_region 21 with fail
        generalize w2.alloc (.cells #[.int .i64 t, .slice A1 bs.length C1] 25) = W4 at *
        have f0 : W4.cell? ⟨w2.heap.size, 0, none⟩ = some (.int .i64 t) := by simp [World.cell?, HFn.out]
        have f1 : W4.cell? ⟨w2.heap.size, 1, none⟩ = some (.slice A1 bs.length C1) := by simp [World.cell?, HFn.out]
        have hF4 : w2.heap.size < W4.heap.size := by rw [HFs.out]; omega
        clear d1 d2
        go_wp2_with fail
        go_loopw [19, 20, 21, 147] (fun v1 v2 v3 i wr => ∃ k : Nat, k ≤ W.length ∧ i = .int .i64 k ∧ Tri W4.heap.size w2.heap.size v1 v2 v3 (lessW t (W.take k)) (tightW t ((bs.length : Int) + 1) ((bs.length : Int) + 1 + (by_ : Int)) (W.take k)) (withoutW t ((bs.length : Int) + 1) ((bs.length : Int) + 1 + (by_ : Int)) (W.take k)) wr ∧ Below W4.heap.size W4 wr) (fun _ _ _ i _ => W.length - (intOf i).toNat)
        case atStart => exact ⟨0, Nat.zero_le _, rfl, tri_nil _ _ _, Below.refl _ _⟩
        case round =>
          obtain ⟨k, hk, rfl, htri, hbel⟩ := hrel
          have HTri := Lib.hid htri
          have HBl := Lib.hid hbel
          by_cases hlt : k < W.length
          · obtain ⟨_, _, _, hn, _⟩ | ⟨bw, ow, capw, e, hcw, hmw, hcellw⟩ := HWr2.out
            · rw [hn] at hlt; exact absurd hlt (Nat.not_lt_zero _)
            simp only [Value.slice.injEq, true_and] at e
            obtain ⟨rfl, rfl⟩ := e
            obtain ⟨x0, x1, x2, x3⟩ := hcellw k hlt
            have hbw := HFb.out.trans (hbel.mono HFb.out.size)
            have x0' := (hbw.cell (p := ⟨bw, ow + k * 4, none⟩) (block_lt_of_cell x0)).trans x0
            have x1' := (hbw.cell (p := ⟨bw, ow + k * 4 + 1, none⟩) (block_lt_of_cell x1)).trans x1
            have x2' := (hbw.cell (p := ⟨bw, ow + k * 4 + 2, none⟩) (block_lt_of_cell x2)).trans x2
            have x3' := (hbw.cell (p := ⟨bw, ow + k * 4 + 3, none⟩) (block_lt_of_cell x3)).trans x3
            have f0' := (hbel.cell (p := ⟨w2.heap.size, 0, none⟩) hF4).trans f0
            have f1' := (hbel.cell (p := ⟨w2.heap.size, 1, none⟩) hF4).trans f1
            have hkl : decide ((k : Int) < (W.length : Int)) = true := decide_eq_true (by omega)
            have HTk := Lib.hid (wg_take W k hlt)
            generalize wg W k = q at *
            obtain ⟨xt, xm, xa, xb⟩ := q
            dsimp only at x0' x1' x2' x3'
            clear x0 x1 x2 x3 hcellw htri hbel hbw hmw
            have HXn := Lib.hid (World.alloc_heap_new wr (.cells #[.int .i64 xt, .bool xm, .int .i64 xa, .int .i64 xb] 32))
            have HXb := Lib.hid ((Below.refl wr.heap.size wr).alloc (Nat.le_refl _) (.cells #[.int .i64 xt, .bool xm, .int .i64 xa, .int .i64 xb] 32))
            have HXs := Lib.hid (show (wr.alloc (.cells #[.int .i64 xt, .bool xm, .int .i64 xa, .int .i64 xb] 32)).heap.size = wr.heap.size + 1 by simp)
            go_upto_region 25 with fail
            generalize wr.alloc (.cells #[.int .i64 xt, .bool xm, .int .i64 xa, .int .i64 xb] 32) = W0 at *
            have hF5 : w2.heap.size < wr.heap.size := Nat.lt_of_lt_of_le hF4 HBl.out.size
            have h0 := (HXb.out.cell (p := ⟨w2.heap.size, 0, none⟩) hF5).trans f0'
            have h1 := (HXb.out.cell (p := ⟨w2.heap.size, 1, none⟩) hF5).trans f1'
            obtain ⟨y0, y1, y2, y3, yf⟩ := want_cells (q := ⟨xt, xm, xa, xb⟩) HXn.out
            dsimp only at y0 y1 y2 y3
            have yf2 := yf 2
            have yf3 := yf 3
            have yf1 := yf 1
            have HT0 := Lib.hid ((HTri.out.at wr.heap.size (Nat.le_refl _)).below HXb.out)
            have HB0 := Lib.hid (HBl.out.trans (HXb.out.mono HBl.out.size))
            have hXs := HXs.out
            have hX : wr.heap.size < W0.heap.size := by omega
            have hwk : (W.take k).length ≤ 40 := by rw [List.length_take]; omega
            have hL1 : (lessW t (W.take k)).length ≤ 40 := Nat.le_trans (List.length_filter_le _ _) hwk
            have hL2 : (tightW t ((bs.length : Int) + 1) ((bs.length : Int) + 1 + (by_ : Int)) (W.take k)).length ≤ 40 := by unfold tightW; rw [List.length_map]; exact hwk
            have hL3 : (withoutW t ((bs.length : Int) + 1) ((bs.length : Int) + 1 + (by_ : Int)) (W.take k)).length ≤ 40 := by unfold withoutW; rw [List.length_map]; exact hwk
            have HE1 := Lib.hid (show lessW t (W.take (k + 1)) = lessW t (W.take k) ++ (if xt ≠ t then [⟨xt, xm, xa, xb⟩] else []) by rw [HTk.out, lessW_snoc])
            have HE2 := Lib.hid (show tightW t ((bs.length : Int) + 1) ((bs.length : Int) + 1 + (by_ : Int)) (W.take (k + 1)) = tightW t ((bs.length : Int) + 1) ((bs.length : Int) + 1 + (by_ : Int)) (W.take k) ++ [if xt ≠ t then ⟨xt, xm, xa, xb⟩ else ⟨xt, xm, (bs.length : Int) + 1, (bs.length : Int) + 1 + (by_ : Int)⟩] by rw [HTk.out, tightW_snoc])
            have HE3 := Lib.hid (show withoutW t ((bs.length : Int) + 1) ((bs.length : Int) + 1 + (by_ : Int)) (W.take (k + 1)) = withoutW t ((bs.length : Int) + 1) ((bs.length : Int) + 1 + (by_ : Int)) (W.take k) ++ [if xt ≠ t then ⟨xt, xm, xa, xb⟩ else ⟨xt, true, (bs.length : Int) + 1, (bs.length : Int) + 1 + (by_ : Int)⟩] by rw [HTk.out, withoutW_snoc])
            generalize lessW t (W.take k) = M1 at *
            generalize tightW t ((bs.length : Int) + 1) ((bs.length : Int) + 1 + (by_ : Int)) (W.take k) = M2 at *
            generalize withoutW t ((bs.length : Int) + 1) ((bs.length : Int) + 1 + (by_ : Int)) (W.take k) = M3 at *
            obtain ⟨N1, hN1⟩ : ∃ N, lessW t (W.take (k + 1)) = N := ⟨_, rfl⟩
            obtain ⟨N2, hN2⟩ : ∃ N, tightW t ((bs.length : Int) + 1) ((bs.length : Int) + 1 + (by_ : Int)) (W.take (k + 1)) = N := ⟨_, rfl⟩
            obtain ⟨N3, hN3⟩ : ∃ N, withoutW t ((bs.length : Int) + 1) ((bs.length : Int) + 1 + (by_ : Int)) (W.take (k + 1)) = N := ⟨_, rfl⟩
            rw [hN1] at HE1
            rw [hN2] at HE2
            rw [hN3] at HE3
            have HQ1 := Lib.hid hN1
            have HQ2 := Lib.hid hN2
            have HQ3 := Lib.hid hN3
            clear hN1 hN2 hN3
            have HXB := Lib.hid HBl.out.size
            generalize wr.heap.size = X at *
            clear x0' x1' x2' x3' f0' f1' yf HTri hXs
            have hlitb : ∀ (Wd : World) (q : Wnt), Below Wd.heap.size Wd (Wd.alloc (.cells #[.int .i64 q.tag, .bool q.must, .int .i64 q.least, .int .i64 q.most] 32)) := fun Wd q => (Below.refl _ Wd).alloc (Nat.le_refl _) _
            have HLit := Lib.hid hlitb
            clear hlitb
            have hXB : W4.heap.size ≤ X := HXB.out
            by_cases hxt : xt = t
            · have e1 : (xt != t) = false := by rw [bne_eq_false_iff_eq]; exact hxt
              rw [if_neg (show ¬ xt ≠ t by omega)] at HE1 HE2 HE3
              clear hxt
              go_upto_region 28 with fail
              go_cut [] (fun wx => Tri W4.heap.size X u19 u20 u21 M1 M2 M3 wx ∧ wx.heap[X]? = some (.cells #[.int .i64 xt, .bool xm, .int .i64 ((bs.length : Int) + 1), .int .i64 ((bs.length : Int) + 1 + (by_ : Int))] 32 (0, 0)) ∧ Below W4.heap.size W4 wx)
              case first =>
                go_region
                all_goals
                  go_wp2_with fail
                  go_meet
                  exact ⟨by first | exact ((HT0.out.set 2 _).set 3 _).below (Below.refl _ _).drew | exact ((HT0.out.set 3 _).set 2 _).below (Below.refl _ _).drew, by first | exact setCell_cells (setCell_cells HXn.out 2 _) 3 _ | exact setCell_cells (setCell_cells HXn.out 3 _) 2 _, by first | exact ((HB0.out.setCell (p := ⟨X, 2, none⟩) hXB _).setCell (p := ⟨X, 3, none⟩) hXB _).drew | exact ((HB0.out.setCell (p := ⟨X, 3, none⟩) hXB _).setCell (p := ⟨X, 2, none⟩) hXB _).drew⟩
              case rest =>
                obtain ⟨ht, hx, hb⟩ := hcut
                obtain ⟨nb, hnb⟩ : ∃ nb : Int, (bs.length : Int) + 1 + (by_ : Int) = nb := ⟨_, rfl⟩
                obtain ⟨na, hna⟩ : ∃ na : Int, (bs.length : Int) + 1 = na := ⟨_, rfl⟩
                rw [hnb] at hx HE2 HE3 HQ2 HQ3
                rw [hna] at hx HE2 HE3 HQ2 HQ3
                have HNA := Lib.hid hna
                have HNB := Lib.hid hnb
                clear hna hnb
                have HT1 := Lib.hid ht
                have HX1 := Lib.hid hx
                have HBB1 := Lib.hid hb
                obtain ⟨s0, s1, s2, s3, -⟩ := want_cells (q := ⟨xt, xm, na, nb⟩) hx
                dsimp only at s0 s1 s2 s3
                have hxc := (Array.getElem?_eq_some_iff.1 hx).1
                have HL1 := Lib.hid (HLit.out wc ⟨xt, xm, na, nb⟩)
                have HT2 := Lib.hid (HT1.out.below HL1.out)
                have HBB2 := Lib.hid (HBB1.out.trans (HL1.out.mono HBB1.out.size))
                have HX2 := Lib.hid ((HL1.out.block X hxc).trans HX1.out)
                have HN2 := Lib.hid (World.alloc_heap_new wc (.cells #[.int .i64 xt, .bool xm, .int .i64 na, .int .i64 nb] 32))
                clear ht hx hb hxc
                go_wp2_with (first
                  | (at_builtin; refine wpList_appendW_at rfl (.tmp 181) (.tmp 183) rfl W4.heap.size _ M2 rfl HT2.out.o2 wc.heap.size ⟨xt, xm, na, nb⟩ rfl HN2.out (by omega) HBB2.out.size ?_; intro v5 w5 ho5 hg5 hat5; have HT3 := Lib.hid (HT2.out.app2 (Array.getElem?_eq_some_iff.1 HX2.out).1 hg5 ho5 hat5); have HBB3 := Lib.hid (HBB2.out.grown hg5 HBB2.out.size (fun j hj => (HT2.out.o2.lt j hj).1)); have HX3 := Lib.hid ((hg5.block X (Array.getElem?_eq_some_iff.1 HX2.out).1 (fun e => HT2.out.x2 e.symm)).trans HX2.out); obtain ⟨r0, r1, r2, r3, rf⟩ := want_cells (q := ⟨xt, xm, na, nb⟩) HX3.out; have rf1 := rf 1; dsimp only at r0 r1 r2 r3; have HX4 := Lib.hid (setCell_cells HX3.out 1 (.bool true)); have HT4 := Lib.hid (HT3.out.set 1 (.bool true)); have HBB4 := Lib.hid (HBB3.out.setCell (p := ⟨X, 1, none⟩) hXB (.bool true)); have HL5 := Lib.hid (HLit.out (w5.setCell ⟨X, 1, none⟩ (.bool true)) ⟨xt, true, na, nb⟩); have HT5 := Lib.hid (HT4.out.below HL5.out); have HBB5 := Lib.hid (HBB4.out.trans (HL5.out.mono HBB4.out.size)); have HN5 := Lib.hid (World.alloc_heap_new (w5.setCell ⟨X, 1, none⟩ (.bool true)) (.cells #[.int .i64 xt, .bool true, .int .i64 na, .int .i64 nb] 32)); have HX5 := Lib.hid ((HL5.out.block X (Array.getElem?_eq_some_iff.1 HX4.out).1).trans HX4.out); clear ho5 hg5 hat5 rf)
                  | (at_builtin; go_must (refine wpList_appendW_at rfl (.tmp 186) (.tmp 188) rfl W4.heap.size _ M3 rfl HT5.out.o3 (w5.setCell ⟨X, 1, none⟩ (.bool true)).heap.size ⟨xt, true, na, nb⟩ (by first | rfl | simp [Act.eval]) HN5.out (by omega) HBB5.out.size ?_; intro v7 w7 ho7 hg7 hat7; have HT8 := Lib.hid (HT5.out.app3 (Array.getElem?_eq_some_iff.1 HX5.out).1 hg7 ho7 hat7); have HB8 := Lib.hid (HBB5.out.grown hg7 HBB5.out.size (fun j hj => (HT5.out.o3.lt j hj).1)); clear ho7 hg7 hat7)))
                go_roundw
                case rel =>
                  have hfin : ∃ k' : Nat, k' ≤ W.length ∧ Value.int .i64 ((k : Int) + 1) = .int .i64 k' ∧ Tri W4.heap.size w2.heap.size u19 v5 v7 (lessW t (W.take k')) (tightW t ((bs.length : Int) + 1) ((bs.length : Int) + 1 + (by_ : Int)) (W.take k')) (withoutW t ((bs.length : Int) + 1) ((bs.length : Int) + 1 + (by_ : Int)) (W.take k')) w7 ∧ Below W4.heap.size W4 w7 := ⟨k + 1, by omega, by go_num, by rw [HNB.out, HNA.out, HQ1.out, HQ2.out, HQ3.out, HE1.out, HE2.out, HE3.out, List.append_nil]; exact HT8.out.to _ hF4, HB8.out⟩
                  first | exact hfin | ((repeat apply Exists.intro); exact ⟨hfin, rfl, rfl, rfl, rfl, rfl⟩)
                case measure => simp [intOf]; omega
            · have e1 : (xt != t) = true := by rw [bne_iff_ne]; exact hxt
              rw [if_pos hxt] at HE1 HE2 HE3
              have HTd := Lib.hid (HT0.out.below (Below.refl _ W0).drew)
              have HNd := Lib.hid (HXn.out : W0.drew.heap[X]? = _)
              have HBd := Lib.hid (HB0.out.drew)
              have hsd : W0.drew.heap.size = W0.heap.size := rfl
              have HSd := Lib.hid hsd
              have tok1 : True := trivial
              clear hxt hsd
              go_wp2_with fail
              go_region_held3 (fun w' => w'.cell? ⟨X, 0, none⟩ = some (.int .i64 xt) ∧ w'.cell? ⟨X, 1, none⟩ = some (.bool xm) ∧ w'.cell? ⟨X, 2, none⟩ = some (.int .i64 xa) ∧ w'.cell? ⟨X, 3, none⟩ = some (.int .i64 xb))
                (first
                  | go_keep
                  | exact ⟨r0, r1, r2, r3⟩
                  | exact ⟨z0, z1, z2, z3⟩)
                ((first
                  | (have _t := tok1; refine step_appendW (by rfl) (.tmp 156) (.tmp 158) (by rfl) W4.heap.size _ M1 (by rfl) (HTd.out.below (HLit.out W0.drew ⟨xt, xm, xa, xb⟩)).o1 (W0.heap.size) ⟨xt, xm, xa, xb⟩ (by rfl) ((World.alloc_heap_new W0.drew (.cells #[.int .i64 xt, .bool xm, .int .i64 xa, .int .i64 xb] 32))) (by omega) (HBd.out.trans ((HLit.out W0.drew ⟨xt, xm, xa, xb⟩).mono HBd.out.size)).size ?_; intro v5 w5 ho5 hg5 hat5; have HT5 := Lib.hid ((HTd.out.below (HLit.out W0.drew ⟨xt, xm, xa, xb⟩)).app1 ((Array.getElem?_eq_some_iff.1 (((HLit.out W0.drew ⟨xt, xm, xa, xb⟩).block X ((Array.getElem?_eq_some_iff.1 (HNd.out)).1)).trans HNd.out)).1) hg5 ho5 hat5); have HX5 := Lib.hid ((hg5.block X ((Array.getElem?_eq_some_iff.1 (((HLit.out W0.drew ⟨xt, xm, xa, xb⟩).block X ((Array.getElem?_eq_some_iff.1 (HNd.out)).1)).trans HNd.out)).1) (fun e => HT0.out.x1 e.symm)).trans (((HLit.out W0.drew ⟨xt, xm, xa, xb⟩).block X ((Array.getElem?_eq_some_iff.1 (HNd.out)).1)).trans HNd.out)); have HB5 := Lib.hid ((HBd.out.trans ((HLit.out W0.drew ⟨xt, xm, xa, xb⟩).mono HBd.out.size)).grown hg5 (HBd.out.trans ((HLit.out W0.drew ⟨xt, xm, xa, xb⟩).mono HBd.out.size)).size (fun j hj => (HT0.out.o1.lt j hj).1)); obtain ⟨r0, r1, r2, r3, -⟩ := want_cells (q := ⟨xt, xm, xa, xb⟩) HX5.out; dsimp only at r0 r1 r2 r3;  clear ho5 hg5 hat5 _t tok1)
                  | (have _t := tok1; refine step_appendW (by rfl) (.tmp 156) (.tmp 158) (by rfl) W4.heap.size _ M1 (by rfl) ((HTd.out.below (HLit.out W0.drew ⟨xt, xm, xa, xb⟩)).below (HLit.out (W0.drew.alloc (.cells #[.int .i64 xt, .bool xm, .int .i64 xa, .int .i64 xb] 32)) ⟨xt, xm, xa, xb⟩)).o1 (W0.heap.size) ⟨xt, xm, xa, xb⟩ (by rfl) ((((HLit.out (W0.drew.alloc (.cells #[.int .i64 xt, .bool xm, .int .i64 xa, .int .i64 xb] 32)) ⟨xt, xm, xa, xb⟩).block W0.heap.size ((Array.getElem?_eq_some_iff.1 ((World.alloc_heap_new W0.drew (.cells #[.int .i64 xt, .bool xm, .int .i64 xa, .int .i64 xb] 32)))).1)).trans (World.alloc_heap_new W0.drew (.cells #[.int .i64 xt, .bool xm, .int .i64 xa, .int .i64 xb] 32)))) (by omega) ((HBd.out.trans ((HLit.out W0.drew ⟨xt, xm, xa, xb⟩).mono HBd.out.size)).trans ((HLit.out (W0.drew.alloc (.cells #[.int .i64 xt, .bool xm, .int .i64 xa, .int .i64 xb] 32)) ⟨xt, xm, xa, xb⟩).mono (HBd.out.trans ((HLit.out W0.drew ⟨xt, xm, xa, xb⟩).mono HBd.out.size)).size)).size ?_; intro v5 w5 ho5 hg5 hat5; have HT5 := Lib.hid (((HTd.out.below (HLit.out W0.drew ⟨xt, xm, xa, xb⟩)).below (HLit.out (W0.drew.alloc (.cells #[.int .i64 xt, .bool xm, .int .i64 xa, .int .i64 xb] 32)) ⟨xt, xm, xa, xb⟩)).app1 ((Array.getElem?_eq_some_iff.1 (((HLit.out (W0.drew.alloc (.cells #[.int .i64 xt, .bool xm, .int .i64 xa, .int .i64 xb] 32)) ⟨xt, xm, xa, xb⟩).block X ((Array.getElem?_eq_some_iff.1 (((HLit.out W0.drew ⟨xt, xm, xa, xb⟩).block X ((Array.getElem?_eq_some_iff.1 (HNd.out)).1)).trans HNd.out)).1)).trans (((HLit.out W0.drew ⟨xt, xm, xa, xb⟩).block X ((Array.getElem?_eq_some_iff.1 (HNd.out)).1)).trans HNd.out))).1) hg5 ho5 hat5); have HX5 := Lib.hid ((hg5.block X ((Array.getElem?_eq_some_iff.1 (((HLit.out (W0.drew.alloc (.cells #[.int .i64 xt, .bool xm, .int .i64 xa, .int .i64 xb] 32)) ⟨xt, xm, xa, xb⟩).block X ((Array.getElem?_eq_some_iff.1 (((HLit.out W0.drew ⟨xt, xm, xa, xb⟩).block X ((Array.getElem?_eq_some_iff.1 (HNd.out)).1)).trans HNd.out)).1)).trans (((HLit.out W0.drew ⟨xt, xm, xa, xb⟩).block X ((Array.getElem?_eq_some_iff.1 (HNd.out)).1)).trans HNd.out))).1) (fun e => HT0.out.x1 e.symm)).trans (((HLit.out (W0.drew.alloc (.cells #[.int .i64 xt, .bool xm, .int .i64 xa, .int .i64 xb] 32)) ⟨xt, xm, xa, xb⟩).block X ((Array.getElem?_eq_some_iff.1 (((HLit.out W0.drew ⟨xt, xm, xa, xb⟩).block X ((Array.getElem?_eq_some_iff.1 (HNd.out)).1)).trans HNd.out)).1)).trans (((HLit.out W0.drew ⟨xt, xm, xa, xb⟩).block X ((Array.getElem?_eq_some_iff.1 (HNd.out)).1)).trans HNd.out))); have HB5 := Lib.hid (((HBd.out.trans ((HLit.out W0.drew ⟨xt, xm, xa, xb⟩).mono HBd.out.size)).trans ((HLit.out (W0.drew.alloc (.cells #[.int .i64 xt, .bool xm, .int .i64 xa, .int .i64 xb] 32)) ⟨xt, xm, xa, xb⟩).mono (HBd.out.trans ((HLit.out W0.drew ⟨xt, xm, xa, xb⟩).mono HBd.out.size)).size)).grown hg5 ((HBd.out.trans ((HLit.out W0.drew ⟨xt, xm, xa, xb⟩).mono HBd.out.size)).trans ((HLit.out (W0.drew.alloc (.cells #[.int .i64 xt, .bool xm, .int .i64 xa, .int .i64 xb] 32)) ⟨xt, xm, xa, xb⟩).mono (HBd.out.trans ((HLit.out W0.drew ⟨xt, xm, xa, xb⟩).mono HBd.out.size)).size)).size (fun j hj => (HT0.out.o1.lt j hj).1)); obtain ⟨r0, r1, r2, r3, -⟩ := want_cells (q := ⟨xt, xm, xa, xb⟩) HX5.out; dsimp only at r0 r1 r2 r3; have HNa := Lib.hid ((hg5.block W0.heap.size ((Array.getElem?_eq_some_iff.1 ((((HLit.out (W0.drew.alloc (.cells #[.int .i64 xt, .bool xm, .int .i64 xa, .int .i64 xb] 32)) ⟨xt, xm, xa, xb⟩).block W0.heap.size ((Array.getElem?_eq_some_iff.1 ((World.alloc_heap_new W0.drew (.cells #[.int .i64 xt, .bool xm, .int .i64 xa, .int .i64 xb] 32)))).1)).trans (World.alloc_heap_new W0.drew (.cells #[.int .i64 xt, .bool xm, .int .i64 xa, .int .i64 xb] 32))))).1) (fun e => by have := (HT0.out.o1.lt _ e.symm).2; omega)).trans (((HLit.out (W0.drew.alloc (.cells #[.int .i64 xt, .bool xm, .int .i64 xa, .int .i64 xb] 32)) ⟨xt, xm, xa, xb⟩).block W0.heap.size ((Array.getElem?_eq_some_iff.1 ((World.alloc_heap_new W0.drew (.cells #[.int .i64 xt, .bool xm, .int .i64 xa, .int .i64 xb] 32)))).1)).trans (World.alloc_heap_new W0.drew (.cells #[.int .i64 xt, .bool xm, .int .i64 xa, .int .i64 xb] 32)))); have HNb := Lib.hid ((hg5.block (W0.heap.size + 1) ((Array.getElem?_eq_some_iff.1 ((show ((W0.drew.alloc (.cells #[.int .i64 xt, .bool xm, .int .i64 xa, .int .i64 xb] 32)).alloc (.cells #[.int .i64 xt, .bool xm, .int .i64 xa, .int .i64 xb] 32)).heap[W0.heap.size + 1]? = some (.cells #[.int .i64 xt, .bool xm, .int .i64 xa, .int .i64 xb] 32 (0, 0)) from (by have h := (World.alloc_heap_new (W0.drew.alloc (.cells #[.int .i64 xt, .bool xm, .int .i64 xa, .int .i64 xb] 32)) (.cells #[.int .i64 xt, .bool xm, .int .i64 xa, .int .i64 xb] 32)); (try simp only [World.size_alloc] at h); exact h)))).1) (fun e => by have := (HT0.out.o1.lt _ e.symm).2; omega)).trans (show ((W0.drew.alloc (.cells #[.int .i64 xt, .bool xm, .int .i64 xa, .int .i64 xb] 32)).alloc (.cells #[.int .i64 xt, .bool xm, .int .i64 xa, .int .i64 xb] 32)).heap[W0.heap.size + 1]? = some (.cells #[.int .i64 xt, .bool xm, .int .i64 xa, .int .i64 xb] 32 (0, 0)) from (by have h := (World.alloc_heap_new (W0.drew.alloc (.cells #[.int .i64 xt, .bool xm, .int .i64 xa, .int .i64 xb] 32)) (.cells #[.int .i64 xt, .bool xm, .int .i64 xa, .int .i64 xb] 32)); (try simp only [World.size_alloc] at h); exact h)));  clear ho5 hg5 hat5 _t tok1)
                  | (have _t := tok1; go_must (refine step_appendW (by rfl) (.tmp 156) (.tmp 158) (by rfl) W4.heap.size _ M1 (by rfl) ((HTd.out.below (HLit.out W0.drew ⟨xt, xm, xa, xb⟩)).below (HLit.out (W0.drew.alloc (.cells #[.int .i64 xt, .bool xm, .int .i64 xa, .int .i64 xb] 32)) ⟨xt, xm, xa, xb⟩)).o1 (W0.heap.size + 1) ⟨xt, xm, xa, xb⟩ (by rfl) ((show ((W0.drew.alloc (.cells #[.int .i64 xt, .bool xm, .int .i64 xa, .int .i64 xb] 32)).alloc (.cells #[.int .i64 xt, .bool xm, .int .i64 xa, .int .i64 xb] 32)).heap[W0.heap.size + 1]? = some (.cells #[.int .i64 xt, .bool xm, .int .i64 xa, .int .i64 xb] 32 (0, 0)) from (by have h := (World.alloc_heap_new (W0.drew.alloc (.cells #[.int .i64 xt, .bool xm, .int .i64 xa, .int .i64 xb] 32)) (.cells #[.int .i64 xt, .bool xm, .int .i64 xa, .int .i64 xb] 32)); (try simp only [World.size_alloc] at h); exact h))) (by omega) ((HBd.out.trans ((HLit.out W0.drew ⟨xt, xm, xa, xb⟩).mono HBd.out.size)).trans ((HLit.out (W0.drew.alloc (.cells #[.int .i64 xt, .bool xm, .int .i64 xa, .int .i64 xb] 32)) ⟨xt, xm, xa, xb⟩).mono (HBd.out.trans ((HLit.out W0.drew ⟨xt, xm, xa, xb⟩).mono HBd.out.size)).size)).size ?_; intro v5 w5 ho5 hg5 hat5; have HT5 := Lib.hid (((HTd.out.below (HLit.out W0.drew ⟨xt, xm, xa, xb⟩)).below (HLit.out (W0.drew.alloc (.cells #[.int .i64 xt, .bool xm, .int .i64 xa, .int .i64 xb] 32)) ⟨xt, xm, xa, xb⟩)).app1 ((Array.getElem?_eq_some_iff.1 (((HLit.out (W0.drew.alloc (.cells #[.int .i64 xt, .bool xm, .int .i64 xa, .int .i64 xb] 32)) ⟨xt, xm, xa, xb⟩).block X ((Array.getElem?_eq_some_iff.1 (((HLit.out W0.drew ⟨xt, xm, xa, xb⟩).block X ((Array.getElem?_eq_some_iff.1 (HNd.out)).1)).trans HNd.out)).1)).trans (((HLit.out W0.drew ⟨xt, xm, xa, xb⟩).block X ((Array.getElem?_eq_some_iff.1 (HNd.out)).1)).trans HNd.out))).1) hg5 ho5 hat5); have HX5 := Lib.hid ((hg5.block X ((Array.getElem?_eq_some_iff.1 (((HLit.out (W0.drew.alloc (.cells #[.int .i64 xt, .bool xm, .int .i64 xa, .int .i64 xb] 32)) ⟨xt, xm, xa, xb⟩).block X ((Array.getElem?_eq_some_iff.1 (((HLit.out W0.drew ⟨xt, xm, xa, xb⟩).block X ((Array.getElem?_eq_some_iff.1 (HNd.out)).1)).trans HNd.out)).1)).trans (((HLit.out W0.drew ⟨xt, xm, xa, xb⟩).block X ((Array.getElem?_eq_some_iff.1 (HNd.out)).1)).trans HNd.out))).1) (fun e => HT0.out.x1 e.symm)).trans (((HLit.out (W0.drew.alloc (.cells #[.int .i64 xt, .bool xm, .int .i64 xa, .int .i64 xb] 32)) ⟨xt, xm, xa, xb⟩).block X ((Array.getElem?_eq_some_iff.1 (((HLit.out W0.drew ⟨xt, xm, xa, xb⟩).block X ((Array.getElem?_eq_some_iff.1 (HNd.out)).1)).trans HNd.out)).1)).trans (((HLit.out W0.drew ⟨xt, xm, xa, xb⟩).block X ((Array.getElem?_eq_some_iff.1 (HNd.out)).1)).trans HNd.out))); have HB5 := Lib.hid (((HBd.out.trans ((HLit.out W0.drew ⟨xt, xm, xa, xb⟩).mono HBd.out.size)).trans ((HLit.out (W0.drew.alloc (.cells #[.int .i64 xt, .bool xm, .int .i64 xa, .int .i64 xb] 32)) ⟨xt, xm, xa, xb⟩).mono (HBd.out.trans ((HLit.out W0.drew ⟨xt, xm, xa, xb⟩).mono HBd.out.size)).size)).grown hg5 ((HBd.out.trans ((HLit.out W0.drew ⟨xt, xm, xa, xb⟩).mono HBd.out.size)).trans ((HLit.out (W0.drew.alloc (.cells #[.int .i64 xt, .bool xm, .int .i64 xa, .int .i64 xb] 32)) ⟨xt, xm, xa, xb⟩).mono (HBd.out.trans ((HLit.out W0.drew ⟨xt, xm, xa, xb⟩).mono HBd.out.size)).size)).size (fun j hj => (HT0.out.o1.lt j hj).1)); obtain ⟨r0, r1, r2, r3, -⟩ := want_cells (q := ⟨xt, xm, xa, xb⟩) HX5.out; dsimp only at r0 r1 r2 r3; have HNa := Lib.hid ((hg5.block W0.heap.size ((Array.getElem?_eq_some_iff.1 ((((HLit.out (W0.drew.alloc (.cells #[.int .i64 xt, .bool xm, .int .i64 xa, .int .i64 xb] 32)) ⟨xt, xm, xa, xb⟩).block W0.heap.size ((Array.getElem?_eq_some_iff.1 ((World.alloc_heap_new W0.drew (.cells #[.int .i64 xt, .bool xm, .int .i64 xa, .int .i64 xb] 32)))).1)).trans (World.alloc_heap_new W0.drew (.cells #[.int .i64 xt, .bool xm, .int .i64 xa, .int .i64 xb] 32))))).1) (fun e => by have := (HT0.out.o1.lt _ e.symm).2; omega)).trans (((HLit.out (W0.drew.alloc (.cells #[.int .i64 xt, .bool xm, .int .i64 xa, .int .i64 xb] 32)) ⟨xt, xm, xa, xb⟩).block W0.heap.size ((Array.getElem?_eq_some_iff.1 ((World.alloc_heap_new W0.drew (.cells #[.int .i64 xt, .bool xm, .int .i64 xa, .int .i64 xb] 32)))).1)).trans (World.alloc_heap_new W0.drew (.cells #[.int .i64 xt, .bool xm, .int .i64 xa, .int .i64 xb] 32)))); have HNb := Lib.hid ((hg5.block (W0.heap.size + 1) ((Array.getElem?_eq_some_iff.1 ((show ((W0.drew.alloc (.cells #[.int .i64 xt, .bool xm, .int .i64 xa, .int .i64 xb] 32)).alloc (.cells #[.int .i64 xt, .bool xm, .int .i64 xa, .int .i64 xb] 32)).heap[W0.heap.size + 1]? = some (.cells #[.int .i64 xt, .bool xm, .int .i64 xa, .int .i64 xb] 32 (0, 0)) from (by have h := (World.alloc_heap_new (W0.drew.alloc (.cells #[.int .i64 xt, .bool xm, .int .i64 xa, .int .i64 xb] 32)) (.cells #[.int .i64 xt, .bool xm, .int .i64 xa, .int .i64 xb] 32)); (try simp only [World.size_alloc] at h); exact h)))).1) (fun e => by have := (HT0.out.o1.lt _ e.symm).2; omega)).trans (show ((W0.drew.alloc (.cells #[.int .i64 xt, .bool xm, .int .i64 xa, .int .i64 xb] 32)).alloc (.cells #[.int .i64 xt, .bool xm, .int .i64 xa, .int .i64 xb] 32)).heap[W0.heap.size + 1]? = some (.cells #[.int .i64 xt, .bool xm, .int .i64 xa, .int .i64 xb] 32 (0, 0)) from (by have h := (World.alloc_heap_new (W0.drew.alloc (.cells #[.int .i64 xt, .bool xm, .int .i64 xa, .int .i64 xb] 32)) (.cells #[.int .i64 xt, .bool xm, .int .i64 xa, .int .i64 xb] 32)); (try simp only [World.size_alloc] at h); exact h)));  clear ho5 hg5 hat5 _t tok1))
                  | (refine step_appendW (by rfl) (.tmp 160) (.tmp 162) (by rfl) W4.heap.size _ M2 (by rfl) (HT5.out.below (HLit.out w5 ⟨xt, xm, xa, xb⟩)).o2 (w5.heap.size) ⟨xt, xm, xa, xb⟩ (by rfl) ((World.alloc_heap_new w5 (.cells #[.int .i64 xt, .bool xm, .int .i64 xa, .int .i64 xb] 32))) (by omega) (HB5.out.trans ((HLit.out w5 ⟨xt, xm, xa, xb⟩).mono HB5.out.size)).size ?_; intro v6 w6 ho6 hg6 hat6; have HT6 := Lib.hid ((HT5.out.below (HLit.out w5 ⟨xt, xm, xa, xb⟩)).app2 ((Array.getElem?_eq_some_iff.1 (((HLit.out w5 ⟨xt, xm, xa, xb⟩).block X ((Array.getElem?_eq_some_iff.1 (HX5.out)).1)).trans HX5.out)).1) hg6 ho6 hat6); have HX6 := Lib.hid ((hg6.block X ((Array.getElem?_eq_some_iff.1 (((HLit.out w5 ⟨xt, xm, xa, xb⟩).block X ((Array.getElem?_eq_some_iff.1 (HX5.out)).1)).trans HX5.out)).1) (fun e => HT5.out.x2 e.symm)).trans (((HLit.out w5 ⟨xt, xm, xa, xb⟩).block X ((Array.getElem?_eq_some_iff.1 (HX5.out)).1)).trans HX5.out)); have HB6 := Lib.hid ((HB5.out.trans ((HLit.out w5 ⟨xt, xm, xa, xb⟩).mono HB5.out.size)).grown hg6 (HB5.out.trans ((HLit.out w5 ⟨xt, xm, xa, xb⟩).mono HB5.out.size)).size (fun j hj => (HT5.out.o2.lt j hj).1)); obtain ⟨z0, z1, z2, z3, -⟩ := want_cells (q := ⟨xt, xm, xa, xb⟩) HX6.out; dsimp only at z0 z1 z2 z3; clear ho6 hg6 hat6)
                  | (refine step_appendW (by rfl) (.tmp 160) (.tmp 162) (by rfl) W4.heap.size _ M2 (by rfl) (HT5.out).o2 (W0.heap.size + 1) ⟨xt, xm, xa, xb⟩ (by rfl) (HNb.out) (by omega) (HB5.out).size ?_; intro v6 w6 ho6 hg6 hat6; have HT6 := Lib.hid ((HT5.out).app2 ((Array.getElem?_eq_some_iff.1 (HX5.out)).1) hg6 ho6 hat6); have HX6 := Lib.hid ((hg6.block X ((Array.getElem?_eq_some_iff.1 (HX5.out)).1) (fun e => HT5.out.x2 e.symm)).trans (HX5.out)); have HB6 := Lib.hid ((HB5.out).grown hg6 (HB5.out).size (fun j hj => (HT5.out.o2.lt j hj).1)); obtain ⟨z0, z1, z2, z3, -⟩ := want_cells (q := ⟨xt, xm, xa, xb⟩) HX6.out; dsimp only at z0 z1 z2 z3; clear ho6 hg6 hat6)
                  | (refine step_appendW (by rfl) (.tmp 160) (.tmp 162) (by rfl) W4.heap.size _ M2 (by rfl) (HT5.out).o2 (W0.heap.size) ⟨xt, xm, xa, xb⟩ (by rfl) (HNa.out) (by omega) (HB5.out).size ?_; intro v6 w6 ho6 hg6 hat6; have HT6 := Lib.hid ((HT5.out).app2 ((Array.getElem?_eq_some_iff.1 (HX5.out)).1) hg6 ho6 hat6); have HX6 := Lib.hid ((hg6.block X ((Array.getElem?_eq_some_iff.1 (HX5.out)).1) (fun e => HT5.out.x2 e.symm)).trans (HX5.out)); have HB6 := Lib.hid ((HB5.out).grown hg6 (HB5.out).size (fun j hj => (HT5.out.o2.lt j hj).1)); obtain ⟨z0, z1, z2, z3, -⟩ := want_cells (q := ⟨xt, xm, xa, xb⟩) HX6.out; dsimp only at z0 z1 z2 z3; clear ho6 hg6 hat6)
                  | fail))
              all_goals
                have HA7 := Lib.hid (HLit.out w6 ⟨xt, xm, xa, xb⟩)
                have HB7 := Lib.hid (HB6.out.trans (HA7.out.mono HB6.out.size))
                have HT7 := Lib.hid (HT6.out.below HA7.out)
                have HN7 := Lib.hid (World.alloc_heap_new w6 (.cells #[.int .i64 xt, .bool xm, .int .i64 xa, .int .i64 xb] 32))
                have hx7 := (Array.getElem?_eq_some_iff.1 HX6.out).1
                have hx8 := Nat.lt_of_lt_of_le hx7 HA7.out.size
                have HX8 := Lib.hid hx8
                clear hx8
                go_wp2_with (at_builtin; go_must (refine wpList_appendW_at rfl (.tmp 164) (.tmp 166) rfl W4.heap.size _ M3 rfl HT7.out.o3 w6.heap.size ⟨xt, xm, xa, xb⟩ rfl HN7.out (by omega) HB7.out.size ?_; intro v7 w7 ho7 hg7 hat7; have HT8 := Lib.hid (HT7.out.app3 HX8.out hg7 ho7 hat7); have HB8 := Lib.hid (HB7.out.grown hg7 HB7.out.size (fun j hj => (HT7.out.o3.lt j hj).1)); clear ho7 hg7 hat7))
                go_roundw
                case rel =>
                  have hfin : ∃ k' : Nat, k' ≤ W.length ∧ Value.int .i64 ((k : Int) + 1) = .int .i64 k' ∧ Tri W4.heap.size w2.heap.size v5 v6 v7 (lessW t (W.take k')) (tightW t ((bs.length : Int) + 1) ((bs.length : Int) + 1 + (by_ : Int)) (W.take k')) (withoutW t ((bs.length : Int) + 1) ((bs.length : Int) + 1 + (by_ : Int)) (W.take k')) w7 ∧ Below W4.heap.size W4 w7 := ⟨k + 1, by omega, by go_num, by rw [HQ1.out, HQ2.out, HQ3.out, HE1.out, HE2.out, HE3.out]; exact HT8.out.to _ hF4, HB8.out⟩
                  first | exact hfin | ((repeat apply Exists.intro); exact ⟨hfin, rfl, rfl, rfl, rfl, rfl⟩)
                case measure => simp [intOf]; omega
          · obtain rfl : k = W.length := by omega
            rw [List.take_length] at HTri
            have f0' := (hbel.cell (p := ⟨w2.heap.size, 0, none⟩) hF4).trans f0
            have hsF := Nat.lt_of_lt_of_le hF4 hbel.size
            have HR1 := Lib.hid HTri.out.o1.row
            have HR2 := Lib.hid HTri.out.o2.row
            have HR3 := Lib.hid HTri.out.o3.row
            have HWs := Lib.hid (HFb.out.trans (hbel.mono HFb.out.size))
            obtain ⟨ws, rfl⟩ : ∃ ws : World, ws = wr := ⟨_, rfl⟩
            generalize lessW t W = M1 at *
            generalize tightW t ((bs.length : Int) + 1) ((bs.length : Int) + 1 + (by_ : Int)) W = M2 at *
            generalize withoutW t ((bs.length : Int) + 1) ((bs.length : Int) + 1 + (by_ : Int)) W = M3 at *
            clear htri hbel HTri HBl hlt hk f0 f1
            go_wp2_with fail
            go_loopw [24, 193] (fun v i wr => ∃ k : Nat, k ≤ m.length ∧ i = .int .i64 k ∧ FShP (BRow w2) wr ws.heap.size v (restF t (m.take k)) ∧ Below ws.heap.size ws wr) (fun _ i _ => m.length - (intOf i).toNat)
            case atStart => exact ⟨0, Nat.zero_le _, rfl, fshp_nil _ _ _, Below.refl _ _⟩
            case round =>
              obtain ⟨k, hk, rfl, hsh, hbel⟩ := hrel
              have HSh := Lib.hid hsh
              clear hii
              have HBl := Lib.hid hbel
              by_cases hlt : k < m.length
              · obtain ⟨d1, d2, d3⟩ := HCell.out k hlt
                have hbw := HWs.out.trans (hbel.mono HWs.out.size)
                have d1' := (hbw.cell (p := ⟨bb, off + k * 2, none⟩) (block_lt_of_cell d1)).trans d1
                have d2' := (hbw.cell (p := ⟨bb, off + k * 2 + 1, none⟩) (block_lt_of_cell d2)).trans d2
                have f0'' := (hbel.cell (p := ⟨w2.heap.size, 0, none⟩) hsF).trans f0'
                have hkl : decide ((k : Int) < (m.length : Int)) = true := decide_eq_true (by omega)
                have HTk := Lib.hid (show restF t (m.take (k + 1)) = restF t (m.take k) ++ (if ft m k ≠ t then [(ft m k, fb m k)] else []) by rw [fld_take m k hlt, restF_snoc])
                have hrl : (restF t (m.take k)).length ≤ 20 := Nat.le_trans (List.length_filter_le _ _) (by rw [List.length_take]; omega)
                have HD4 := Lib.hid d3
                generalize ft m k = tk at *
                generalize fb m k = bk at *
                generalize A k = Ak at *
                generalize C k = Ck at *
                generalize restF t (m.take k) = Rk at *
                have HXb := Lib.hid ((Below.refl wr.heap.size wr).alloc (Nat.le_refl _) (.cells #[.int .i64 tk, .slice Ak bk.length Ck] 25))
                have HXn := Lib.hid (World.alloc_heap_new wr (.cells #[.int .i64 tk, .slice Ak bk.length Ck] 25))
                clear d1 d2 d3 hbel hsh hbw
                go_upto_region 37 with fail
                generalize wr.alloc (.cells #[.int .i64 tk, .slice Ak bk.length Ck] 25) = W0 at *
                have h0 := (HXb.out.cell (p := ⟨w2.heap.size, 0, none⟩) (Nat.lt_of_lt_of_le hsF HBl.out.size)).trans f0''
                have y0 : W0.cell? ⟨wr.heap.size, 0, none⟩ = some (.int .i64 tk) := by simp [World.cell?, HXn.out]
                have y1 : W0.cell? ⟨wr.heap.size, 1, none⟩ = some (.slice Ak bk.length Ck) := by simp [World.cell?, HXn.out]
                have HSh0 := Lib.hid (HSh.out.below HXb.out)
                have HB0 := Lib.hid (HBl.out.trans (HXb.out.mono HBl.out.size))
                clear d1' d2' f0''
                by_cases htk : tk = t
                · have e1 : (tk != t) = false := by rw [bne_eq_false_iff_eq]; exact htk
                  rw [if_neg (show ¬ tk ≠ t by omega), List.append_nil] at HTk
                  clear htk
                  go_wp2_with fail
                  go_roundw
                  case rel =>
                    have hfin : ∃ k' : Nat, k' ≤ m.length ∧ Value.int .i64 ((k : Int) + 1) = .int .i64 k' ∧ FShP (BRow w2) W0 ws.heap.size u24 (restF t (m.take k')) ∧ Below ws.heap.size ws W0 := ⟨k + 1, by omega, by go_num, by rw [HTk.out]; exact HSh0.out, HB0.out⟩
                    first | exact hfin | ((repeat apply Exists.intro); first | exact ⟨hfin, rfl⟩ | exact ⟨hfin, rfl, rfl, rfl⟩)
                  case measure => simp [intOf]; omega
                · have e1 : (tk != t) = true := by rw [bne_iff_ne]; exact htk
                  rw [if_pos htk] at HTk
                  clear htk
                  have HLb := Lib.hid ((Below.refl W0.heap.size W0).alloc (Nat.le_refl _) (.cells #[.int .i64 tk, .slice Ak bk.length Ck] 25))
                  have HS1 := Lib.hid (HSh0.out.below HLb.out)
                  have HB1 := Lib.hid (HB0.out.trans (HLb.out.mono HB0.out.size))
                  have HX := Lib.hid (lit_one (P := BRow w2) (w := W0) (t := tk) (a := Ak) (c := Ck) (l := bk) HD4.out)
                  go_wp2_with (at_builtin; go_must (refine wpList_appendP rfl _ _ rfl (BRow w2) ws.heap.size _ _ rfl HS1.out _ _ rfl HX.out (by simp; omega) HB1.out.size ?_; intro v6 w6 ho6 hg6; have HO6 := Lib.hid ho6; have HB6 := Lib.hid (HB1.out.grown hg6 HB1.out.size (fun k hk => (HS1.out.lt k hk).1)); clear ho6 hg6))
                  go_roundw
                  case rel =>
                    have hfin : ∃ k' : Nat, k' ≤ m.length ∧ Value.int .i64 ((k : Int) + 1) = .int .i64 k' ∧ FShP (BRow w2) w6 ws.heap.size v6 (restF t (m.take k')) ∧ Below ws.heap.size ws w6 := ⟨k + 1, by omega, by go_num, by rw [HTk.out]; exact HO6.out, HB6.out⟩
                    first | exact hfin | ((repeat apply Exists.intro); first | exact ⟨hfin, rfl⟩ | exact ⟨hfin, rfl, rfl, rfl⟩)
                  case measure => simp [intOf]; omega
              · obtain rfl : k = m.length := by omega
                rw [List.take_length] at HSh
                have HRr := Lib.hid (HSh.out.row (fun x l h => h.below (HWs.out.trans (hbel.mono HWs.out.size))) (right_tag64 HRt.out))
                have f0'' := (hbel.cell (p := ⟨w2.heap.size, 0, none⟩) hsF).trans f0'
                have hsG := Nat.lt_of_lt_of_le hsF hbel.size
                have HLx := Lib.hid (HL2.out.below (HWs.out.trans (hbel.mono HWs.out.size)))
                have HA := Lib.hid (suit_some _ u19 m M1 _ _ wr HLx.out (HR1.out.below hbel) HWl1.out)
                have HW9 := Lib.hid (HW2.out.trans ((HWs.out.trans (hbel.mono HWs.out.size)).mono HW2.out.size))
                clear hsh hbel hlt hk
                go_wp2_with fail
                refine HA.out.mono ?_
                rintro e w7 ⟨rfl, hb7⟩
                have HB7 := Lib.hid hb7
                have HA2 := Lib.hid (suit_some _ u20 m M2 _ _ w7 (HLx.out.below hb7) ((HR2.out.below HBl.out).below hb7) HWt1.out)
                clear hb7 HA
                go_wp2_with fail
                refine HA2.out.mono ?_
                rintro e w8 ⟨rfl, hb8⟩
                have HB8 := Lib.hid (HB7.out.trans (hb8.mono HB7.out.size))
                have HA3 := Lib.hid (suit_some u24 u21 (restF t m) M3 _ _ w8 (HRr.out.below HB8.out) ((HR3.out.below HBl.out).below HB8.out) HWw1.out)
                clear hb8 HA2 HB7
                go_wp2_with fail
                refine HA3.out.mono ?_
                rintro e w9 ⟨rfl, hb9⟩
                have HB9 := Lib.hid (HB8.out.trans (hb9.mono HB8.out.size))
                have g0 := (HB9.out.cell (p := ⟨w2.heap.size, 0, none⟩) hsG).trans f0''
                have HW10 := Lib.hid (HW9.out.trans (HB9.out.mono HW9.out.size))
                clear hb9 HA3 HB8
                go_wp2
                go_ret
                exact ⟨rfl, HW10.out⟩
end Go.Proofs.Ytlohggdabpfkhaa
