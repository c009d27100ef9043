/-
  THE WALK of fermatalaw02.FieldCuts: it returns true, and writes nothing that was there.
-/
import Derived.Test.YtfgiejeeolnhbaaCuts02
import Derived.Test.YtfgiejeeolnhbaaAwake02
import Derived.Deep.CutBlock
import Derived.Test.YtfgiejeeolnhbaaStep8
import Derived.Deep.DeepCutAuto
namespace Go.Proofs.Ytfgiejeeolnhbaa
open Go.RowKit Pl

set_option maxRecDepth 100000 in
set_option maxHeartbeats 8000000 in
theorem fieldCuts_walk (vp vt : Value) (p : List Nat) (T : List (List Nat)) (cut : Int) (w : World) (hp : BRow w vp p) (ht : TRow w vt T) (hc0 : 0 ≤ cut) (hc1 : cut < 65536) :
    Calls Try.prog 8 #[vp, vt, .int .u16 cut] w fun e w' => e = .returned (.bool true) ∧ Below w.heap.size w w' := by
  have HP := Lib.hid hp
  have HT := Lib.hid ht
  have HTa := Lib.hid ht.allB
  clear hp ht
  go_enter Try.func8, Try.ntmps8
  go_wp2_with fail
  refine (awake2_calls w).mono ?_
  rintro e w1 ⟨rfl, hb1⟩
  have HB1 := Lib.hid hb1
  clear hb1
  go_wp2_with fail
  refine (made_calls vp vt p T w1 (HP.out.below HB1.out) (HT.out.below HB1.out)).mono ?_
  rintro e w2 ⟨vl, rfl, hk, hb2⟩
  have HB2 := Lib.hid (HB1.out.trans (hb2.mono HB1.out.size))
  have HL := Lib.hid (made_row HTa.out hk)
  have hrl := madeF_right p T
  have hal := made_allB (gaps := p) HTa.out
  have hll := made_len p T
  have hlen : (madeF p T).length ≤ 20 := by unfold madeF; rw [madeU_length]; exact Nat.min_le_right _ _
  generalize madeF p T = l at *
  obtain ⟨la, lc, rfl⟩ : ∃ a c, vl = .slice a l.length c := by
    rcases HL.out.2 with ⟨a, c, e, e2, _⟩ | ⟨b, off, cap, A, C, e, _⟩
    · exact ⟨a, c, by rw [e2]; exact e⟩
    · exact ⟨_, _, e⟩
  have HRl := Lib.hid hrl
  have HAl := Lib.hid hal
  clear hb2 hk HB1 HP HT HTa hrl hal
  go_wp2_with fail
  refine (write_calls _ l _ HL.out).mono ?_
  rintro e w4 ⟨va, er, rfl, hb4, ⟨h, -, -⟩ | ⟨-, rfl, hown⟩⟩
  · rw [HRl.out] at h; cases h
  have HB4 := Lib.hid (HB2.out.trans (hb4.mono HB2.out.size))
  have HA4 := Lib.hid (BRow.of_own hown (right_allB HRl.out HAl.out))
  have HL4 := Lib.hid (HL.out.below hb4)
  obtain ⟨aa, ac, rfl⟩ := HA4.out.shape
  clear hb4 hown HB2 HL
  have hmod : (0 : Int) ≤ cut % (((recF l).length : Int) + 1) ∧ cut % (((recF l).length : Int) + 1) ≤ ((recF l).length : Int) := ⟨Int.emod_nonneg _ (by omega), by have := Int.emod_lt_of_pos cut (show (0 : Int) < ((recF l).length : Int) + 1 by omega); omega⟩
  obtain ⟨k, hk, hkl⟩ : ∃ k : Nat, cut % (((recF l).length : Int) + 1) = (k : Int) ∧ k ≤ (recF l).length := ⟨(cut % (((recF l).length : Int) + 1)).toNat, by omega, by omega⟩
  clear hmod
  go_upto_block 0 with fail
  rw [hk]
  go_cut [11, 12] (fun x y wx => x = .int .i64 ((recF (l.take (wholeF l k))).length : Nat) ∧ y = .int .i64 (wholeF l k : Nat) ∧ Below w4.heap.size w4 wx)
  case first =>
    go_wp2_with fail
    go_loopw [11, 12, 39] (fun x y i wr => ∃ j : Nat, j ≤ l.length ∧ i = .int .i64 j ∧ x = .int .i64 ((recF (l.take j)).length : Nat) ∧ y = .int .i64 j ∧ j ≤ wholeF l k ∧ Below w4.heap.size w4 wr) (fun _ _ i _ => l.length - (intOf i).toNat)
    case atStart => exact ⟨0, Nat.zero_le _, rfl, by simp [recF], rfl, Nat.zero_le _, Below.refl _ _⟩
    case round =>
      obtain ⟨j, hj, rfl, rfl, rfl, hjw, hbel⟩ := hrel
      have HB := Lib.hid hbel
      by_cases hlt : j < l.length
      · obtain ⟨-, ⟨_, _, _, e, _⟩ | ⟨b, off, cap, A, C, e, hc, hm, hcell⟩⟩ := HL4.out
        · rw [e] at hlt; simp at hlt
        simp only [Value.slice.injEq, true_and] at e
        obtain ⟨rfl, rfl⟩ := e
        obtain ⟨c1, c2, -⟩ := hcell j hlt
        have hcs : (l.length : Int) ≤ 9223372036854775807 := by omega
        have hfb := (right_lens HRl.out).2 j hlt
        have hfl := form_length (fb l j).length
        have hnl := next_length l j hlt
        have hwi := whole_iff l k (j + 1) (by omega)
        have hrt : (recF (l.take j)).length ≤ k := (whole_iff l k j hj).2 hjw
        generalize A j = A1 at c2
        generalize C j = C1 at c2
        have c1' := (hbel.cell (p := ⟨b, off + j * 2, none⟩) (block_lt_of_cell c1)).trans c1
        have c2' := (hbel.cell (p := ⟨b, off + j * 2 + 1, none⟩) (block_lt_of_cell c2)).trans c2
        have HNl := Lib.hid hnl
        have HWi := Lib.hid hwi
        have hsz : ∀ W, _ := fun W => size_calls (fb l j).length W (by omega)
        have HSz := Lib.hid hsz
        have hbl : (fb l j).length < 18446744073709551616 := by omega
        have hwu : IntKind.u64.wrap ((fb l j).length : Int) = ((fb l j).length : Int) := IntWalk.u64_in _ ⟨by omega, by omega⟩
        generalize ft l j = t at *
        generalize fb l j = bs at *
        generalize (form bs.length).length = fl at *
        obtain ⟨b0, hb0⟩ : ∃ b0, (recF (l.take j)).length = b0 := ⟨_, rfl⟩
        rw [hb0] at hnl hrt HNl ⊢
        have HN := Lib.hid (World.alloc_heap_new wr (.cells #[.int .i64 t, .slice A1 bs.length C1] 33))
        have HWd := Lib.hid (HB.out.alloc HB.out.size (.cells #[.int .i64 t, .slice A1 bs.length C1] 33)).drew
        have Hb0 := Lib.hid hb0
        have HHc := Lib.hid hcell
        clear c1 c2 hbel hcell hsz hwi hb0
        by_cases hnx : b0 + 1 + fl + bs.length ≤ k
        · go_wp2_with fail
          go_region_law (first
            | (go_simp; go_at_call 16; refine (HSz.out _).mono ?_; rintro e w5 ⟨rfl, hb5⟩; have hN5 := (hb5.block wr.heap.size (by simp)).trans HN.out; have e1 : w5.cell? ⟨wr.heap.size, 1, none⟩ = some (.slice A1 bs.length C1) := (by simp [World.cell?, hN5]); have HB5 := Lib.hid (HWd.out.trans (hb5.mono HWd.out.size)); clear hb5 hN5)
            | fail)
          all_goals
            go_wp2
            go_roundw
            case rel =>
              have hfin : ∃ j' : Nat, j' ≤ l.length ∧ Value.int .i64 ((j : Int) + 1) = .int .i64 j' ∧ Value.int .i64 ((b0 : Int) + 1 + (fl : Int) + (bs.length : Int)) = .int .i64 ((recF (l.take j')).length : Nat) ∧ Value.int .i64 ((j : Int) + 1) = .int .i64 j' ∧ j' ≤ wholeF l k ∧ Below w4.heap.size w4 w5 := ⟨j + 1, by omega, by go_num, by rw [HNl.out]; congr 1, by go_num, HWi.out.1 (by rw [HNl.out]; exact hnx), HB5.out⟩
              first | exact hfin | ((repeat apply Exists.intro); exact ⟨hfin, rfl⟩)
            case measure => simp [intOf]; omega
        · have hwj : wholeF l k = j := by
            have h1 : ¬ j + 1 ≤ wholeF l k := fun h => hnx (by have := HWi.out.2 h; rw [HNl.out] at this; exact this)
            omega
          have HWj := Lib.hid hwj
          clear hwj
          go_wp2_with fail
          go_region_law (first
            | (go_simp; go_at_call 16; refine (HSz.out _).mono ?_; rintro e w5 ⟨rfl, hb5⟩; have hN5 := (hb5.block wr.heap.size (by simp)).trans HN.out; have e1 : w5.cell? ⟨wr.heap.size, 1, none⟩ = some (.slice A1 bs.length C1) := (by simp [World.cell?, hN5]); have HB5 := Lib.hid (HWd.out.trans (hb5.mono HWd.out.size)); clear hb5 hN5)
            | fail)
          all_goals
            go_wp2_with fail
            go_meet
            exact ⟨by rw [HWj.out, Hb0.out], by rw [HWj.out], HB5.out⟩
      · obtain rfl : j = l.length := by omega
        have hwj : wholeF l k = l.length := by have := wholeF_le l k; omega
        have HWj := Lib.hid hwj
        clear hwj hbel
        go_wp2_with fail
        go_meet
        exact ⟨by rw [HWj.out], by rw [HWj.out], HB.out⟩
  case rest =>
    obtain ⟨rfl, rfl, hbc⟩ := hcut
    have hac : (recF l).length ≤ ac := by
      obtain ⟨_, ⟨_, _, e, e2, _⟩ | ⟨_, _, _, e, h1, _⟩⟩ := HA4.out
      · rw [e2]; exact Nat.zero_le _
      · cases e; exact h1
    have hk1 : (0 : Int) ≤ (k : Int) := by omega
    have hk2 : (k : Int) ≤ (ac : Int) := by omega
    have hwl := wholeF_le l k
    have hw1 : (0 : Int) ≤ ((wholeF l k : Nat) : Int) := by omega
    obtain ⟨rc1, rc2⟩ := read_cut l HRl.out k hkl
    have HRow := Lib.hid ((HA4.out.headW k hkl).below hbc)
    have HBc := Lib.hid (HB4.out.trans (hbc.mono HB4.out.size))
    have HLc := Lib.hid (HL4.out.below hbc)
    have HAc := Lib.hid (HA4.out.below hbc)
    have HLh := Lib.hid (fun j (hj : j ≤ l.length) => HL4.out.head j hj)
    have hlc : l.length ≤ lc := by
      rcases HL4.out.2 with ⟨_, _, e, e2, _⟩ | ⟨_, _, _, _, _, e, h1, _⟩
      · rw [e2]; exact Nat.zero_le _
      · cases e; exact h1
    have hw2 : ((wholeF l k : Nat) : Int) ≤ (lc : Int) := by omega
    have hkt : ((recF l).take k).length = k := by rw [List.length_take]; omega
    have hFR := fieldRead_calls _ _ _ HRow.out (by omega)
    have HFR := Lib.hid hFR
    have htake := right_lens HRl.out
    clear hbc HB4 HA4 hFR
    obtain ⟨b0, hb0⟩ : ∃ b0, (recF (l.take (wholeF l k))).length = b0 := ⟨_, rfl⟩
    rw [hb0] at rc1 rc2 ⊢
    generalize (recF l).take k = cb at *
    subst hkt
    by_cases hbk : b0 = cb.length
    · obtain ⟨hn1, hn2⟩ := rc1 hbk
      have HN1 := Lib.hid hn1; have HN2 := Lib.hid hn2
      clear rc1 rc2 hn1 hn2
      subst hbk
      go_wp2_with fail
      refine HFR.out.mono ?_
      rintro e w5 ⟨hb5, ⟨at0, hat, -⟩ | ⟨-, vr, rfl, hfo⟩⟩
      · rw [HN1.out] at hat; cases hat
      rw [HN2.out] at hfo
      have hfr := hfo.row (fun q hq => right_tag64 HRl.out q (List.mem_of_mem_take hq)) (fun i hi => fb_mem_allB (fun q hq => HAl.out q (List.mem_of_mem_take hq)) i hi)
      have HPart := Lib.hid hfr
      have HB5 := Lib.hid (HBc.out.trans (hb5.mono HBc.out.size))
      have HL5 := Lib.hid (HLc.out.below hb5)
      have HA5 := Lib.hid (HAc.out.below hb5)
      have htk : (l.take (wholeF l cb.length)).length ≤ 64 := by rw [List.length_take]; omega
      have hfbk : ∀ i < (l.take (wholeF l cb.length)).length, (fb (l.take (wholeF l cb.length)) i).length ≤ 140737488355000 := fun i hi => by
        have hi2 : i < wholeF l cb.length := by rw [List.length_take] at hi; omega
        have e2 : fb (l.take (wholeF l cb.length)) i = fb l i := by simp [fb, List.getD_eq_getElem?_getD, hi2]
        rw [e2]; have := htake.2 i (by omega); omega
      clear hb5 hfo hfr HBc HLc HAc
      go_wp2_with fail
      refine (alike_calls _ _ _ _ _ HPart.out (HL5.out.head _ hwl) (by omega) hfbk).mono ?_
      rintro e W5 ⟨rfl, hb6⟩
      rw [decide_eq_true rfl]
      have HBt := Lib.hid (HB5.out.trans (hb6.mono HB5.out.size))
      have HLt := Lib.hid (HL5.out.below hb6)
      have HAt := Lib.hid (HA5.out.below hb6)
      clear hb6 HB5 HL5 HA5 HPart
      by_cases hl0 : l.length = 0
      · have hz : ((l.length : Int) == 0) = true := by rw [beq_iff_eq]; omega
        go_wp2_with fail
        go_ret
        exact ⟨rfl, HBt.out⟩
      have hz : ((l.length : Int) == 0) = false := by rw [beq_eq_false_iff_ne]; omega
      obtain ⟨pt, L2, hl2⟩ : ∃ p L2, l = p :: L2 := by
        cases l with
        | nil => simp at hl0
        | cons p L2 => exact ⟨p, L2, rfl⟩
      have htg := right_tags HRl.out pt (by rw [hl2]; simp)
      have hft : ft l 0 = pt.1 := by rw [hl2]; rfl
      have htw := read_twice pt L2 (by rw [← hl2]; exact HRl.out)
      rw [← hl2] at htw
      obtain ⟨t, htn⟩ : ∃ t : Nat, pt.1 = t := ⟨pt.1.toNat, by omega⟩
      obtain ⟨-, ⟨_, _, _, e, _⟩ | ⟨b, off, cap, A, C, e, hc, hm, hcell⟩⟩ := HLt.out
      · rw [e] at hl0; simp at hl0
      simp only [Value.slice.injEq, true_and] at e
      obtain ⟨rfl, rfl⟩ := e
      obtain ⟨c1, -, -⟩ := hcell 0 (by omega)
      rw [hft, htn] at c1
      rw [htn, Int.toNat_natCast] at htw
      rw [htn] at htg
      have c0 : W5.cell? ⟨b, off, none⟩ = some (.int .i64 (t : Nat)) := by simpa using c1
      have hw8 : IntKind.u8.wrap (t : Int) = t := IntWalk.u8_in _ ⟨by omega, by omega⟩
      have hblt : b < W5.heap.size := block_lt_of_cell c0
      have hpos : (0 : Int) < (l.length : Int) := by omega
      have HTw := Lib.hid htw
      have hT2 : AllB [t, 0] := by intro d hd; simp at hd; omega
      have HT2 := Lib.hid hT2
      have HB2 := Lib.hid (show AllB (recF l ++ [t, 0]) from by intro d hd; rcases List.mem_append.1 hd with h | h; exact HAt.out.1 d h; exact hT2 d h)
      have HL2 := Lib.hid hl2
      clear hcell c1 htw hft hT2 hl2
      go_wp2_with fail
      have hposN : 0 < l.length := by omega
      go_region_law (first
        | (refine step_append8 rfl (.tmp 103) (.tmp 104) (by rfl) W5.heap.size _ [] (by first | rfl | simp [Act.eval, Act.put]) (own8_emptyAt (X := (W5.alloc (.cells #[] 5)).drew) (g := W5.heap.size) (World.alloc_heap_new W5 _) (by omega)) _ (recF l) (by first | rfl | simp [Act.eval, Act.put]) (HAt.out.below (((Below.refl W5.heap.size W5).alloc (Nat.le_refl _) _).drew)) (by simp; omega) (by first | (simp; done) | (simp; omega)) ?_; intro v6 w6 hown6 hg6; have hc6 := cut_cell hg6 (show ((W5.alloc (.cells #[] 5)).drew).cell? ⟨b, off, none⟩ = some (.int .i64 (t : Nat)) by have h := cell_alloc' c0 (.cells #[] 5); exact h) (show b ≠ W5.heap.size by omega); have HO6 := Lib.hid hown6; have HB6 := Lib.hid (Below.grown (((Below.refl W5.heap.size W5).alloc (Nat.le_refl _) _).drew) hg6 (Below.size (((Below.refl W5.heap.size W5).alloc (Nat.le_refl _) _).drew)) (fun j hj => by simp [Value.ownBlock] at hj; omega)); clear hown6 hg6)
        | (refine step_append8 rfl (.tmp 103) (.tmp 104) (by rfl) W5.heap.size _ [] (by first | rfl | simp [Act.eval, Act.put]) (own8_emptyAt (X := ((W5.alloc (.cells #[] 5)).alloc (.cells #[.int .u8 (t : Nat), .int .u8 0] 5)).drew) (g := W5.heap.size) ((heap_alloc_old (W5.alloc (.cells #[] 5)) (.cells #[.int .u8 (t : Nat), .int .u8 0] 5) (by simp)).trans (World.alloc_heap_new W5 _)) (by omega)) _ (recF l) (by first | rfl | simp [Act.eval, Act.put]) (HAt.out.below ((((Below.refl W5.heap.size W5).alloc (Nat.le_refl _) _).alloc (by simp) _).drew)) (by simp; omega) (by first | (simp; done) | (simp; omega)) ?_; intro v6 w6 hown6 hg6; have hc6 := cut_cell hg6 (show (((W5.alloc (.cells #[] 5)).alloc (.cells #[.int .u8 (t : Nat), .int .u8 0] 5)).drew).cell? ⟨b, off, none⟩ = some (.int .i64 (t : Nat)) by have h := cell_alloc' (cell_alloc' c0 (.cells #[] 5)) (.cells #[.int .u8 (t : Nat), .int .u8 0] 5); exact h) (show b ≠ W5.heap.size by omega); have HO6 := Lib.hid hown6; have HB6 := Lib.hid (Below.grown ((((Below.refl W5.heap.size W5).alloc (Nat.le_refl _) _).alloc (by simp) _).drew) hg6 (Below.size ((((Below.refl W5.heap.size W5).alloc (Nat.le_refl _) _).alloc (by simp) _).drew)) (fun j hj => by simp [Value.ownBlock] at hj; omega)); have HTB := Lib.hid (cut_row hg6 (show BRow (((W5.alloc (.cells #[] 5)).alloc (.cells #[.int .u8 (t : Nat), .int .u8 0] 5)).drew) (.slice (some ⟨W5.heap.size + 1, 0, none⟩) 2 2) [t, 0] from BRow.litAt (W5.alloc (.cells #[] 5)) [t, 0] _ _ _ _ rfl (by simp) rfl HT2.out (by simp)) (show W5.heap.size + 1 ≠ W5.heap.size by omega)); clear hown6 hg6)
        | (refine step_append8 rfl (.tmp 103) (.tmp 104) (by rfl) W5.heap.size _ [] (by first | rfl | simp [Act.eval, Act.put]) (own8_emptyAt (X := ((W5.alloc (.cells #[.int .u8 (t : Nat), .int .u8 0] 5)).alloc (.cells #[] 5)).drew) (g := W5.heap.size + 1) (by have := World.alloc_heap_new (W5.alloc (.cells #[.int .u8 (t : Nat), .int .u8 0] 5)) (.cells #[] 5); rw [World.size_alloc] at this; exact this) (by omega)) _ (recF l) (by first | rfl | simp [Act.eval, Act.put]) (HAt.out.below ((((Below.refl W5.heap.size W5).alloc (Nat.le_refl _) _).alloc (by simp) _).drew)) (by simp; omega) (by first | (simp; done) | (simp; omega)) ?_; intro v6 w6 hown6 hg6; have hc6 := cut_cell hg6 (show (((W5.alloc (.cells #[.int .u8 (t : Nat), .int .u8 0] 5)).alloc (.cells #[] 5)).drew).cell? ⟨b, off, none⟩ = some (.int .i64 (t : Nat)) by have h := cell_alloc' (cell_alloc' c0 (.cells #[.int .u8 (t : Nat), .int .u8 0] 5)) (.cells #[] 5); exact h) (show b ≠ W5.heap.size + 1 by omega); have HO6 := Lib.hid hown6; have HB6 := Lib.hid (Below.grown ((((Below.refl W5.heap.size W5).alloc (Nat.le_refl _) _).alloc (by simp) _).drew) hg6 (Below.size ((((Below.refl W5.heap.size W5).alloc (Nat.le_refl _) _).alloc (by simp) _).drew)) (fun j hj => by simp [Value.ownBlock] at hj; omega)); have HTB := Lib.hid (cut_row hg6 (show BRow (((W5.alloc (.cells #[.int .u8 (t : Nat), .int .u8 0] 5)).alloc (.cells #[] 5)).drew) (.slice (some ⟨W5.heap.size, 0, none⟩) 2 2) [t, 0] from (BRow.litAt W5 [t, 0] 5 #[.int .u8 (t : Nat), .int .u8 0] W5.heap.size 2 rfl rfl rfl HT2.out (by simp)).below (((Below.refl (W5.alloc (.cells #[.int .u8 (t : Nat), .int .u8 0] 5)).heap.size (W5.alloc (.cells #[.int .u8 (t : Nat), .int .u8 0] 5))).alloc (Nat.le_refl _) (.cells #[] 5)).drew)) (show W5.heap.size ≠ W5.heap.size + 1 by omega)); clear hown6 hg6)
        | (refine step_append8 rfl (.tmp 105) (.tmp 111) (by rfl) W5.heap.size _ ([] ++ recF l) (by first | rfl | simp [Act.eval, Act.put]) HO6.out _ [t, 0] (by first | rfl | simp [Act.eval, Act.put]) HTB.out (by simp; omega) HB6.out.size ?_; intro v7 w7 hown7 hg7; have HO7 := Lib.hid hown7; have HB7 := Lib.hid (HB6.out.grown hg7 HB6.out.size (fun j hj => (HO6.out.lt j hj).1)); clear hown7 hg7)
        | (refine step_append8 rfl (.tmp 105) (.tmp 111) (by rfl) W5.heap.size _ ([] ++ recF l) (by first | rfl | simp [Act.eval, Act.put]) (HO6.out.alloc (.cells #[.int .u8 (t : Nat), .int .u8 0] 5)) _ [t, 0] (by first | rfl | simp [Act.eval, Act.put]) (BRow.litAt w6 [t, 0] _ _ _ _ rfl rfl rfl HT2.out (by simp)) (by simp; omega) (HB6.out.alloc HB6.out.size (.cells #[.int .u8 (t : Nat), .int .u8 0] 5)).size ?_; intro v7 w7 hown7 hg7; have HO7 := Lib.hid hown7; have HB7 := Lib.hid ((HB6.out.alloc HB6.out.size (.cells #[.int .u8 (t : Nat), .int .u8 0] 5)).grown hg7 (HB6.out.alloc HB6.out.size (.cells #[.int .u8 (t : Nat), .int .u8 0] 5)).size (fun j hj => (HO6.out.lt j hj).1)); clear hown7 hg7)
        | (go_simp; go_at_call 25; refine (fieldRead_calls _ (recF l ++ [t, 0]) _ (BRow.of_own HO7.out HB2.out) (by simp; omega)).mono ?_; rintro e w8 ⟨hb8, hh⟩; obtain ⟨at0, hat, rfl⟩ : ∃ at0, readE (recF l ++ [t, 0]) = some at0 ∧ e = .returned (.tuple #[.slice none 0 0, .int .i64 (at0 : Nat), .int .i64 21]) := (by rcases hh with h | ⟨h, -⟩; exact h; rw [HTw.out] at h; cases h); rw [HTw.out] at hat; cases hat; have HB8 := Lib.hid (HBt.out.trans ((HB7.out.trans (hb8.mono HB7.out.size)).mono HBt.out.size)); clear hb8 hh)
        | fail)
      all_goals
        go_wp2
        go_ret
        exact ⟨rfl, HB8.out⟩
    · have HN := Lib.hid (rc2 hbk)
      have hbq : ((b0 : Int) == (cb.length : Int)) = false := by rw [beq_eq_false_iff_ne]; omega
      clear rc1 rc2
      go_wp2_with fail
      refine HFR.out.mono ?_
      rintro e W5 ⟨hb5, ⟨at0, hat, rfl⟩ | ⟨hn, -⟩⟩
      · rw [HN.out] at hat; cases hat
        have HBt := Lib.hid (HBc.out.trans (hb5.mono HBc.out.size))
        have HLt := Lib.hid (HLc.out.below hb5)
        have HAt := Lib.hid (HAc.out.below hb5)
        clear hb5 HBc HLc HAc
        by_cases hl0 : l.length = 0
        · have hz : ((l.length : Int) == 0) = true := by rw [beq_iff_eq]; omega
          go_wp2_with fail
          go_ret
          exact ⟨rfl, HBt.out⟩
        have hz : ((l.length : Int) == 0) = false := by rw [beq_eq_false_iff_ne]; omega
        obtain ⟨pt, L2, hl2⟩ : ∃ p L2, l = p :: L2 := by
          cases l with
          | nil => simp at hl0
          | cons p L2 => exact ⟨p, L2, rfl⟩
        have htg := right_tags HRl.out pt (by rw [hl2]; simp)
        have hft : ft l 0 = pt.1 := by rw [hl2]; rfl
        have htw := read_twice pt L2 (by rw [← hl2]; exact HRl.out)
        rw [← hl2] at htw
        obtain ⟨t, htn⟩ : ∃ t : Nat, pt.1 = t := ⟨pt.1.toNat, by omega⟩
        obtain ⟨-, ⟨_, _, _, e, _⟩ | ⟨b, off, cap, A, C, e, hc, hm, hcell⟩⟩ := HLt.out
        · rw [e] at hl0; simp at hl0
        simp only [Value.slice.injEq, true_and] at e
        obtain ⟨rfl, rfl⟩ := e
        obtain ⟨c1, -, -⟩ := hcell 0 (by omega)
        rw [hft, htn] at c1
        rw [htn, Int.toNat_natCast] at htw
        rw [htn] at htg
        have c0 : W5.cell? ⟨b, off, none⟩ = some (.int .i64 (t : Nat)) := by simpa using c1
        have hw8 : IntKind.u8.wrap (t : Int) = t := IntWalk.u8_in _ ⟨by omega, by omega⟩
        have hblt : b < W5.heap.size := block_lt_of_cell c0
        have hpos : (0 : Int) < (l.length : Int) := by omega
        have HTw := Lib.hid htw
        have hT2 : AllB [t, 0] := by intro d hd; simp at hd; omega
        have HT2 := Lib.hid hT2
        have HB2 := Lib.hid (show AllB (recF l ++ [t, 0]) from by intro d hd; rcases List.mem_append.1 hd with h | h; exact HAt.out.1 d h; exact hT2 d h)
        have HL2 := Lib.hid hl2
        clear hcell c1 htw hft hT2 hl2
        go_wp2_with fail
        have hposN : 0 < l.length := by omega
        go_region_law (first
          | (refine step_append8 rfl (.tmp 103) (.tmp 104) (by rfl) W5.heap.size _ [] (by first | rfl | simp [Act.eval, Act.put]) (own8_emptyAt (X := (W5.alloc (.cells #[] 5)).drew) (g := W5.heap.size) (World.alloc_heap_new W5 _) (by omega)) _ (recF l) (by first | rfl | simp [Act.eval, Act.put]) (HAt.out.below (((Below.refl W5.heap.size W5).alloc (Nat.le_refl _) _).drew)) (by simp; omega) (by first | (simp; done) | (simp; omega)) ?_; intro v6 w6 hown6 hg6; have hc6 := cut_cell hg6 (show ((W5.alloc (.cells #[] 5)).drew).cell? ⟨b, off, none⟩ = some (.int .i64 (t : Nat)) by have h := cell_alloc' c0 (.cells #[] 5); exact h) (show b ≠ W5.heap.size by omega); have HO6 := Lib.hid hown6; have HB6 := Lib.hid (Below.grown (((Below.refl W5.heap.size W5).alloc (Nat.le_refl _) _).drew) hg6 (Below.size (((Below.refl W5.heap.size W5).alloc (Nat.le_refl _) _).drew)) (fun j hj => by simp [Value.ownBlock] at hj; omega)); clear hown6 hg6)
          | (refine step_append8 rfl (.tmp 103) (.tmp 104) (by rfl) W5.heap.size _ [] (by first | rfl | simp [Act.eval, Act.put]) (own8_emptyAt (X := ((W5.alloc (.cells #[] 5)).alloc (.cells #[.int .u8 (t : Nat), .int .u8 0] 5)).drew) (g := W5.heap.size) ((heap_alloc_old (W5.alloc (.cells #[] 5)) (.cells #[.int .u8 (t : Nat), .int .u8 0] 5) (by simp)).trans (World.alloc_heap_new W5 _)) (by omega)) _ (recF l) (by first | rfl | simp [Act.eval, Act.put]) (HAt.out.below ((((Below.refl W5.heap.size W5).alloc (Nat.le_refl _) _).alloc (by simp) _).drew)) (by simp; omega) (by first | (simp; done) | (simp; omega)) ?_; intro v6 w6 hown6 hg6; have hc6 := cut_cell hg6 (show (((W5.alloc (.cells #[] 5)).alloc (.cells #[.int .u8 (t : Nat), .int .u8 0] 5)).drew).cell? ⟨b, off, none⟩ = some (.int .i64 (t : Nat)) by have h := cell_alloc' (cell_alloc' c0 (.cells #[] 5)) (.cells #[.int .u8 (t : Nat), .int .u8 0] 5); exact h) (show b ≠ W5.heap.size by omega); have HO6 := Lib.hid hown6; have HB6 := Lib.hid (Below.grown ((((Below.refl W5.heap.size W5).alloc (Nat.le_refl _) _).alloc (by simp) _).drew) hg6 (Below.size ((((Below.refl W5.heap.size W5).alloc (Nat.le_refl _) _).alloc (by simp) _).drew)) (fun j hj => by simp [Value.ownBlock] at hj; omega)); have HTB := Lib.hid (cut_row hg6 (show BRow (((W5.alloc (.cells #[] 5)).alloc (.cells #[.int .u8 (t : Nat), .int .u8 0] 5)).drew) (.slice (some ⟨W5.heap.size + 1, 0, none⟩) 2 2) [t, 0] from BRow.litAt (W5.alloc (.cells #[] 5)) [t, 0] _ _ _ _ rfl (by simp) rfl HT2.out (by simp)) (show W5.heap.size + 1 ≠ W5.heap.size by omega)); clear hown6 hg6)
          | (refine step_append8 rfl (.tmp 103) (.tmp 104) (by rfl) W5.heap.size _ [] (by first | rfl | simp [Act.eval, Act.put]) (own8_emptyAt (X := ((W5.alloc (.cells #[.int .u8 (t : Nat), .int .u8 0] 5)).alloc (.cells #[] 5)).drew) (g := W5.heap.size + 1) (by have := World.alloc_heap_new (W5.alloc (.cells #[.int .u8 (t : Nat), .int .u8 0] 5)) (.cells #[] 5); rw [World.size_alloc] at this; exact this) (by omega)) _ (recF l) (by first | rfl | simp [Act.eval, Act.put]) (HAt.out.below ((((Below.refl W5.heap.size W5).alloc (Nat.le_refl _) _).alloc (by simp) _).drew)) (by simp; omega) (by first | (simp; done) | (simp; omega)) ?_; intro v6 w6 hown6 hg6; have hc6 := cut_cell hg6 (show (((W5.alloc (.cells #[.int .u8 (t : Nat), .int .u8 0] 5)).alloc (.cells #[] 5)).drew).cell? ⟨b, off, none⟩ = some (.int .i64 (t : Nat)) by have h := cell_alloc' (cell_alloc' c0 (.cells #[.int .u8 (t : Nat), .int .u8 0] 5)) (.cells #[] 5); exact h) (show b ≠ W5.heap.size + 1 by omega); have HO6 := Lib.hid hown6; have HB6 := Lib.hid (Below.grown ((((Below.refl W5.heap.size W5).alloc (Nat.le_refl _) _).alloc (by simp) _).drew) hg6 (Below.size ((((Below.refl W5.heap.size W5).alloc (Nat.le_refl _) _).alloc (by simp) _).drew)) (fun j hj => by simp [Value.ownBlock] at hj; omega)); have HTB := Lib.hid (cut_row hg6 (show BRow (((W5.alloc (.cells #[.int .u8 (t : Nat), .int .u8 0] 5)).alloc (.cells #[] 5)).drew) (.slice (some ⟨W5.heap.size, 0, none⟩) 2 2) [t, 0] from (BRow.litAt W5 [t, 0] 5 #[.int .u8 (t : Nat), .int .u8 0] W5.heap.size 2 rfl rfl rfl HT2.out (by simp)).below (((Below.refl (W5.alloc (.cells #[.int .u8 (t : Nat), .int .u8 0] 5)).heap.size (W5.alloc (.cells #[.int .u8 (t : Nat), .int .u8 0] 5))).alloc (Nat.le_refl _) (.cells #[] 5)).drew)) (show W5.heap.size ≠ W5.heap.size + 1 by omega)); clear hown6 hg6)
          | (refine step_append8 rfl (.tmp 105) (.tmp 111) (by rfl) W5.heap.size _ ([] ++ recF l) (by first | rfl | simp [Act.eval, Act.put]) HO6.out _ [t, 0] (by first | rfl | simp [Act.eval, Act.put]) HTB.out (by simp; omega) HB6.out.size ?_; intro v7 w7 hown7 hg7; have HO7 := Lib.hid hown7; have HB7 := Lib.hid (HB6.out.grown hg7 HB6.out.size (fun j hj => (HO6.out.lt j hj).1)); clear hown7 hg7)
          | (refine step_append8 rfl (.tmp 105) (.tmp 111) (by rfl) W5.heap.size _ ([] ++ recF l) (by first | rfl | simp [Act.eval, Act.put]) (HO6.out.alloc (.cells #[.int .u8 (t : Nat), .int .u8 0] 5)) _ [t, 0] (by first | rfl | simp [Act.eval, Act.put]) (BRow.litAt w6 [t, 0] _ _ _ _ rfl rfl rfl HT2.out (by simp)) (by simp; omega) (HB6.out.alloc HB6.out.size (.cells #[.int .u8 (t : Nat), .int .u8 0] 5)).size ?_; intro v7 w7 hown7 hg7; have HO7 := Lib.hid hown7; have HB7 := Lib.hid ((HB6.out.alloc HB6.out.size (.cells #[.int .u8 (t : Nat), .int .u8 0] 5)).grown hg7 (HB6.out.alloc HB6.out.size (.cells #[.int .u8 (t : Nat), .int .u8 0] 5)).size (fun j hj => (HO6.out.lt j hj).1)); clear hown7 hg7)
          | (go_simp; go_at_call 25; refine (fieldRead_calls _ (recF l ++ [t, 0]) _ (BRow.of_own HO7.out HB2.out) (by simp; omega)).mono ?_; rintro e w8 ⟨hb8, hh⟩; obtain ⟨at0, hat, rfl⟩ : ∃ at0, readE (recF l ++ [t, 0]) = some at0 ∧ e = .returned (.tuple #[.slice none 0 0, .int .i64 (at0 : Nat), .int .i64 21]) := (by rcases hh with h | ⟨h, -⟩; exact h; rw [HTw.out] at h; cases h); rw [HTw.out] at hat; cases hat; have HB8 := Lib.hid (HBt.out.trans ((HB7.out.trans (hb8.mono HB7.out.size)).mono HBt.out.size)); clear hb8 hh)
          | fail)
        all_goals
          go_wp2
          go_ret
          exact ⟨rfl, HB8.out⟩
      · rw [HN.out] at hn; cases hn
end Go.Proofs.Ytfgiejeeolnhbaa
