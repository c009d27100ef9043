/-
  THE WALK of fermatalaw03.FrameCuts: it returns true; nothing that was there is written.
-/
import Derived.Test.YtlohggdabpfkhaaPlayed2
namespace Go.Proofs.Ytlohggdabpfkhaa
open Go.RowKit Go.Shelf Pl

theorem SAt.other {w w' : World} {g k st fr : Nat} {h : Value} (s : SAt w g st fr h) (hg : w.grownBy w' (some k)) (hne : g ≠ k) : SAt w' g st fr h :=
  (hg.block g s.lt (by simpa using hne)).trans s
theorem row_sat {w w' : World} {k st fr base n : Nat} {h v : Value} {V : List Value} (hr : w.ownsRow base 23 1 v n V) (s : SAt w k st fr h) (hg : w.grownBy w' (some k)) : w'.ownsRow base 23 1 v n V := by
  refine hr.kept hg ?_
  rcases hr.2 with ⟨rfl, _⟩ | ⟨g, cap, cur, rfl, _, q, _⟩
  · exact .inl rfl
  · refine .inr fun e => ?_
    have e2 : g = k := by simpa [Value.ownBlock] using e
    rw [e2, show w.heap[k]? = _ from s] at q
    simp at q
theorem own8_sat {w w' : World} {k st fr base : Nat} {h v : Value} {l : List Nat} (hr : Own8 w base v l) (s : SAt w k st fr h) (hg : w.grownBy w' (some k)) : Own8 w' base v l := by
  refine hr.kept hg ?_
  rcases hr.2 with ⟨e, _⟩ | ⟨g, cap, cur, e, _, q, _⟩
  · rw [e]; exact .inl rfl
  · rw [e]
    refine .inr fun e => ?_
    have e2 : g = k := by simpa [Value.ownBlock] using e
    rw [e2, show w.heap[k]? = _ from s] at q
    simp at q
theorem mval_sat {w w' : World} {k st fr base : Nat} {h : Value} {V : List Value} {L : List (List Nat)} (hr : MVal w base V L) (s : SAt w k st fr h) (hg : w.grownBy w' (some k)) : MVal w' base V L :=
  hr.keep hg fun r c t e hh => by cases e; rw [show w.heap[k]? = _ from s] at hh; cases hh; decide
/-- A new stream gets all at once. -/
theorem feed_new (g : Nat) (bv : Value) (b : List Nat) (w : World) (s : SAt w g 1 0 (.slice none 0 0)) (hb : BRow w bv b) (hlen : b.length ≤ 500000) :
    Calls Try.prog 45 #[.pointer (some ⟨g, 0, none⟩), bv] w (PlyP w g b) := by
  refine (feed_all g w.heap.size 0 (.slice none 0 0) [] bv b w s (own8_nil _ _) AllB.nil hb (Nat.le_refl _) b rfl (by simp; omega) (by omega)).mono ?_
  rintro e w' ⟨v', h', V, he, hs, ho, hr, hM, -, ⟨w1, g1, g2⟩, -⟩
  rw [Nat.zero_add] at hs
  exact ⟨v', h', V, he, hs, ho, hr, hM, grownBy_chain (grownBy_of_below (by
    have : w.grownBy w1 none := g1
    exact grown_none_below this) (some g)) g2 (.inl rfl)⟩
/-- What is held is a beginning. -/
theorem held_le (b : List Nat) (hb : AllB b) (h : splE b ≠ 31) : b.length - splS b ≤ 16386 := by
  have h1 := spl_rest b
  have hr : AllB (rst b) := by rw [← h1.1]; exact hb.drop _
  have hl : b.length - splS b = (rst b).length := by rw [← h1.1, List.length_drop]
  rcases splE_eq b hb with ⟨_, h2⟩ | ⟨h2, _, h3⟩
  · rw [hl, h2]; exact Nat.zero_le _
  · rcases ferr_cases hr with ⟨h4, _⟩ | ⟨_, f, t, hb2, hlt⟩ | ⟨h4, _⟩
    · exact absurd h4 h1.2
    · have := bnd_le hr hb2
      omega
    · rw [h4] at h2; exact absurd h2 h

set_option maxRecDepth 100000 in
set_option maxHeartbeats 4000000 in
theorem frameCuts_walk (bv cv : Value) (b cuts : List Nat) (w : World) (hb : BRow w bv b) (hcu : BRow w cv cuts) :
    Calls Try.prog 11 #[bv, cv] w fun e w' => e = .returned (.bool true) ∧ Below w.heap.size w w' := by
  obtain ⟨ba, bc, rfl⟩ := hb.shape
  obtain ⟨K, hK1, hK2, hK3⟩ : ∃ K, K ≤ b.length ∧ K ≤ 1000 ∧ (min (b.length : Int) 1000 = (K : Int)) := ⟨min b.length 1000, by omega, by omega, by omega⟩
  have HBK := Lib.hid (hb.headW K hK1)
  have hlenK : (b.take K).length = K := by rw [List.length_take]; omega
  have HCu := Lib.hid hcu
  have hcap : K ≤ bc ∧ (K : Int) ≤ (bc : Int) := by
    obtain ⟨_, ⟨_, _, e, rfl, h⟩ | ⟨_, _, _, e, h1, h3, _⟩⟩ := hb
    · cases e; simp at hK1; omega
    · cases e; omega
  obtain ⟨hc1, hc2⟩ := hcap
  have HLK := Lib.hid hlenK
  obtain ⟨B, hB⟩ : ∃ B, b.take K = B := ⟨_, rfl⟩
  rw [hB] at HBK HLK
  have hBb : AllB B := HBK.out.1
  have HBb := Lib.hid hBb
  clear hb hcu hlenK hB hBb
  have HAw := Lib.hid (awake3_calls w)
  go_enter Try.func11, Try.ntmps11
  go_wp2_with fail
  refine HAw.out.mono ?_
  rintro e w1 ⟨rfl, hb1⟩
  have HB1 := Lib.hid hb1
  have HBK1 := Lib.hid (HBK.out.below hb1)
  have HCu1 := Lib.hid (HCu.out.below hb1)
  clear hb1 HAw HBK HCu
  go_upto_region 3 with fail
  go_cut [0] (fun x wx => x = .slice ba B.length bc ∧ wx = w1)
  case first =>
    by_cases hle : (b.length : Int) ≤ 1000
    · have hk : K = b.length := by omega
      subst hk
      clear hK3
      go_wp2_with fail
      all_goals
        go_meet
        exact ⟨by first | (rw [HLK.out]; done) | (rw [HLK.out]; congr 1; omega), rfl⟩
    · have hk : K = 1000 := by omega
      subst hk
      clear hK3
      go_wp2_with fail
      all_goals
        go_meet
        exact ⟨by first | (rw [HLK.out]; done) | (rw [HLK.out]; congr 1; omega), rfl⟩
  case rest =>
    obtain ⟨rfl, rfl⟩ := hcut
    have hBl : B.length ≤ 1000 := by have := HLK.out; omega
    have HBK2 := Lib.hid (show BRow wc (.slice ba B.length bc) B by rw [HLK.out]; exact HBK1.out)
    clear hK1 hK2 hK3 hc1 hc2 HBK1 HLK
    go_wp2_with fail
    refine (new_calls wc).mono ?_
    rintro e w2 ⟨rfl, hs2, hb2, hz2⟩
    have hgs : w.heap.size ≤ wc.heap.size := HB1.out.size
    have HB2 := Lib.hid (HB1.out.trans (hb2.mono hgs))
    have HS2 := Lib.hid hs2
    have HBK3 := Lib.hid (HBK2.out.below hb2)
    have HCu2 := Lib.hid (HCu1.out.below hb2)
    have HGs := Lib.hid hgs
    have hlt2 : wc.heap.size < w2.heap.size := by omega
    have HLt2 := Lib.hid hlt2
    clear hs2 hb2 hz2 hgs hlt2 HB1 HBK2 HCu1
    generalize wc.heap.size = gs at *
    go_wp2_with fail
    refine (new_calls w2).mono ?_
    rintro e w3 ⟨rfl, hs3, hb3, -⟩
    have HB3 := Lib.hid (HB2.out.trans (hb3.mono HB2.out.size))
    have HS3 := Lib.hid (HS2.out.below hb3)
    have HT3 := Lib.hid hs3
    have HBK4 := Lib.hid (HBK3.out.below hb3)
    have HCu3 := Lib.hid (HCu2.out.below hb3)
    have HGt := Lib.hid HB2.out.size
    clear hs3 hb3 HB2 HS2 HBK3 HCu2
    generalize w2.heap.size = gt2 at *
    have hne : gs ≠ gt2 := by have := HLt2.out; omega
    have HNe := Lib.hid hne
    clear hne
    go_wp2_with fail
    refine (feed_new gt2 _ B w3 HT3.out HBK4.out (by omega)).mono ?_
    rintro e w4 ⟨v4, h4, V4, rfl, ht4, ho4, hr4, hm4, hg4⟩
    have HB4 := Lib.hid (HB3.out.grown hg4 HB3.out.size (fun k e => by cases e; exact HGt.out))
    have HS4 := Lib.hid (HS3.out.other hg4 HNe.out)
    have HBK5 := Lib.hid (brow_sat HBK4.out HT3.out ⟨_, _, _, rfl⟩ hg4)
    have HCu4 := Lib.hid (brow_sat HCu3.out HT3.out ⟨_, _, _, rfl⟩ hg4)
    have HT4 := Lib.hid ht4; have HO4 := Lib.hid ho4; have HR4 := Lib.hid hr4; have HM4 := Lib.hid hm4
    obtain ⟨a4, c4, rfl⟩ := owns_shape hr4
    clear ht4 ho4 hr4 hm4 hg4 HB3 HS3 HT3 HBK4 HCu3
    go_wp2_with fail
    refine (played_calls gs _ _ B cuts w4 HS4.out HBK5.out HCu4.out (by omega)).mono ?_
    rintro e w5 ⟨v5, h5, V5, rfl, hs5, ho5, hr5, hm5, hg5⟩
    have HB5 := Lib.hid (HB4.out.grown hg5 HB4.out.size (fun k e => by cases e; exact HGs.out))
    have HT5 := Lib.hid (HT4.out.other hg5 (Ne.symm HNe.out))
    have HO5 := Lib.hid (own8_sat HO4.out HS4.out hg5)
    have HR5 := Lib.hid (row_sat HR4.out HS4.out hg5)
    have HM5 := Lib.hid (mval_sat HM4.out HS4.out hg5)
    have HBK6 := Lib.hid (brow_sat HBK5.out HS4.out ⟨_, _, _, rfl⟩ hg5)
    have HS5 := Lib.hid hs5; have HP5 := Lib.hid ho5; have HQ5 := Lib.hid hr5; have HN5 := Lib.hid hm5
    obtain ⟨a5, c5, rfl⟩ := owns_shape hr5
    clear hs5 ho5 hr5 hm5 hg5 HB4 HT4 HO4 HR4 HM4 HBK5 HCu4 HS4
    go_wp2_with fail
    refine (split3_calls _ B w5 HBK6.out (by omega)).mono ?_
    rintro e w6 ⟨v6, rfl, ⟨V6, hr6, hm6⟩, hb6⟩
    have hab := splB_allB HBb.out
    have HB6 := Lib.hid (HB5.out.trans (hb6.mono HB5.out.size))
    have HT6 := Lib.hid (HT5.out.below hb6)
    have HS6 := Lib.hid (HS5.out.below hb6)
    have HL6 := Lib.hid (trow_of hr6 hm6 hab)
    have HOne := Lib.hid ((trow_of HR5.out HM5.out hab).below hb6)
    have HSome := Lib.hid ((trow_of HQ5.out HN5.out hab).below hb6)
    obtain ⟨a6, c6, rfl⟩ := owns_shape hr6
    obtain ⟨ha4, hc4, rfl⟩ := owns_shape HO5.out
    obtain ⟨ha5, hc5, rfl⟩ := owns_shape HP5.out
    have hfb : AllB (feedH B) := by unfold feedH; split; exact AllB.nil; exact HBb.out.drop _
    have HO6 := Lib.hid (BRow.of_own (ownsRow_below HO5.out hb6) hfb)
    have HP6 := Lib.hid (BRow.of_own (ownsRow_below HP5.out hb6) hfb)
    clear hr6 hm6 hab hb6 hfb HB5 HT5 HS5 HR5 HM5 HQ5 HN5 HO5 HP5 HBK6
    have hsl := splB_length B
    go_wp2_with fail
    refine (equalM_b _ _ (splB B) (splB B) w6 HOne.out HL6.out true (decide_eq_true rfl)).mono ?_
    rintro e w7 ⟨rfl, hb7⟩
    have HB7 := Lib.hid (HB6.out.trans (hb7.mono HB6.out.size))
    have HT7 := Lib.hid (HT6.out.below hb7); have HS7 := Lib.hid (HS6.out.below hb7); have HL7 := Lib.hid (HL6.out.below hb7); have HSome7 := Lib.hid (HSome.out.below hb7)
    have HO7 := Lib.hid (HO6.out.below hb7); have HP7 := Lib.hid (HP6.out.below hb7)
    clear hb7 HB6 HT6 HS6 HL6 HOne HSome HO6 HP6
    go_wp2_with fail
    refine (equalM_b _ _ (splB B) (splB B) w7 HSome7.out HL7.out true (decide_eq_true rfl)).mono ?_
    rintro e w8 ⟨rfl, hb8⟩
    have HB8 := Lib.hid (HB7.out.trans (hb8.mono HB7.out.size))
    have HT8 := Lib.hid (HT7.out.below hb8); have HS8 := Lib.hid (HS7.out.below hb8)
    have HO8 := Lib.hid (HO7.out.below hb8); have HP8 := Lib.hid (HP7.out.below hb8)
    clear hb8 HB7 HT7 HS7 HL7 HSome7 HO7 HP7
    have hle := splS_le B
    obtain ⟨st, hst0⟩ : ∃ st : Nat, (if splE B = 31 then 2 else 1) = st := ⟨_, rfl⟩
    rw [hst0] at HT8 HS8
    have hst : st = 1 ∨ st = 2 := by rw [← hst0]; split <;> omega
    have HHt := Lib.hid (fun W (hb : Below w8.heap.size w8 W) => held_calls gt2 st _ _ ha4 _ hc4 W (HT8.out.below hb) rfl hst)
    have HHs := Lib.hid (held_calls gs st _ _ ha5 _ hc5 w8 HS8.out rfl hst)
    have HFt := Lib.hid (fun W (hb : Below w8.heap.size w8 W) => frames_calls gt2 st _ _ W (HT8.out.below hb) hst)
    have HFs := Lib.hid (fun W (hb : Below w8.heap.size w8 W) => frames_calls gs st _ _ W (HS8.out.below hb) hst)
    have HDt := Lib.hid (fun W (hb : Below w8.heap.size w8 W) => dead_calls gt2 st _ _ W (HT8.out.below hb))
    have HDs := Lib.hid (fun W (hb : Below w8.heap.size w8 W) => dead_calls gs st _ _ W (HS8.out.below hb))
    have HNs := Lib.hid (sneed_calls gs st _ _ (feedH B) w8 HS8.out HP8.out)
    have HNt := Lib.hid (fun W (hb : Below w8.heap.size w8 W) => sneed_calls gt2 st _ _ (feedH B) W (HT8.out.below hb) (HO8.out.below hb))
    have HST := Lib.hid hst0
    have HFE := Lib.hid (show (splE B = 31 → feedE B = 31 ∧ (feedH B).length = 0) ∧ (splE B ≠ 31 → feedE B = 0 ∧ (feedH B).length = B.length - splS B ∧ B.length - splS B ≤ 16386 ∧ (splE B = 30 ∨ splE B = 0) ∧ (splE B = 30 ↔ splS B < B.length)) from ⟨fun h => ⟨feedE_31 h, by rw [feedH_31 h]; rfl⟩, fun h => by
      refine ⟨feedE_0 h, by unfold feedH; rw [if_neg h, List.length_drop], held_le B HBb.out h, ?_, ?_⟩
      · rcases splE_eq B HBb.out with ⟨h1, _⟩ | ⟨h1, _, h2 | h2⟩
        · exact .inr h1
        · exact .inl (by rw [h1]; exact h2)
        · rw [h1] at h; exact absurd h2 h
      · have hsp : splE B = if splS B = B.length then 0 else ferr (B.drop (splS B)) := rfl
        constructor
        · intro h3
          by_cases h4 : splS B = B.length
          · rw [hsp, if_pos h4] at h3; cases h3
          · omega
        · intro h3
          rcases splE_eq B HBb.out with ⟨_, h1⟩ | ⟨h1, _, h2 | h2⟩
          · have := (spl_rest B).1
            rw [h1] at this
            have := congrArg List.length this
            rw [List.length_drop] at this
            simp at this
            omega
          · rw [h1]; exact h2
          · rw [h1] at h; exact absurd h2 h⟩)
    clear hst0 HO8 HP8 HT8 HS8 hst
    generalize (feedH B).length = hn at *
    obtain ⟨nd, hnd⟩ : ∃ nd, (if st = 1 then fneed (feedH B) else 0) = nd := ⟨_, rfl⟩
    rw [hnd] at HNs HNt
    have hee : ((feedE B : Int) != (feedE B : Int)) = false := by simp
    clear hnd
    obtain ⟨dd, hdd⟩ : ∃ dd, (st == 2) = dd := ⟨_, rfl⟩
    rw [hdd] at HDt HDs
    have HDd := Lib.hid hdd
    clear hdd
    have hdn : (dd != dd) = false := by simp
    rcases Nat.eq_zero_or_pos B.length with hB0 | hB0
    case' inl =>
      have hl0 : decide ((0 : Int) < (B.length : Int)) = false := decide_eq_false (by omega)
      have hl1 : decide (0 < B.length) = false := decide_eq_false (by omega)
      have HB0 := Lib.hid hB0
      clear hB0
      go_wp2_with fail
    case' inr =>
      have hl0 : decide ((0 : Int) < (B.length : Int)) = true := decide_eq_true (by omega)
      have hl1 : decide (0 < B.length) = true := decide_eq_true (by omega)
      have HB0 := Lib.hid hB0
      clear hB0
      go_wp2_with fail
    all_goals
      refine HHs.out.mono ?_
      rintro e w9 ⟨rfl, rfl⟩
      go_wp2_with fail
      refine (HHt.out _ (Below.refl _ _)).mono ?_
      rintro e w9 ⟨rfl, rfl⟩
      go_wp2_with fail
      refine HNs.out.mono ?_
      rintro e w9 ⟨rfl, hb9⟩
      have HX9 := Lib.hid hb9
      clear hb9
      go_wp2_with fail
      refine (HNt.out _ HX9.out).mono ?_
      rintro e w10 ⟨rfl, hb10⟩
      have HX10 := Lib.hid (HX9.out.trans (hb10.mono HX9.out.size))
      clear hb10 HX9
      go_wp2_with fail
      refine (HFs.out _ HX10.out).mono ?_
      rintro e w11 ⟨rfl, rfl⟩
      go_wp2_with fail
      refine (HFt.out _ HX10.out).mono ?_
      rintro e w11 ⟨rfl, rfl⟩
      go_wp2_with fail
      refine (HDs.out _ HX10.out).mono ?_
      rintro e w11 ⟨rfl, rfl⟩
      go_wp2_with fail
      refine (HDt.out _ HX10.out).mono ?_
      rintro e w11 ⟨rfl, rfl⟩
      go_wp2_with fail
      refine (HDt.out _ HX10.out).mono ?_
      rintro e w11 ⟨rfl, rfl⟩
      have HB10 := Lib.hid (HB8.out.trans (HX10.out.mono HB8.out.size))
      have HHe := Lib.hid (HHt.out _ HX10.out)
      clear HHs HHt HNs HNt HFs HFt HDs HDt HB8
      by_cases hE : splE B = 31
      · obtain ⟨p1, p2⟩ := HFE.out.1 hE
        have hs2 : st = 2 := by have := HST.out; rw [if_pos hE] at this; omega
        have hd : dd = true := by rw [← HDd.out, hs2]; rfl
        subst hd
        have e1 : ((feedE B : Int) == 31) = true := by rw [beq_iff_eq]; omega
        have e2 : ((splE B : Int) == 31) = true := by rw [beq_iff_eq]; omega
        have e3 : ((hn : Int) == 0) = true := by rw [beq_iff_eq]; omega
        clear p1 p2 hs2 hE
        go_wp2_with fail
        refine HHe.out.mono ?_
        rintro e w12 ⟨rfl, rfl⟩
        go_wp2
        go_ret
        exact ⟨rfl, HB10.out⟩
      · obtain ⟨p1, p2, p3, p4, p5⟩ := HFE.out.2 hE
        have hs2 : st = 1 := by have := HST.out; rw [if_neg hE] at this; omega
        have hd : dd = false := by rw [← HDd.out, hs2]; rfl
        subst hd
        have e1 : ((feedE B : Int) == 0) = true := by rw [beq_iff_eq]; omega
        have e2 : ((hn : Int) == (B.length : Int) - (splS B : Int)) = true := by rw [beq_iff_eq]; omega
        have e3 : decide ((hn : Int) ≤ 16386) = true := decide_eq_true (by omega)
        have e3' : (hn : Int) ≤ 16386 := by omega
        by_cases h30 : splE B = 30
        · have hlt := p5.1 h30
          have e4 : ((splE B : Int) == 30) = true := by rw [beq_iff_eq]; omega
          have e5 : decide (splS B < B.length) = true := decide_eq_true hlt
          have e6 : ((splE B : Int) == 0) = false := by rw [beq_eq_false_iff_ne]; omega
          have e7 : ((splS B : Int) == (B.length : Int)) = false := by rw [beq_eq_false_iff_ne]; omega
          clear p1 p2 p3 p4 p5 hs2 hE h30
          go_wp2_with fail
          refine HHe.out.mono ?_
          rintro e w12 ⟨rfl, rfl⟩
          go_wp2_with fail
          refine HHe.out.mono ?_
          rintro e w12 ⟨rfl, rfl⟩
          go_wp2
          go_ret
          exact ⟨rfl, HB10.out⟩
        · have hz : splE B = 0 := by omega
          have hge : splS B = B.length := by
            by_cases h : splS B < B.length
            · exact absurd (p5.2 h) h30
            · omega
          have e4 : ((splE B : Int) == 30) = false := by rw [beq_eq_false_iff_ne]; omega
          have e5 : decide (splS B < B.length) = false := decide_eq_false (by omega)
          have e6 : ((splE B : Int) == 0) = true := by rw [beq_iff_eq]; omega
          have e7 : ((splS B : Int) == (B.length : Int)) = true := by rw [beq_iff_eq]; omega
          clear p1 p2 p3 p4 p5 hs2 hE h30 hz hge
          go_wp2_with fail
          refine HHe.out.mono ?_
          rintro e w12 ⟨rfl, rfl⟩
          go_wp2_with fail
          refine HHe.out.mono ?_
          rintro e w12 ⟨rfl, rfl⟩
          go_wp2
          go_ret
          exact ⟨rfl, HB10.out⟩
end Go.Proofs.Ytlohggdabpfkhaa
