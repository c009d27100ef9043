/-
  THE WALK of fermatalaw01.NumWrong: it returns true, and writes nothing that was there.
-/
import Derived.Test.YtflenhbkpaondaaFrame
import Derived.Test.YtflenhbkpaondaaAwake01
import Derived.Test.YtflenhbkpaondaaAppend8
import Derived.Test.YtflenhbkpaondaaNumPlain2
namespace Go.Proofs.Ytflenhbkpaondaa
open Go.RowKit Pl

/-- What the last way hands to the readers: a form, and one byte behind it. -/
theorem behind_calls (x : Nat) (hx : x < 18446744073709551616) (c : Nat) (hc : c < 256) :
    lastN (form x ++ [c]) = (0, 0, 11) ∧ rdAt (form x ++ [c]) 0 = (x, (form x).length, 0) ∧ compareN (form x) (form x ++ [c]) = (0, 11) ∧ (∀ m, compareN (form x ++ [c]) m = (0, 11)) ∧ AllB (form x ++ [c]) := by
  have h1 := lastN_behind x hx [c] (by simp)
  refine ⟨h1, ?_, compareN_err2 (lastN_form x hx) h1 (by decide), fun m => compareN_err1 h1 (by decide), (form_allB x).append (AllB.cons hc AllB.nil)⟩
  rw [rdAt_zero]
  exact rd_form x hx [c]

set_option maxRecDepth 100000 in
set_option maxHeartbeats 4000000 in
theorem numWrong_3 (x : Nat) (way : Int) (w : World) (hx : x < 18446744073709551616) (hw0 : 0 ≤ way) (hw : way < 256) (h3 : way % 4 = 3) :
    Calls Try.prog 10 #[.int .u64 x, .int .u8 way] w fun e w' => e = .returned (.bool true) ∧ Below w.heap.size w w' := by
  obtain ⟨f1, f2⟩ := form_length x
  have g0 : (way % 4 == 0) = false := beq_eq_false_iff_ne.2 (by omega)
  have g1 : (way % 4 == 1) = false := beq_eq_false_iff_ne.2 (by omega)
  have g2 : (way % 4 == 2) = false := beq_eq_false_iff_ne.2 (by omega)
  clear h3
  go_enter Try.func10, Try.ntmps10
  go_wp2_with fail
  refine (awake_calls w).mono ?_
  rintro e w1 ⟨rfl, hb1⟩
  have HB1 := Lib.hid hb1
  clear hb1
  go_wp2_with fail
  refine (append_calls x hx _ w1.heap.size (Nat.le_refl _) _ [] (own8_nil _ _) (by decide)).mono ?_
  rintro e w2 ⟨v2, rfl, hown2, hb2⟩
  rw [List.nil_append] at hown2
  obtain ⟨g, cap, rfl, hcap, hmax, _, _⟩ := own8_some hown2 f1
  have hgood := Lib.hid (BRow.of_own hown2 (form_allB x))
  have HB2 := Lib.hid hb2
  have HX := Lib.hid hx
  clear hb2 hown2 hx
  have hs12 := HB2.out.size
  go_wp2_with (first
    | (at_builtin; refine wpList_append8 rfl (.tmp 44) (.tmp 45) rfl w2.heap.size _ [] rfl (own8_lit w2 [] _ _ _ _ rfl rfl rfl rfl (by decide) w2.heap.size (Nat.le_refl _)) _ (form x) rfl (hgood.out.below ((Below.refl _ w2).alloc (Nat.le_refl _) _)) (by simp; omega) (by simp) ?_; intro v3 w3 hown3 hgrow3; have hO3 := Lib.hid hown3; have HB3 := Lib.hid (below_append (own8_lit w2 [] _ _ _ _ rfl rfl rfl rfl (by decide) w2.heap.size (Nat.le_refl _)) hgrow3 (by simp)); clear hown3 hgrow3; have hs3 := HB3.out.size)
    | (at_builtin; go_must (refine wpList_append8 rfl (.tmp 46) (.tmp 49) rfl w2.heap.size _ (form x) rfl (hO3.out.alloc _) _ [x % 256] rfl (BRow.litAt w3 [x % 256] _ _ _ _ (by first | rfl | (simp; done)) rfl rfl (AllB.cons (by omega) AllB.nil) (by simp)) (by simp; omega) (by simp at hs3 ⊢; omega) ?_); intro v4 w4 hown4 hgrow4; have hO4 := Lib.hid hown4; have HB4 := Lib.hid (below_append (hO3.out.alloc _) hgrow4 (by simp at hs3 ⊢; omega)); clear hown4 hgrow4; have hs4 := HB4.out.size)
    | fail)
  obtain ⟨l1, l2, l3, l4, l5⟩ := behind_calls x HX.out (x % 256) (by omega)
  have hbad := BRow.of_own hO4.out l5
  have hb24 : Below w2.heap.size w2 w4 := (((Below.refl _ w2).alloc (Nat.le_refl _) _).trans HB3.out).trans (((Below.refl _ w3).alloc (Nat.le_refl _) _).mono (by simp at hs3; omega) |>.trans HB4.out)
  have C1 := Lib.hid (by have := last_calls _ _ w4 hbad; rw [l1] at this; exact this)
  have C2 := Lib.hid (fun W (hW : Below w4.heap.size w4 W) v m (hm : BRow W v m) => by have := compare_calls _ v _ m W (hbad.below hW) hm; rw [l4 m] at this; exact this)
  have C3 := Lib.hid (fun W (hW : Below w4.heap.size w4 W) => by have := compare_calls _ _ _ _ W (hgood.out.below (hb24.trans (hW.mono hb24.size))) (hbad.below hW); rw [l3] at this; exact this)
  have C4 := Lib.hid (fun W (hW : Below w4.heap.size w4 W) => by have := read_calls _ _ W (hbad.below hW) 0 (by omega) (by omega); rw [l2] at this; exact this)
  have HB24 := Lib.hid hb24
  clear l1 l2 l3 l4 l5 hbad hb24
  go_wp2_with fail
  refine C1.out.mono ?_
  rintro e w' ⟨rfl, rfl⟩
  go_wp2_with fail
  refine (C2.out _ ((Below.refl _ _).alloc (Nat.le_refl _) _) _ [255] (BRow.litAt _ [255] _ _ _ _ rfl rfl rfl (AllB.of rfl) (by decide))).mono ?_
  rintro e w' ⟨rfl, rfl⟩
  go_wp2_with fail
  refine (C3.out _ ((Below.refl _ _).alloc (Nat.le_refl _) _)).mono ?_
  rintro e w' ⟨rfl, rfl⟩
  go_wp2_with fail
  refine (C4.out _ ((Below.refl _ _).alloc (Nat.le_refl _) _)).mono ?_
  rintro e w' ⟨rfl, rfl⟩
  go_wp2
  go_ret
  refine ⟨rfl, ?_⟩
  have b1 := HB1.out
  have b2 := (HB2.out.mono b1.size)
  have b3 := (HB24.out.mono (Nat.le_trans b1.size HB2.out.size))
  exact (b1.trans (b2.trans b3)).alloc (by have := (b1.trans (b2.trans b3)).size; exact this) _

/-- THE TAIL of the first three ways: what is no form is rejected by all readers. -/
theorem bad_calls (x : Nat) (hx : x < 18446744073709551616) (bad : List Nat) (hb : rd bad = (0, 0, 11)) :
    rdAt bad 0 = (0, 0, 11) ∧ lastN bad = (0, 0, 11) ∧ intN bad 0 1 0 = (0, 0, 11) ∧ splitE (form x ++ bad) = 11 ∧ splitV (form x ++ bad) = [] ∧ (∀ m, compareN bad m = (0, 11)) ∧ compareN (form x) bad = (0, 11) := by
  have h0 : rdAt bad 0 = (0, 0, 11) := by rw [rdAt_zero]; exact hb
  have h1 := lastN_err hb (by decide)
  exact ⟨h0, h1, intN_err h0 (by decide), (split_bad x hx bad hb).1, (split_bad x hx bad hb).2, fun m => compareN_err1 h1 (by decide), compareN_err2 (lastN_form x hx) h1 (by decide)⟩

set_option maxRecDepth 100000 in
set_option maxHeartbeats 4000000 in
theorem numWrong_012 (x : Nat) (way : Int) (w : World) (hx : x < 18446744073709551616) (hw0 : 0 ≤ way) (hw : way < 256) (hway : way % 4 ≠ 3) (h8 : way % 4 = 0 → (digs x).length ≤ 7) :
    Calls Try.prog 10 #[.int .u64 x, .int .u8 way] w fun e w' => e = .returned (.bool true) ∧ Below w.heap.size w w' := by
  obtain ⟨f1, f2⟩ := form_length x
  have hcases : (x ≤ 246 ∧ way % 4 = 0) ∨ (246 < x ∧ way % 4 = 0) ∨ way % 4 = 1 ∨ way % 4 = 2 := by omega
  go_enter Try.func10, Try.ntmps10
  go_wp2_with fail
  refine (awake_calls w).mono ?_
  rintro e w1 ⟨rfl, hb1⟩
  have HB1 := Lib.hid hb1
  clear hb1
  go_wp2_with fail
  refine (append_calls x hx _ w1.heap.size (Nat.le_refl _) _ [] (own8_nil _ _) (by decide)).mono ?_
  rintro e w2 ⟨v2, rfl, hown2, hb2⟩
  rw [List.nil_append] at hown2
  obtain ⟨g, cap, rfl, hcap, hmax, _, _⟩ := own8_some hown2 f1
  have hgood := Lib.hid (BRow.of_own hown2 (form_allB x))
  have HB2 := Lib.hid hb2
  have HX := Lib.hid hx
  have H8 := Lib.hid h8
  have HM := Lib.hid hmax
  clear hb2 hown2 hx h8 hway hmax
  rcases hcases with ⟨hx2, hw4⟩ | ⟨hx2, hw4⟩ | hw4 | hw4
  case' inl =>
    have g0 : (way % 4 == 0) = true := beq_iff_eq.2 hw4
    have hform : form x = [x] := by unfold form; rw [if_pos hx2]
    rw [hform] at hgood ⊢
    have HF := Lib.hid hform
    clear hform hw4 f1 f2
    go_wp2_with (at_builtin; refine wpList_append8 rfl (.tmp 115) (.tmp 116) rfl w2.heap.size _ [248, 0] rfl (own8_lit w2 [248, 0] _ _ _ _ (by first | rfl | (simp; done)) rfl rfl rfl (by decide) w2.heap.size (Nat.le_refl _)) _ [x] rfl (hgood.out.below ((Below.refl _ w2).alloc (Nat.le_refl _) _)) (by simp) (by simp) ?_; intro v4 w4 hown4 hgrow4)
    have HBAD := Lib.hid (BRow.of_own (l := [248, 0, x]) hown4 (AllB.cons (by omega) (AllB.cons (by omega) (AllB.cons (by omega) AllB.nil))))
    have HB24 := Lib.hid (((Below.refl _ w2).alloc (Nat.le_refl _) _).trans (below_append (own8_lit w2 [248, 0] _ _ _ _ rfl rfl rfl rfl (by decide) w2.heap.size (Nat.le_refl _)) hgrow4 (by simp)))
    have HRD := Lib.hid (rd_zero_front [x] (by simp))
    have hgood2 : Hid (BRow w2 (.slice (some ⟨g, 0, none⟩) 1 cap) (form x)) := by rw [HF.out]; exact hgood
    clear hgood
    have hgood := hgood2
    clear hgood2
    have hbl : [248, 0, x].length ≤ 100 := by simp
    clear hown4 hgrow4
    rw [show 247 + [x].length = 248 from rfl] at HRD
    generalize [248, 0, x] = bad at *
  case' inr.inl =>
    have g0 : (way % 4 == 0) = true := beq_iff_eq.2 hw4
    have hn7 := H8.out hw4
    have hn1 : 1 ≤ (digs x).length := by obtain ⟨d, r, e, _⟩ := digs_ne hx2 HX.out; rw [e]; simp
    have hlen : (form x).length = (digs x).length + 1 := by unfold form; rw [if_neg (by omega)]; simp
    have hform : (form x).drop 1 = digs x := by unfold form; rw [if_neg (by omega)]; rfl
    have hdig : BRow w2 (.slice (some ⟨g, 1, none⟩) (digs x).length (cap - 1)) (digs x) := by
      have := hgood.out.drop 1 1 (digs x).length (cap - 1) f1 (by omega) (by omega) (by omega) (Nat.le_trans (Nat.sub_le _ _) HM.out)
      rwa [hform] at this
    have HD := Lib.hid hdig
    have HA := Lib.hid (digs_allB x)
    have HF := Lib.hid hlen
    rw [hlen] at hcap ⊢
    clear hlen hform hdig hw4 f1 f2
    generalize hd : digs x = d at *
    clear hd
    have hn8 : ((d.length : Int) == 8) = false := beq_eq_false_iff_ne.2 (by omega)
    have hc1 : ¬ cap = 1 := by omega
    go_wp2_with (at_builtin; refine wpList_append8 rfl (.tmp 115) (.tmp 116) rfl w2.heap.size _ [247 + d.length, 0] rfl (own8_lit w2 [247 + d.length, 0] _ _ _ _ (by first | rfl | (simp [B8]; done)) rfl rfl rfl (by simp) w2.heap.size (Nat.le_refl _)) _ d rfl (HD.out.below ((Below.refl _ w2).alloc (Nat.le_refl _) _)) (by simp; omega) (by simp) ?_; intro v4 w4 hown4 hgrow4)
    have HBAD := Lib.hid (BRow.of_own (l := (247 + d.length) :: 0 :: d) hown4 (AllB.cons (by omega) (AllB.cons (by omega) HA.out)))
    have HB24 := Lib.hid (((Below.refl _ w2).alloc (Nat.le_refl _) _).trans (below_append (own8_lit w2 [247 + d.length, 0] _ _ _ _ rfl rfl rfl rfl (by simp) w2.heap.size (Nat.le_refl _)) hgrow4 (by simp)))
    have HRD := Lib.hid (rd_zero_front d hn7)
    have hbl : ((247 + d.length) :: 0 :: d).length ≤ 100 := by simp; omega
    clear hown4 hgrow4
    rw [← HF.out]
    generalize (247 + d.length) :: 0 :: d = bad at *
  case' inr.inr.inl =>
    have g0 : (way % 4 == 0) = false := beq_eq_false_iff_ne.2 (by omega)
    have g1 : (way % 4 == 1) = true := beq_iff_eq.2 hw4
    clear hw4
    go_wp2_with fail
    have hm : x % 247 < 247 := Nat.mod_lt _ (by omega)
    have HBAD := Lib.hid (BRow.litAt w2 [247, x % 247] 5 #[.int .u8 247, .int .u8 ((x : Int) % 247)] w2.heap.size 2 rfl rfl rfl (AllB.cons (by omega) (AllB.cons (by omega) AllB.nil)) (by simp))
    have HB24 := Lib.hid ((Below.refl _ w2).alloc (Nat.le_refl _) (.cells #[.int .u8 247, .int .u8 ((x : Int) % 247)] 5))
    have HRD := Lib.hid (rd_shorter (x % 247) (by omega))
    have hbl : [247, x % 247].length ≤ 100 := by simp
    clear hm
    generalize [247, x % 247] = bad at *
    generalize w2.alloc (.cells #[.int .u8 247, .int .u8 ((x : Int) % 247)] 5) = w4 at *
  case' inr.inr.inr =>
    have g0 : (way % 4 == 0) = false := beq_eq_false_iff_ne.2 (by omega)
    have g1 : (way % 4 == 1) = false := beq_eq_false_iff_ne.2 (by omega)
    have g2 : (way % 4 == 2) = true := beq_iff_eq.2 hw4
    clear hw4
    go_wp2_with (at_builtin; refine wpList_append8 rfl (.tmp 126) (.tmp 127) rfl w2.heap.size _ [255] rfl (own8_lit w2 [255] _ _ _ _ rfl rfl rfl rfl (by simp) w2.heap.size (Nat.le_refl _)) _ (form x) rfl (hgood.out.below ((Below.refl _ w2).alloc (Nat.le_refl _) _)) (by simp; omega) (by simp) ?_; intro v4 w4 hown4 hgrow4)
    have HBAD := Lib.hid (BRow.of_own (l := 255 :: form x) hown4 (AllB.cons (by omega) (form_allB x)))
    have HB24 := Lib.hid (((Below.refl _ w2).alloc (Nat.le_refl _) _).trans (below_append (own8_lit w2 [255] _ _ _ _ rfl rfl rfl rfl (by simp) w2.heap.size (Nat.le_refl _)) hgrow4 (by simp)))
    have HRD := Lib.hid (rd_255 (form x))
    have hbl : (255 :: form x).length ≤ 100 := by simp; omega
    clear hown4 hgrow4
    generalize 255 :: form x = bad at *
  all_goals
    obtain ⟨l1, l2, l3, l4, l5, l6, l7⟩ := bad_calls x HX.out bad HRD.out
    have C1 := Lib.hid (by have := read_calls _ _ w4 HBAD.out 0 (by omega) (by omega); rw [l1] at this; exact this)
    have C2 := Lib.hid (by have := last_calls _ _ w4 HBAD.out; rw [l2] at this; exact this)
    have C3 := Lib.hid (by have := int_calls _ _ w4 HBAD.out 0 (by omega) (by omega) 1 0; rw [l3] at this; exact this)
    have C5 := Lib.hid (fun W (hW : Below w4.heap.size w4 W) => by have := compare_calls _ (.slice none 0 0) _ [] W (HBAD.out.below hW) (BRow.empty _ _ (Nat.zero_le _)); rw [l6 []] at this; exact this)
    have C6 := Lib.hid (fun W (hW : Below w4.heap.size w4 W) => by have := compare_calls _ _ _ _ W (hgood.out.below (HB24.out.trans (hW.mono HB24.out.size))) (HBAD.out.below hW); rw [l7] at this; exact this)
    have C4 := Lib.hid (fun v W (hr : BRow W v (form x ++ bad)) => by have := split_calls v (form x ++ bad) W hr (by have h1 := sq_length (form x ++ bad); have h2 := (form_length x).2; rw [List.length_append] at h1; omega); rw [l4, l5] at this; exact this)
    have hgood4 := Lib.hid (hgood.out.below HB24.out)
    have hfl := (form_length x).2
    have HAB := Lib.hid ((form_allB x).append HBAD.out.1)
    clear l1 l2 l3 l4 l5 l6 l7
    go_wp2_with fail
    refine C1.out.mono ?_
    rintro e w' ⟨rfl, rfl⟩
    go_wp2_with fail
    refine C2.out.mono ?_
    rintro e w' ⟨rfl, rfl⟩
    go_wp2_with fail
    refine C3.out.mono ?_
    rintro e w' ⟨rfl, rfl⟩
    go_wp2_with (first
      | (at_builtin; refine wpList_append8 rfl (.tmp 148) (.tmp 149) rfl w4.heap.size _ [] rfl (own8_lit w4 [] _ _ _ _ rfl rfl rfl rfl (by decide) w4.heap.size (Nat.le_refl _)) _ (form x) rfl (hgood4.out.below ((Below.refl _ w4).alloc (Nat.le_refl _) _)) (by simp; omega) (by simp) ?_; intro v5 w5 hown5 hgrow5; have HO5 := Lib.hid hown5; have HB5 := Lib.hid (((Below.refl _ w4).alloc (Nat.le_refl _) _).trans (below_append (own8_lit w4 [] _ _ _ _ rfl rfl rfl rfl (by decide) w4.heap.size (Nat.le_refl _)) hgrow5 (by simp))); clear hown5 hgrow5)
      | (at_builtin; refine wpList_append8 rfl (.tmp 150) (.tmp 151) rfl w4.heap.size _ (form x) rfl HO5.out _ bad rfl (HBAD.out.below HB5.out) (by omega) HB5.out.size ?_; intro v6 w6 hown6 hgrow6; have HO6 := Lib.hid hown6; have HB6 := Lib.hid (HB5.out.trans (below_append HO5.out hgrow6 HB5.out.size)); clear hown6 hgrow6)
      | fail)
    refine (C4.out _ _ (BRow.of_own HO6.out HAB.out)).mono ?_
    rintro e w7 ⟨v7, rfl, hown7, hb7⟩
    obtain ⟨va, vc, rfl⟩ := owns_shape hown7
    have HB7 := Lib.hid (HB6.out.trans (hb7.mono HB6.out.size))
    clear hown7 hb7
    go_wp2_with fail
    refine (C5.out _ HB7.out).mono ?_
    rintro e w' ⟨rfl, rfl⟩
    go_wp2_with fail
    refine (C6.out _ HB7.out).mono ?_
    rintro e w' ⟨rfl, rfl⟩
    have hcells : ∀ k : Nat, k < 6 → (w7.alloc (.cells #[.int .i64 11, .int .i64 11, .int .i64 11, .int .i64 11, .int .i64 11, .int .i64 11] 32)).cell? ⟨w7.heap.size, k, none⟩ = some (.int .i64 11) := by
      intro k hk
      rw [cell_of_row _ _ k _ 32 (0, 0) (heap_alloc_new w7 _)]
      have : k = 0 ∨ k = 1 ∨ k = 2 ∨ k = 3 ∨ k = 4 ∨ k = 5 := by omega
      rcases this with rfl | rfl | rfl | rfl | rfl | rfl <;> rfl
    have HC := Lib.hid hcells
    have hfin : Below w.heap.size w (w7.alloc (.cells #[.int .i64 11, .int .i64 11, .int .i64 11, .int .i64 11, .int .i64 11, .int .i64 11] 32)) := by
      have b1 := HB1.out
      have b2 := b1.trans (HB2.out.mono b1.size)
      have b3 := b2.trans (HB24.out.mono b2.size)
      have b4 := b3.trans (HB7.out.mono b3.size)
      exact b4.alloc b4.size _
    have HFIN := Lib.hid hfin
    clear hcells hfin
    go_wp2_with fail
    go_loop [175] (fun i => ∃ k : Nat, k ≤ 6 ∧ i = .int .i64 k) (fun i => 6 - (intOf i).toNat)
    case atStart => exact ⟨0, by omega, rfl⟩
    case round =>
      obtain ⟨k, hk, rfl⟩ := hrel
      by_cases hlt : k < 6
      · have hcell := HC.out k hlt
        go_wp2
        go_round
        case rel => exact ⟨k + 1, by omega, by go_num⟩
        case measure => simp [intOf]; omega
      · obtain rfl : k = 6 := by omega
        go_wp2
        go_ret
        exact ⟨rfl, HFIN.out⟩

set_option maxRecDepth 100000 in
set_option maxHeartbeats 4000000 in
theorem numWrong_8 (x : Nat) (way : Int) (w : World) (hx : x < 18446744073709551616) (hw0 : 0 ≤ way) (hw : way < 256) (hway : way % 4 = 0) (h8 : (digs x).length = 8) :
    Calls Try.prog 10 #[.int .u64 x, .int .u8 way] w fun e w' => e = .returned (.bool true) ∧ Below w.heap.size w w' := by
  have hx2 : 246 < x := by
    by_cases h : x ≤ 246
    · have h1 : x / 256 = 0 := by omega
      have : (digs x).length ≤ 1 := by
        unfold digs dg
        by_cases h0 : x = 0
        · rw [if_pos h0]; simp
        · rw [if_neg h0, h1]; simp [dg]
      omega
    · omega
  have g0 : (way % 4 == 0) = true := beq_iff_eq.2 hway
  have hlen : (form x).length = 9 := by unfold form; rw [if_neg (by omega)]; simp [h8]
  have HX := Lib.hid hx
  go_enter Try.func10, Try.ntmps10
  clear h8 hway hx2
  go_wp2_with fail
  refine (awake_calls w).mono ?_
  rintro e w1 ⟨rfl, hb1⟩
  have HB1 := Lib.hid hb1
  clear hb1
  go_wp2_with fail
  refine (append_calls x HX.out _ w1.heap.size (Nat.le_refl _) _ [] (own8_nil _ _) (by decide)).mono ?_
  rintro e w2 ⟨v2, rfl, hown2, hb2⟩
  rw [List.nil_append] at hown2
  obtain ⟨g, cap, rfl, hcap, hmax, _, _⟩ := own8_some hown2 (form_length x).1
  have HB2 := Lib.hid hb2
  rw [hlen] at hcap ⊢
  have hc1 : ¬ cap = 1 := by omega
  clear hb2 hown2 hlen hmax hx
  go_wp2
  go_ret
  have b1 := HB1.out
  exact ⟨rfl, b1.trans (HB2.out.mono b1.size)⟩

theorem numWrong_walk (x : Nat) (way : Int) (w : World) (hx : x < 18446744073709551616) (hw0 : 0 ≤ way) (hw : way < 256) :
    Calls Try.prog 10 #[.int .u64 x, .int .u8 way] w fun e w' => e = .returned (.bool true) ∧ Below w.heap.size w w' := by
  by_cases h3 : way % 4 = 3
  · exact numWrong_3 x way w hx hw0 hw h3
  · by_cases h8 : way % 4 = 0 ∧ (digs x).length = 8
    · exact numWrong_8 x way w hx hw0 hw h8.1 h8.2
    · exact numWrong_012 x way w hx hw0 hw h3 (fun h => by have := digs_length x; omega)
end Go.Proofs.Ytflenhbkpaondaa
