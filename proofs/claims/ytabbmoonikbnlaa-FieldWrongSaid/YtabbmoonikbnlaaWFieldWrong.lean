/-
  THE WALK of fermatalaw02.FieldWrong: it returns true, and writes nothing that was there.
-/
import Derived.Test.YtabbmoonikbnlaaWrongP
import Derived.Deep.CutBlock
import Derived.WalkMore
import Derived.Deep.DeepCutAuto
namespace Go.Proofs.Ytabbmoonikbnlaa
open Go.RowKit Pl

set_option maxRecDepth 100000 in
set_option maxHeartbeats 4000000 in
theorem fieldWrong_walk (vp vt : Value) (p : List Nat) (T : List (List Nat)) (way : Nat) (n : Int) (w : World) (hp : BRow w vp p) (ht : TRow w vt T) (hway : way < 256) (hn1 : -9223372036854775808 ≤ n) (hn2 : n ≤ 9223372036854775807) :
    Calls Try.prog 5 #[vp, vt, .int .u8 way, .int .i64 n] w fun e w' => e = .returned (.bool true) ∧ Below w.heap.size w w' := by
  have HP := Lib.hid hp
  have HT := Lib.hid ht
  have HTa := Lib.hid ht.allB
  clear hp ht
  go_enter Try.func5, Try.ntmps5
  go_wp2_with fail
  refine (awake2_calls w).mono ?_
  rintro e w1 ⟨rfl, hb1⟩
  have HB1 := Lib.hid hb1
  clear hb1
  go_wp2_with fail
  refine (made_calls vp vt p T w1 (HP.out.below HB1.out) (HT.out.below HB1.out)).mono ?_
  rintro e wm ⟨vl, rfl, hm, hb2⟩
  have HB2 := Lib.hid (HB1.out.trans (hb2.mono HB1.out.size))
  have HL := Lib.hid (made_row HTa.out hm)
  obtain ⟨g1, g2, g3⟩ := made_under p T
  have hrm := madeF_right p T
  clear hb2 hm HB1 HP HT HTa
  generalize madeF p T = m at *
  have hpos : ∀ q ∈ m, 0 < q.1 := fun q hq => (right_tags hrm q hq).1
  obtain ⟨l1, l2⟩ := lastT_le m g3 hpos
  have HLg := Lib.hid (lastT_get m 0)
  have HG3 := Lib.hid g3
  have HPos := Lib.hid hpos
  have HRm := Lib.hid hrm
  clear g3 hpos hrm
  obtain ⟨al, cl, rfl⟩ := HL.out.shape
  have HSn := Lib.hid (share_none (w := wm) (base := wm.heap.size) (Nat.le_refl _))
  have HBn := Lib.hid ((Below.refl _ wm).alloc (Nat.le_refl _) (.cells #[] 28))
  go_upto_if 36 with (at_builtin; refine wpList_appendSh rfl _ _ rfl wm wm.heap.size _ _ rfl HSn.out _ _ rfl HL.out HBn.out (by simp; omega) HBn.out.size ?_; intro v5 w5 hown5 hg5; have HSb := Lib.hid hown5; have HB5 := Lib.hid (HBn.out.grown hg5 HBn.out.size (fun k hk => (HSn.out.lt k hk).1)); clear hown5 hg5)
  go_cut [11] (fun z wx => z = .int .i64 (lastT 0 m) ∧ wx = w5)
  case first =>
    by_cases h0 : m.length = 0
    · have hm0 : m = [] := List.eq_nil_of_length_eq_zero h0
      subst hm0
      go_wp2_with fail
      go_meet
      exact ⟨rfl, rfl⟩
    · obtain ⟨k, hk⟩ : ∃ k, m.length = k + 1 := ⟨m.length - 1, by omega⟩
      have hl := HLg.out h0
      rw [show m.length - 1 = k by omega] at hl
      obtain ⟨_, ⟨_, _, _, rfl, _⟩ | ⟨b, off, cap, A, C, e, hc, hmx, hcell⟩⟩ := HL.out
      · exact absurd rfl h0
      simp only [Value.slice.injEq, true_and] at e
      obtain ⟨rfl, rfl⟩ := e
      obtain ⟨d1, -, -⟩ := hcell k (by omega)
      have d1' := (HB5.out.cell (p := ⟨b, off + k * 2, none⟩) (block_lt_of_cell d1)).trans d1
      rw [← hl] at d1'
      have hsub : (m.length : Int) - 1 = (k : Int) := by omega
      have hpos : 0 < m.length := by omega
      have hkl : k < m.length := by omega
      have hkl2 : (k : Int) < (m.length : Int) := by omega
      clear hcell d1 hl hmx h0 hk
      go_wp2_with fail
      go_meet
      exact ⟨rfl, rfl⟩
  case rest =>
    obtain ⟨rfl, rfl⟩ := hcut
    rw [List.nil_append] at HSb
    obtain ⟨la, hla⟩ : ∃ la, lastT 0 m = la := ⟨_, rfl⟩
    rw [hla] at l1 l2
    have HLa := Lib.hid hla
    rw [hla]
    clear hla HLg HSn HBn
    obtain ⟨j, hj6, hj⟩ : ∃ j : Nat, j < 6 ∧ (way : Int) % 6 = (j : Int) := ⟨way % 6, Nat.mod_lt _ (by omega), by omega⟩
    obtain ⟨t0, ht0, ht0a, ht0b⟩ : ∃ t0 : Int, (if la < n then la else n) = t0 ∧ t0 ≤ la ∧ Tag64 t0 := by
      refine ⟨_, rfl, ?_, ?_⟩
      · split <;> omega
      · unfold Tag64; split <;> omega
    obtain ⟨t1, ht1, ht1a, ht1b⟩ : ∃ t1 : Int, (if n < 201 then 201 else n) = t1 ∧ 200 < t1 ∧ Tag64 t1 := by
      refine ⟨_, rfl, ?_, ?_⟩
      · split <;> omega
      · unfold Tag64; split <;> omega
    obtain ⟨t2, ht2, ht2a, ht2b⟩ : ∃ t2 : Int, (if (0 : Int) < n then 0 else n) = t2 ∧ t2 ≤ 0 ∧ Tag64 t2 := by
      refine ⟨_, rfl, ?_, ?_⟩
      · split <;> omega
      · unfold Tag64; split <;> omega
    obtain ⟨t5, ht5, ht5a, ht5b⟩ : ∃ t5 : Int, (if (5 : Int) < n then 5 else n) = t5 ∧ t5 ≤ 5 ∧ Tag64 t5 := by
      refine ⟨_, rfl, ?_, ?_⟩
      · split <;> omega
      · unfold Tag64; split <;> omega
    have hT0 := Lib.hid (And.intro ht0a ht0b)
    have hT1 := Lib.hid (And.intro ht1a ht1b)
    have hT2 := Lib.hid (And.intro ht2a ht2b)
    have hT5 := Lib.hid (And.intro ht5a ht5b)
    clear ht0a ht0b ht1a ht1b ht2a ht2b ht5a ht5b
    have HTm := Lib.hid HL.out.1
    have HBw := Lib.hid (fun x l (h : BRow wm x l) => brow_one h)
    go_upto_block 0 with fail
    go_cut [10, 45] (fun z _ wx => ∃ B, FRow wx z B ∧ rightF B = false ∧ Below wm.heap.size wm wx)
    case first =>
      rcases (show j = 0 ∨ j = 1 ∨ j = 2 ∨ j = 3 ∨ j = 4 ∨ j = 5 by omega) with rfl | rfl | rfl | rfl | rfl | rfl
      · have HS1 := Lib.hid ((FShP.of HSb.out).below ((Below.refl wc.heap.size wc).alloc (Nat.le_refl _) (.cells #[.int .i64 t0, .slice none 0 0] 28)))
        have HB1 := Lib.hid (HB5.out.alloc HB5.out.size (.cells #[.int .i64 t0, .slice none 0 0] 28))
        have HX := Lib.hid (lit_one (P := BRow wm) (w := wc) (t := t0) (a := none) (c := 0) (l := []) (brow_nil wm))
        go_wp2_with (at_builtin; refine wpList_appendP rfl _ _ rfl (BRow wm) wm.heap.size _ _ rfl HS1.out _ _ rfl HX.out (by simp; omega) HB1.out.size ?_; intro v6 w6 ho6 hg6; have HO6 := Lib.hid ho6; have HB6 := Lib.hid (HB1.out.grown hg6 HB1.out.size (fun k hk => (HS1.out.lt k hk).1)); clear ho6 hg6)
        go_meet
        exact ⟨_, HO6.out.row (fun x l h => h.below HB6.out) (fun p hp => by rcases List.mem_append.1 hp with h | h; exact HTm.out p h; simp only [List.mem_singleton] at h; rw [h]; exact hT0.out.2), wrong_last m t0 [] (.inl (by rw [HLa.out]; exact hT0.out.1)), HB6.out⟩
      · have HS1 := Lib.hid ((FShP.of HSb.out).below ((Below.refl wc.heap.size wc).alloc (Nat.le_refl _) (.cells #[.int .i64 t1, .slice none 0 0] 28)))
        have HB1 := Lib.hid (HB5.out.alloc HB5.out.size (.cells #[.int .i64 t1, .slice none 0 0] 28))
        have HX := Lib.hid (lit_one (P := BRow wm) (w := wc) (t := t1) (a := none) (c := 0) (l := []) (brow_nil wm))
        go_wp2_with (at_builtin; refine wpList_appendP rfl _ _ rfl (BRow wm) wm.heap.size _ _ rfl HS1.out _ _ rfl HX.out (by simp; omega) HB1.out.size ?_; intro v6 w6 ho6 hg6; have HO6 := Lib.hid ho6; have HB6 := Lib.hid (HB1.out.grown hg6 HB1.out.size (fun k hk => (HS1.out.lt k hk).1)); clear ho6 hg6)
        go_meet
        exact ⟨_, HO6.out.row (fun x l h => h.below HB6.out) (fun p hp => by rcases List.mem_append.1 hp with h | h; exact HTm.out p h; simp only [List.mem_singleton] at h; rw [h]; exact hT1.out.2), wrong_last m t1 [] (.inr hT1.out.1), HB6.out⟩
      · have HS1 := Lib.hid (lit_own (P := BRow wm) (w := wc) (t := t2) (a := none) (c := 0) (l := []) HB5.out.size (brow_nil wm))
        have HB1 := Lib.hid (HB5.out.alloc HB5.out.size (.cells #[.int .i64 t2, .slice none 0 0] 28))
        have HX := Lib.hid (((FShP.of HSb.out).below ((Below.refl wc.heap.size wc).alloc (Nat.le_refl _) (.cells #[.int .i64 t2, .slice none 0 0] 28))).arg HBw.out)
        go_wp2_with (at_builtin; refine wpList_appendP rfl _ _ rfl (BRow wm) wm.heap.size _ _ rfl HS1.out _ _ rfl HX.out (by simp; omega) HB1.out.size ?_; intro v6 w6 ho6 hg6; have HO6 := Lib.hid ho6; have HB6 := Lib.hid (HB1.out.grown hg6 HB1.out.size (fun k hk => (HS1.out.lt k hk).1)); clear ho6 hg6)
        go_meet
        exact ⟨_, HO6.out.row (fun x l h => h.below HB6.out) (fun p hp => by rcases List.mem_append.1 hp with h | h; simp only [List.mem_singleton] at h; rw [h]; exact hT2.out.2; exact HTm.out p h), wrong_first m t2 [] hT2.out.1, HB6.out⟩
      · obtain ⟨i0, hi, hz0, hz1, hz2⟩ := info_parts info_u8
        have hP : ∀ x l, (BRow wm x l ∨ (x = .slice (some ⟨wc.heap.size, 0, none⟩) 16385 16385 ∧ l = List.replicate 16385 0)) → x.oneCell' = true := fun x l h => by
          rcases h with h | ⟨rfl, _⟩
          · exact brow_one h
          · rfl
        have hz : (List.replicate 16385 0 : List Nat).length = 16385 := List.length_replicate
        generalize hZe : (List.replicate 16385 0 : List Nat) = Z at *
        have hZb : AllB Z := by rw [← hZe]; intro d hd; rw [List.eq_of_mem_replicate hd]; omega
        have hZm : (madeCells (Value.int IntKind.u8 0).cells (16385 * 1)).toList = Z.map B8 := by
          rw [← hZe, show (Value.int IntKind.u8 0).cells = #[Value.int IntKind.u8 0] from rfl, toList_madeCells_one]
          simp [B8]
        have HZm := Lib.hid hZm
        have HZb := Lib.hid hZb
        have HI := Lib.hid hi
        have HZ0 := Lib.hid hz0
        have HZ1 := Lib.hid hz1
        have HZ2 := Lib.hid hz2
        have HPc := Lib.hid hP
        clear hi hz0 hz1 hz2 hP hZe hZm hZb
        go_wp2_with (first
          | (at_make; refine wpList_make_full _ rfl _ _ 22 rfl wc.heap.size 5 i0 (.int .u8 0) 1 Try.underlying22 HI.out HZ0.out HZ1.out .i64 .i64 16385 16385 16385 rfl rfl (by omega) (by omega) (by rw [HZ2.out]; omega) (by unfold maxLen; omega) (Nat.le_refl _) ?_; intro w7 ho7 hg7; rw [HZm.out] at ho7; have hO7 : Own8 w7 wc.heap.size (.slice (some ⟨wc.heap.size, 0, none⟩) 16385 16385) Z := (by unfold Own8; rw [hz]; exact ho7); have HO7 := Lib.hid hO7; have HB7 := Lib.hid (HB5.out.trans ((grown_none_below hg7).mono HB5.out.size)); have HS7 := Lib.hid ((FShP.of HSb.out).below (grown_none_below hg7)); clear ho7 hg7 hO7)
          | (at_builtin; have HS1 := Lib.hid ((HS7.out.below ((Below.refl w7.heap.size w7).alloc (Nat.le_refl _) (.cells #[.int .i64 (la + 1), .slice (some ⟨wc.heap.size, 0, none⟩) 16385 16385] 28))).imp (Q := fun x l => BRow wm x l ∨ (x = .slice (some ⟨wc.heap.size, 0, none⟩) 16385 16385 ∧ l = Z)) (fun x l h => .inl h)); have HB1 := Lib.hid (HB7.out.alloc HB7.out.size (.cells #[.int .i64 (la + 1), .slice (some ⟨wc.heap.size, 0, none⟩) 16385 16385] 28)); have HX := Lib.hid (lit_one (P := fun x l => BRow wm x l ∨ (x = .slice (some ⟨wc.heap.size, 0, none⟩) 16385 16385 ∧ l = Z)) (w := w7) (t := la + 1) (a := some ⟨wc.heap.size, 0, none⟩) (c := 16385) (l := Z) (by rw [hz]; exact .inr ⟨rfl, rfl⟩)); rw [hz] at HX; have HB8 := Lib.hid ((BRow.of_own HO7.out HZb.out).below ((Below.refl w7.heap.size w7).alloc (Nat.le_refl _) (.cells #[.int .i64 (la + 1), .slice (some ⟨wc.heap.size, 0, none⟩) 16385 16385] 28))); refine wpList_appendP rfl _ _ rfl _ wm.heap.size _ _ rfl HS1.out _ _ rfl HX.out (by simp; omega) HB1.out.size ?_; intro v6 w6 ho6 hg6; have HO6 := Lib.hid ho6; have HB6 := Lib.hid (HB1.out.grown hg6 HB1.out.size (fun k hk => (HS1.out.lt k hk).1)); have HBz := Lib.hid (HB8.out.grown hg6 (fun b off cap e hh => by simp only [Value.slice.injEq, Option.some.injEq, Addr.mk.injEq] at e; obtain ⟨⟨rfl, _⟩, _⟩ := e; exact absurd ((FShP.of HSb.out).lt _ hh.symm).2 (Nat.lt_irrefl _))); clear ho6 hg6))
        go_meet
        exact ⟨_, HO6.out.row (fun x l h => by
          rcases h with h | ⟨rfl, rfl⟩
          · exact h.below HB6.out
          · exact HBz.out) (fun p hp => by rcases List.mem_append.1 hp with h | h; exact HTm.out p h; simp only [List.mem_singleton] at h; rw [h]; unfold Tag64; dsimp only; omega), wrong_size m (la + 1) Z (by omega), HB6.out⟩
      · have HS1 := Lib.hid ((FShP.of HSb.out).below ((Below.refl wc.heap.size wc).alloc (Nat.le_refl _) (.cells #[.int .i64 (la + 1), .slice none 0 0, .int .i64 (la + 1), .slice none 0 0] 28)))
        have HB1 := Lib.hid (HB5.out.alloc HB5.out.size (.cells #[.int .i64 (la + 1), .slice none 0 0, .int .i64 (la + 1), .slice none 0 0] 28))
        have HX := Lib.hid (lit_two (P := BRow wm) (w := wc) (t := la + 1) (u := la + 1) (brow_nil wm))
        go_wp2_with (at_builtin; refine wpList_appendP rfl _ _ rfl (BRow wm) wm.heap.size _ _ rfl HS1.out _ _ rfl HX.out (by simp; omega) HB1.out.size ?_; intro v6 w6 ho6 hg6; have HO6 := Lib.hid ho6; have HB6 := Lib.hid (HB1.out.grown hg6 HB1.out.size (fun k hk => (HS1.out.lt k hk).1)); clear ho6 hg6)
        go_meet
        exact ⟨_, HO6.out.row (fun x l h => h.below HB6.out) (fun p hp => by rcases List.mem_append.1 hp with h | h; exact HTm.out p h; simp only [List.mem_cons, List.mem_nil_iff, or_false, or_self] at h; rw [h]; unfold Tag64; omega), wrong_twice m (la + 1) [] [], HB6.out⟩
      · go_wp2_with fail
        clear hj
        go_loopw [10, 46] (fun z i wr => ∃ (k : Nat), k ≤ 65 ∧ i = .int .i64 k ∧ FShP (BRow wm) wr wm.heap.size z ((List.range k).map fun i => (((1 + i : Nat) : Int), [])) ∧ Below wm.heap.size wm wr) (fun _ i _ => 65 - (intOf i).toNat)
        case atStart => exact ⟨0, by omega, rfl, fshp_nil _ _ _, HB5.out⟩
        case round =>
          obtain ⟨k, hk, rfl, ho, hbel⟩ := hrel
          by_cases hlt : k < 65
          · have dk : decide ((k : Int) < 65) = true := decide_eq_true (by omega)
            have HS1 := Lib.hid (ho.below ((Below.refl wr.heap.size wr).alloc (Nat.le_refl _) (.cells #[.int .i64 (1 + (k : Int)), .slice none 0 0] 28)))
            have HB1 := Lib.hid (hbel.alloc hbel.size (.cells #[.int .i64 (1 + (k : Int)), .slice none 0 0] 28))
            have HX := Lib.hid (lit_one (P := BRow wm) (w := wr) (t := 1 + (k : Int)) (a := none) (c := 0) (l := []) (brow_nil wm))
            have HR := Lib.hid (show (List.range (k + 1)).map (fun i => (((1 + i : Nat) : Int), ([] : List Nat))) = (List.range k).map (fun i => (((1 + i : Nat) : Int), ([] : List Nat))) ++ [(1 + (k : Int), [])] by rw [List.range_succ, List.map_append]; simp)
            clear ho hbel
            go_wp2_with (at_builtin; refine wpList_appendP rfl _ _ rfl (BRow wm) wm.heap.size _ _ rfl HS1.out _ _ rfl HX.out (by simp; omega) HB1.out.size ?_; intro v6 w6 ho6 hg6; have HO6 := Lib.hid ho6; have HB6 := Lib.hid (HB1.out.grown hg6 HB1.out.size (fun k hk => (HS1.out.lt k hk).1)); clear ho6 hg6)
            go_roundw
            case rel =>
              have hfin : ∃ k' : Nat, k' ≤ 65 ∧ Value.int .i64 ((k : Int) + 1) = .int .i64 k' ∧ FShP (BRow wm) w6 wm.heap.size v6 ((List.range k').map fun i => (((1 + i : Nat) : Int), [])) ∧ Below wm.heap.size wm w6 := ⟨k + 1, by omega, by go_num, by rw [HR.out]; exact HO6.out, HB6.out⟩
              first | exact hfin | ((repeat apply Exists.intro); exact ⟨hfin, rfl⟩)
            case measure => simp [intOf]; omega
          · obtain rfl : k = 65 := by omega
            have HO := Lib.hid ho
            have HBl := Lib.hid hbel
            clear ho hbel
            go_wp2_with fail
            go_meet
            exact ⟨_, HO.out.row (fun x l h => h.below HBl.out) (fun p hp => by obtain ⟨i, hi, rfl⟩ := List.mem_map.1 hp; have := List.mem_range.1 hi; unfold Tag64; dsimp only; omega), wrong_many _ (by simp), HBl.out⟩
    case rest =>
      obtain ⟨B, hB1, hB2, hB3⟩ := hcut
      have HB5' := Lib.hid hB3
      have HRB := Lib.hid hB2
      have HBB := Lib.hid hB1
      have HL5 := Lib.hid (HL.out.below hB3)
      have HBW := Lib.hid (HB2.out.trans (hB3.mono HB2.out.size))
      clear hB1 hB2 hB3 HSb HB5 HL HTm HBw
      have HBA := Lib.hid ((Below.refl wc.heap.size wc).alloc (Nat.le_refl _) (.cells #[.int .i64 5, .bool false, .int .i64 0, .int .i64 0, .int .i64 t5, .bool false, .int .i64 0, .int .i64 0] 40))
      have HWn := Lib.hid (wrow_two (w := wc) (t := 5) (u := t5))
      have HB9 := Lib.hid (HBW.out.alloc HBW.out.size (.cells #[.int .i64 5, .bool false, .int .i64 0, .int .i64 0, .int .i64 t5, .bool false, .int .i64 0, .int .i64 0] 40))
      have HBB9 := Lib.hid (HBB.out.below HBA.out)
      have HL9 := Lib.hid (HL5.out.below HBA.out)
      have HTs := Lib.hid (show (rightF m && rightF (setR t2 [] m)) = false by rw [set_front t2 [] m (fun q hq => by have := HPos.out q hq; have := hT2.out.1; omega), wrong_first m t2 [] hT2.out.1, Bool.and_false])
      have HTb := Lib.hid (show (rightF B && rightF (setR 1 [] B)) = false by rw [HRB.out, Bool.false_and])
      clear HBA HBB HL5 HBW HB5'
      obtain ⟨wb, hwb⟩ : ∃ wb : Value, wb = .slice (some ⟨wc.heap.size, 0, none⟩) 2 2 := ⟨_, rfl⟩
      go_wp2_with fail
      generalize wc.alloc (.cells #[.int .i64 5, .bool false, .int .i64 0, .int .i64 0, .int .i64 t5, .bool false, .int .i64 0, .int .i64 0] 40) = W9 at *
      refine (write_no _ B W9 HBB9.out HRB.out).mono ?_
      rintro e w10 ⟨rfl, hb10⟩
      have HB10 := Lib.hid (HB9.out.trans (hb10.mono HB9.out.size))
      have HBB10 := Lib.hid (HBB9.out.below hb10)
      have HL10 := Lib.hid (HL9.out.below hb10)
      have HW10 := Lib.hid (HWn.out.below hb10)
      clear hb10 HB9 HBB9 HL9 HWn
      go_wp2_with fail
      refine (set_no 1 _ none 0 [] B w10 HBB10.out (by unfold Tag64; omega) (brow_nil _) HTb.out).mono ?_
      rintro e w11 ⟨hb11, rfl⟩
      have HB11 := Lib.hid (HB10.out.trans (hb11.mono HB10.out.size))
      have HBB11 := Lib.hid (HBB10.out.below hb11)
      have HL11 := Lib.hid (HL10.out.below hb11)
      have HW11 := Lib.hid (HW10.out.below hb11)
      clear hb11 HB10 HBB10 HL10 HW10
      go_wp2_with fail
      refine (suit_notright _ _ B _ w11 HBB11.out HW11.out HRB.out).mono ?_
      rintro e w12 ⟨rfl, hb12⟩
      have HB12 := Lib.hid (HB11.out.trans (hb12.mono HB11.out.size))
      have HBB12 := Lib.hid (HBB11.out.below hb12)
      have HL12 := Lib.hid (HL11.out.below hb12)
      have HW12 := Lib.hid (HW11.out.below hb12)
      clear hb12 HB11 HBB11 HL11 HW11
      go_wp2_with fail
      refine (suit_wants _ _ m _ w12 HL12.out HW12.out HRm.out (wants_wrong t5 hT5.out.1)).mono ?_
      rintro e w13 ⟨rfl, hb13⟩
      have HB13 := Lib.hid (HB12.out.trans (hb13.mono HB12.out.size))
      have HBB13 := Lib.hid (HBB12.out.below hb13)
      have HL13 := Lib.hid (HL12.out.below hb13)
      clear hb13 HB12 HBB12 HL12 HW12
      go_wp2_with fail
      refine (set_no t2 _ none 0 [] m w13 HL13.out hT2.out.2 (brow_nil _) HTs.out).mono ?_
      rintro e w14 ⟨hb14, rfl⟩
      have HB14 := Lib.hid (HB13.out.trans (hb14.mono HB13.out.size))
      have HBB14 := Lib.hid (HBB13.out.below hb14)
      have HL14 := Lib.hid (HL13.out.below hb14)
      clear hb14 HB13 HBB13 HL13
      have HBA := Lib.hid ((Below.refl w14.heap.size w14).alloc (Nat.le_refl _) (.cells #[.int .i64 1, .bool false, .int .i64 5, .int .i64 4] 40))
      have HW14 := Lib.hid (wrow_one (w := w14) (t := 1) (a := 5) (b := 4))
      have HB15 := Lib.hid (HB14.out.alloc HB14.out.size (.cells #[.int .i64 1, .bool false, .int .i64 5, .int .i64 4] 40))
      have HBB15 := Lib.hid (HBB14.out.below HBA.out)
      have HL15 := Lib.hid (HL14.out.below HBA.out)
      clear HB14 HBB14 HL14 HBA
      go_wp2_with fail
      refine (suit_wants _ _ m _ _ HL15.out HW14.out HRm.out want_wrong).mono ?_
      rintro e w16 ⟨rfl, hb16⟩
      have HB16 := Lib.hid (HB15.out.trans (hb16.mono HB15.out.size))
      have HBB16 := Lib.hid (HBB15.out.below hb16)
      have HRt := Lib.hid (right_calls _ B w16 HBB16.out)
      rw [HRB.out] at HRt
      clear hb16 HB15 HBB15 HL15 HW14 HBB16
      go_wp2_with fail
      refine HRt.out.mono ?_
      rintro e w17 ⟨rfl, hb17⟩
      have HB17 := Lib.hid (HB16.out.trans (hb17.mono HB16.out.size))
      clear hb17
      go_wp2
      go_ret
      exact ⟨rfl, HB17.out⟩
end Go.Proofs.Ytabbmoonikbnlaa
