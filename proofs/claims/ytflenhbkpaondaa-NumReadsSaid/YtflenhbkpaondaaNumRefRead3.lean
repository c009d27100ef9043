/-
  CONTRACTS of the reference's Int, Compare and Split (layer 1): what they say of bytes is what the plain functions say.
-/
import Derived.Test.YtflenhbkpaondaaNumRefRead2
namespace Go.Proofs.Ytflenhbkpaondaa
open Go.RowKit Pl

set_option maxHeartbeats 1000000 in
theorem refInt_calls (v : Value) (l : List Nat) (w : World) (h : BRow w v l) (k : Int) (least most : Int) :
    Calls Try.prog 35 #[v, .int .i64 k, .int .i64 least, .int .i64 most] w fun e w' => e = .returned (.tuple #[.int .i64 (intN l k least most).1, .int .i64 (intN l k least most).2.1, .int .i64 (intN l k least most).2.2]) ∧ Below w.heap.size w w' := by
  have hR := refRead_calls v l w h k
  have hR' := Lib.hid hR; clear hR
  have hrng := rdAt_range l h.1 k
  have hdef : intN l k least most = if (rdAt l k).2.2 ≠ 0 then (0, 0, (rdAt l k).2.2) else if ((rdAt l k).1 : Int) > 9223372036854775807 ∨ ((rdAt l k).1 : Int) < least ∨ ((rdAt l k).1 : Int) > most then (0, 0, 12) else (((rdAt l k).1 : Int), (rdAt l k).2.1, 0) := rfl
  have hdef' := Lib.hid hdef; clear hdef h
  generalize hx : rdAt l k = r at hR' hdef' hrng
  obtain ⟨x, n, er⟩ := r
  clear hx
  dsimp only at hR' hdef' hrng
  obtain ⟨hx, -⟩ := hrng
  by_cases her : er = 0
  · subst her
    have hne : ((0 : Int) != 0) = false := rfl
    by_cases h1 : (9223372036854775807 : Int) < x
    · have hd : decide ((9223372036854775807 : Int) < x) = true := by simpa using h1
      have hfin : intN l k least most = (0, 0, 12) := by rw [hdef'.out, if_neg (by simp), if_pos (.inl h1)]
      have hfin' := Lib.hid hfin; clear hfin hdef'
      go_enter Try.func35, Try.ntmps35
      go_wp2_with fail
      refine hR'.out.mono ?_
      rintro e w' ⟨rfl, hb⟩; have HB := Lib.hid hb; clear hb
      go_wp2
      go_ret3
      refine ⟨?_, HB.out⟩
      rw [hfin'.out]
      exact ret_int3 rfl rfl rfl
    · have hd : decide ((9223372036854775807 : Int) < x) = false := by simpa using h1
      have h1' : (x : Int) ≤ 9223372036854775807 := by omega
      clear h1
      by_cases h2 : (x : Int) < least
      · have hd2 : decide ((x : Int) < least) = true := by simpa using h2
        have hfin : intN l k least most = (0, 0, 12) := by rw [hdef'.out, if_neg (by simp), if_pos (.inr (.inl h2))]
        have hfin' := Lib.hid hfin; clear hfin hdef'
        go_enter Try.func35, Try.ntmps35
        go_wp2_with fail
        refine hR'.out.mono ?_
        rintro e w' ⟨rfl, hb⟩; have HB := Lib.hid hb; clear hb
        go_wp2
        go_ret3
        refine ⟨?_, HB.out⟩
        rw [hfin'.out]
        exact ret_int3 rfl rfl rfl
      · have hd2 : decide ((x : Int) < least) = false := by simpa using h2
        by_cases h3 : most < (x : Int)
        · have hd3 : decide (most < (x : Int)) = true := by simpa using h3
          have hfin : intN l k least most = (0, 0, 12) := by rw [hdef'.out, if_neg (by simp), if_pos (.inr (.inr h3))]
          have hfin' := Lib.hid hfin; clear hfin hdef'
          go_enter Try.func35, Try.ntmps35
          go_wp2_with fail
          refine hR'.out.mono ?_
          rintro e w' ⟨rfl, hb⟩; have HB := Lib.hid hb; clear hb
          go_wp2
          go_ret3
          refine ⟨?_, HB.out⟩
          rw [hfin'.out]
          exact ret_int3 rfl rfl rfl
        · have hd3 : decide (most < (x : Int)) = false := by simpa using h3
          have hfin : intN l k least most = ((x : Int), n, 0) := by rw [hdef'.out, if_neg (by simp), if_neg (by omega)]
          have hfin' := Lib.hid hfin; clear hfin hdef'
          go_enter Try.func35, Try.ntmps35
          go_wp2_with fail
          refine hR'.out.mono ?_
          rintro e w' ⟨rfl, hb⟩; have HB := Lib.hid hb; clear hb
          go_wp2
          go_ret3
          refine ⟨?_, HB.out⟩
          rw [hfin'.out]
          exact ret_int3 rfl rfl rfl
  · have hne : ((er : Int) != 0) = true := by rw [bne_iff_ne]; omega
    have hfin : intN l k least most = (0, 0, er) := by rw [hdef'.out, if_pos her]
    have hfin' := Lib.hid hfin; clear hfin hdef'
    go_enter Try.func35, Try.ntmps35
    go_wp2_with fail
    refine hR'.out.mono ?_
    rintro e w' ⟨rfl, hb⟩; have HB := Lib.hid hb; clear hb
    go_wp2
    go_ret3
    refine ⟨?_, HB.out⟩
    rw [hfin'.out]
    exact ret_int3 rfl rfl rfl

set_option maxHeartbeats 1000000 in
theorem refCompare_calls (v v' : Value) (l m : List Nat) (w : World) (h : BRow w v l) (h' : BRow w v' m) :
    Calls Try.prog 37 #[v, v'] w fun e w' => e = .returned (.tuple #[.int .i64 (compareN l m).1, .int .i64 (compareN l m).2]) ∧ Below w.heap.size w w' := by
  have hl := Lib.hid (refLast_calls v l w h)
  have hm := Lib.hid (fun W (hW : Below w.heap.size w W) => refLast_calls v' m W (h'.below hW))
  have hdef := Lib.hid (show compareN l m = if (lastN l).2.2 ≠ 0 then (0, (lastN l).2.2) else if (lastN m).2.2 ≠ 0 then (0, (lastN m).2.2) else (cmpI (lastN l).1 (lastN m).1, 0) from rfl)
  clear h h'
  generalize hx : lastN l = r at hl hdef
  generalize hy : lastN m = r' at hm hdef
  obtain ⟨x, n, er⟩ := r
  obtain ⟨x', n', er'⟩ := r'
  clear hx hy
  dsimp only at hl hm hdef
  by_cases her : er = 0
  · subst her
    have hne : ((0 : Int) != 0) = false := rfl
    by_cases her' : er' = 0
    · subst her'
      have hcases : ((x : Int) < x' ∧ cmpI x x' = -1) ∨ ((x' : Int) < x ∧ cmpI x x' = 1) ∨ ((x : Int) ≤ x' ∧ (x' : Int) ≤ x ∧ cmpI x x' = 0) := by
        unfold cmpI
        by_cases h1 : (x : Int) < x'
        · exact .inl ⟨h1, by rw [if_pos h1]⟩
        · by_cases h2 : (x' : Int) < x
          · exact .inr (.inl ⟨h2, by rw [if_neg h1, if_pos h2]⟩)
          · exact .inr (.inr ⟨by omega, by omega, by rw [if_neg h1, if_neg h2]⟩)
      have hF0 : compareN l m = (cmpI x x', 0) := by rw [hdef.out, if_neg (by simp), if_neg (by simp)]
      clear hdef
      rcases hcases with ⟨o1, o2⟩ | ⟨o1, o2⟩ | ⟨o1, o3, o2⟩
      all_goals
        rw [o2] at hF0
        have hF := Lib.hid hF0
        clear hF0 o2
        go_enter Try.func37, Try.ntmps37
        go_wp2_with fail
        refine hl.out.mono ?_
        rintro e w1 ⟨rfl, hb1⟩
        have HB1 := Lib.hid hb1
        clear hb1
        go_wp2_with fail
        refine (hm.out _ HB1.out).mono ?_
        rintro e w2 ⟨rfl, hb2⟩
        have HB2 := Lib.hid hb2
        clear hb2
        go_wp2
        go_ret2
        refine ⟨?_, HB1.out.trans (HB2.out.mono HB1.out.size)⟩
        rw [hF.out]
        exact ret_cmp rfl rfl
    · have hne' : ((er' : Int) != 0) = true := by rw [bne_iff_ne]; omega
      have hF := Lib.hid (show compareN l m = (0, er') by rw [hdef.out, if_neg (by simp), if_pos her'])
      clear hdef
      go_enter Try.func37, Try.ntmps37
      go_wp2_with fail
      refine hl.out.mono ?_
      rintro e w1 ⟨rfl, hb1⟩
      have HB1 := Lib.hid hb1
      clear hb1
      go_wp2_with fail
      refine (hm.out _ HB1.out).mono ?_
      rintro e w2 ⟨rfl, hb2⟩
      have HB2 := Lib.hid hb2
      clear hb2
      go_wp2
      go_ret2
      refine ⟨?_, HB1.out.trans (HB2.out.mono HB1.out.size)⟩
      rw [hF.out]
      exact ret_cmp rfl rfl
  · have hne : ((er : Int) != 0) = true := by rw [bne_iff_ne]; omega
    have hF := Lib.hid (show compareN l m = (0, er) by rw [hdef.out, if_pos her])
    clear hdef
    go_enter Try.func37, Try.ntmps37
    go_wp2_with fail
    refine hl.out.mono ?_
    rintro e w1 ⟨rfl, hb1⟩
    have HB1 := Lib.hid hb1
    clear hb1
    go_wp2
    go_ret2
    refine ⟨?_, HB1.out⟩
    rw [hF.out]
    exact ret_cmp rfl rfl

/-! The reference's Split. -/
theorem sq_tail {l : List Nat} (h0 : l.length ≠ 0) (h : (rd l).2.2 = 0) : splitE l = splitE (l.drop (rd l).2.1) := by
  unfold splitE
  rw [sq_ok h0 h]
  cases hs : sq (l.drop (rd l).2.1) with
  | nil => rfl
  | cons a r => simp [List.getLast?_cons]
theorem splitE_err {l : List Nat} (h0 : l.length ≠ 0) (h : (rd l).2.2 ≠ 0) : splitE l = (rd l).2.2 := by
  unfold splitE
  rw [sq_err h0 h]
  rfl
theorem splitE_nil : splitE [] = 0 := rfl
theorem splitV_err {l : List Nat} (h : splitE l ≠ 0) : splitV l = [] := by unfold splitV; rw [if_neg h]

set_option maxHeartbeats 2000000 in
theorem refSplit_calls (v : Value) (bs : List Nat) (w : World) (h : BRow w v bs) (hbl : bs.length ≤ 10000000000000) :
    Calls Try.prog 36 #[v] w fun e W' => ∃ v', e = .returned (.tuple #[v', .int .i64 (splitE bs)]) ∧ Own64 W' w.heap.size v' (splitV bs) ∧ Below w.heap.size w W' := by
  obtain ⟨i0, hi, hz0, hz1, hz2⟩ := info_parts info_u64
  have hI := Lib.hid hi
  have hZ0 := Lib.hid hz0
  have hZ1 := Lib.hid hz1
  have hZ2 := Lib.hid hz2
  clear hi hz0 hz1 hz2
  have hrow := Lib.hid h
  obtain ⟨a, cap, rfl⟩ := h.shape
  clear h
  go_enter Try.func36, Try.ntmps36
  go_wp2
  go_loopw [4, 5] (fun o i wr => ∃ (pre : List Nat) (k : Nat), k ≤ bs.length ∧ pre.length ≤ k ∧ i = .int .i64 k ∧ sq bs = pre.map (fun x => (x, 0)) ++ sq (bs.drop k) ∧ Own64 wr w.heap.size o pre ∧ Below w.heap.size w wr) (fun _ i _ => bs.length - (intOf i).toNat)
  case atStart => exact ⟨[], 0, by omega, Nat.le_refl _, rfl, rfl, World.ownsRow_nil _ _ _ _, Below.refl _ _⟩
  case round =>
    obtain ⟨pre, k, hk, hpk, rfl, hsq, hown, hbel⟩ := hrel
    have HO := Lib.hid hown
    have HB := Lib.hid hbel
    have HS := Lib.hid hsq
    have hsz := hbel.size
    clear hown hbel hsq
    by_cases hlt : k < bs.length
    · have HR := Lib.hid (refRead_in _ bs wr (hrow.out.below HB.out) k hlt)
      have hl1 := (rd_range (bs.drop k) (hrow.out.1.drop k)).2
      have hsz1 := rd_size (bs.drop k)
      have herr := Lib.hid (sq_err (l := bs.drop k) (by simp; omega))
      have hok := Lib.hid (sq_ok (l := bs.drop k) (by simp; omega))
      obtain ⟨x, n2, er, hr⟩ : ∃ x n2 er, rd (bs.drop k) = (x, n2, er) := ⟨_, _, _, rfl⟩
      rw [hr] at HR hl1 hsz1 herr hok
      dsimp only at HR hl1 hsz1 herr hok
      rw [List.length_drop] at hl1
      clear hr
      by_cases her : er = 0
      · subst her
        have hs1 := hsz1 rfl
        have hne : ((0 : Int) != 0) = false := rfl
        have HS2 := Lib.hid (show sq bs = (pre ++ [x]).map (fun x => (x, 0)) ++ sq (bs.drop (k + n2)) by
          have := HS.out
          rw [hok.out rfl, List.drop_drop] at this
          rw [this]; simp)
        clear hsz1
        go_wp2_with (first
          | (go_at_call 33; refine HR.out.mono ?_; rintro e w1 ⟨rfl, hb1⟩; have HB1 := Lib.hid (HB.out.trans (hb1.mono hsz)); have HO1 := Lib.hid (ownsRow_below HO.out hb1); clear hb1)
          | (at_builtin; refine wpList_append_own _ rfl _ _ 27 rfl w.heap.size 22 i0 (.int .u64 0) 1 8 Try.underlying27 hI.out hZ0.out hZ1.out hZ2.out rfl (by decide) _ _ _ rfl (HO1.out.alloc _) ⟨w1.heap.size, 0, none⟩ 1 1 [B64 x] rfl rfl (cell_one_new _ _ _) (by intro u hu; simp at hu; subst hu; rfl) (by unfold maxLen; omega) (by omega) (by have := HB1.out.size; simp; omega) ?_; intro v2 w2 hown2 hgrow2 _; have HO2 := Lib.hid hown2; have HB2 := Lib.hid ((HB1.out.alloc HB1.out.size _).grown hgrow2 (by have := HB1.out.size; simp; omega) (fun j hj => (HO1.out.lt j hj).1)); clear hown2 hgrow2)
          | fail)
        go_roundw
        case rel => exact ⟨pre ++ [x], k + n2, by omega, by simp; omega, by go_num, HS2.out, by unfold Own64; rw [List.length_append, List.map_append]; exact HO2.out, HB2.out⟩
        case measure => simp [intOf]; omega
      · have hne : ((er : Int) != 0) = true := by rw [bne_iff_ne]; omega
        have hE : splitE bs = er := by
          have := HS.out
          rw [herr.out her] at this
          unfold splitE
          rw [this]; simp
        have HE := Lib.hid hE
        have HV := Lib.hid (splitV_err (l := bs) (by rw [hE]; exact her))
        clear hE hsz1 her
        go_wp2_with (go_at_call 33; refine HR.out.mono ?_; rintro e w1 ⟨rfl, hb1⟩; have HB1 := Lib.hid (HB.out.trans (hb1.mono hsz)); clear hb1)
        go_ret2
        rw [HE.out, HV.out]
        exact ⟨_, rfl, World.ownsRow_nil _ _ _ _, HB1.out⟩
    · obtain rfl : k = bs.length := by omega
      have hs : sq bs = pre.map (fun x => (x, 0)) := by have := HS.out; rw [List.drop_length, sq_nil, List.append_nil] at this; exact this
      have hE : splitE bs = 0 := by
        unfold splitE
        rw [hs]
        cases hl : (pre.map fun x => (x, 0)).getLast? with
        | none => rfl
        | some p =>
          have := List.mem_of_getLast? hl
          simp only [List.mem_map] at this
          obtain ⟨y, _, rfl⟩ := this
          rfl
      have HE := Lib.hid hE
      have HV := Lib.hid (show splitV bs = pre by unfold splitV; rw [if_pos hE, hs, List.map_map]; simp [Function.comp_def])
      clear hE hs
      go_wp2
      go_ret2
      rw [HE.out, HV.out]
      exact ⟨_, rfl, HO.out, HB.out⟩
end Go.Proofs.Ytflenhbkpaondaa
