/-
  CONTRACTS of the reference's same, Read, Last, Int, Split and Compare (layer 1): what they say of bytes is what the plain functions say.
-/
import Derived.Test.YtfgiejeeolnhbaaNumRefForm
import Derived.Test.YtfgiejeeolnhbaaNumPlain2
import Derived.Deep.RegionLaw
import Derived.BigQuiet
namespace Go.Proofs.Ytfgiejeeolnhbaa
open Go.RowKit Pl

set_option maxRecDepth 100000 in
set_option maxHeartbeats 1000000 in
theorem refSame_calls (v v' : Value) (l m : List Nat) (w : World) (h : BRow w v l) (h' : BRow w v' m) :
    Calls Try.prog 80 #[v, v'] w fun e w' => e = .returned (.bool (decide (l = m))) ∧ ∃ n, w' = w.drewN n := by
  by_cases hlen : l.length = m.length
  · obtain ⟨hb, ⟨a1, c1, rfl, rfl, hac⟩ | ⟨b, off, cap, rfl, hc, hm, hcell⟩⟩ := h
    · clear hac
      obtain rfl : m = [] := List.eq_nil_of_length_eq_zero (by simpa using hlen.symm)
      obtain ⟨hb', ⟨a2, c2, rfl, _, hac⟩ | ⟨b', off', cap', rfl, hc', hm', hcell'⟩⟩ := h'
      · clear hac
        go_enter Try.func80, Try.ntmps80
        go_wp2
        refine wp_loop_rounds 1 ?_
        rw [rounds_succ]
        go_wp2
        go_ret
        exact ⟨rfl, 0, rfl⟩
      · clear hcell'
        go_enter Try.func80, Try.ntmps80
        go_wp2
        refine wp_loop_rounds 1 ?_
        rw [rounds_succ]
        go_wp2
        go_ret
        exact ⟨rfl, 0, rfl⟩
    obtain ⟨hb', ⟨a2, c2, rfl, rfl, hac⟩ | ⟨b', off', cap', rfl, hc', hm', hcell'⟩⟩ := h'
    · clear hac
      obtain rfl : l = [] := List.eq_nil_of_length_eq_zero (by simpa using hlen)
      clear hcell
      go_enter Try.func80, Try.ntmps80
      go_wp2
      refine wp_loop_rounds 1 ?_
      rw [rounds_succ]
      go_wp2
      go_ret
      exact ⟨rfl, 0, rfl⟩
    unfold maxLen at hm hm'
    have hH := Lib.hid hcell
    have hH' := Lib.hid hcell'
    clear hcell hcell' hb hb'
    have hL := Lib.hid hlen
    have hne : ((l.length : Int) != (m.length : Int)) = false := by simp [hlen]
    clear hlen
    go_enter Try.func80, Try.ntmps80
    go_wp2
    go_loopw [5] (fun i wr => ∃ k : Nat, k ≤ l.length ∧ (∀ j, j < k → gt l j = gt m j) ∧ i = .int .i64 k ∧ ∃ n, wr = w.drewN n) (fun i _ => l.length - (intOf i).toNat)
    case atStart => exact ⟨0, by omega, fun j hj => by omega, rfl, 0, rfl⟩
    case round =>
      obtain ⟨k, hk, hsame, rfl, n, rfl⟩ := hrel
      have hS := Lib.hid hsame; clear hsame
      by_cases hlt : k < l.length
      · have hlt' : k < m.length := by have := hL.out; omega
        have c1 := hH.out k hlt
        have c2 := hH'.out k hlt'
        by_cases hd : gt l k = gt m k
        · have hdd : ((gt l k : Int) != (gt m k : Int)) = false := by simp [hd]
          have hD := Lib.hid hd; clear hd
          go_wp2
          go_quiet (fail)
          go_wp2
          go_roundw
          case rel => exact ⟨k + 1, by omega, fun j hj => by by_cases e : j < k; exact hS.out j e; (obtain rfl : j = k := by omega); exact hD.out, by go_num, _, rfl⟩
          case measure => simp [intOf]; omega
        · have hdd : ((gt l k : Int) != (gt m k : Int)) = true := by rw [bne_iff_ne]; omega
          have hD := Lib.hid hd; clear hd
          go_wp2
          go_quiet (fail)
          go_wp2
          go_ret
          exact ⟨ret_bool (decide_same_no k hD.out).symm, _, drewN_two _ _ _⟩
      · obtain rfl : k = l.length := by omega
        go_wp2
        go_ret
        refine ⟨ret_bool ?_, _, rfl⟩
        rw [eq_comm, decide_eq_true_iff]
        exact (same_iff hL.out).2 hS.out
  · have hne : ((l.length : Int) != (m.length : Int)) = true := by rw [bne_iff_ne]; omega
    have hfin : decide (l = m) = false := by rw [decide_eq_false_iff_not]; rintro rfl; exact hlen rfl
    have hF := Lib.hid hfin; clear hfin
    obtain ⟨a1, c1, rfl⟩ := h.shape
    obtain ⟨a2, c2, rfl⟩ := h'.shape
    clear h h' hlen
    go_enter Try.func80, Try.ntmps80
    go_wp2
    go_ret
    exact ⟨ret_bool hF.out.symm, 0, rfl⟩
theorem refSame_b (v v' : Value) (l m : List Nat) (w : World) (h : BRow w v l) (h' : BRow w v' m) :
    Calls Try.prog 80 #[v, v'] w fun e w' => e = .returned (.bool (decide (l = m))) ∧ Below w.heap.size w w' :=
  (refSame_calls v v' l m w h h').mono fun _ _ ⟨he, hw⟩ => ⟨he, below_drewN' hw⟩

/-! The reference's Read: the number that all digits make is taken if its form is just these bytes. -/
theorem rd_ref1 (m : List Nat) (h0 : m.length ≠ 0) (hc : gt m 0 ≤ 246) : rd m = (gt m 0, 1, 0) ∧ form (gt m 0) = m.take 1 := by
  have e : m.getD 0 0 - 246 = 0 := by unfold gt at hc; omega
  constructor
  · unfold rd gt
    rw [if_neg h0, e, if_neg (by omega), if_neg (by omega), if_pos rfl]
  · cases m with
    | nil => simp at h0
    | cons c r =>
      have : gt (c :: r) 0 = c := rfl
      rw [this] at hc ⊢
      unfold form
      rw [if_pos hc]
      rfl
theorem rd_ref255 (m : List Nat) (h0 : m.length ≠ 0) (hc : gt m 0 = 255) : rd m = (0, 0, 11) ∧ form 255 ≠ m.take 1 := by
  have e : m.getD 0 0 = 255 := hc
  constructor
  · unfold rd
    rw [if_neg h0, e, if_pos (by omega)]
  · intro h
    have := congrArg List.length h
    have h2 : (form 255).length = 2 := by rfl
    rw [h2, List.length_take] at this
    omega
theorem rd_refShort (m : List Nat) (h1 : 246 < gt m 0) (h2 : gt m 0 < 255) (hs : m.length < gt m 0 - 245) : rd m = (0, 0, 10) := by
  unfold gt at h1 h2 hs
  unfold rd
  by_cases h0 : m.length = 0
  · rw [if_pos h0]
  · rw [if_neg h0, if_neg (by omega), if_pos (by omega)]
theorem rd_refLong (m : List Nat) (hb : AllB m) (h1 : 246 < gt m 0) (h2 : gt m 0 < 255) (hs : ¬ m.length < gt m 0 - 245) :
    rd m = if form (val ((m.drop 1).take (gt m 0 - 246))) = m.take (gt m 0 - 245) then (val ((m.drop 1).take (gt m 0 - 246)), gt m 0 - 245, 0) else (0, 0, 11) := by
  have hrd : rd m = if numOk ((m.drop 1).take (gt m 0 - 246)) then (val ((m.drop 1).take (gt m 0 - 246)), 1 + (gt m 0 - 246), 0) else (0, 0, 11) := by
    unfold gt at h1 h2 hs ⊢
    unfold rd
    rw [if_neg (by omega), if_neg (by omega), if_neg (by omega), if_neg (by omega)]
  have e1 : 1 + (gt m 0 - 246) = gt m 0 - 245 := by omega
  rw [e1] at hrd
  by_cases hok : numOk ((m.drop 1).take (gt m 0 - 246)) = true
  · rw [if_pos hok] at hrd
    obtain ⟨r1, _, _, _⟩ := rd_right hb hrd
    rw [hrd, if_pos r1.symm]
  · rw [if_neg hok] at hrd
    rw [hrd, if_neg]
    intro hf
    have hx : val ((m.drop 1).take (gt m 0 - 246)) < 18446744073709551616 := by
      have h3 := val_lt _ ((hb.drop 1).take (gt m 0 - 246))
      have h4 : 256 ^ ((m.drop 1).take (gt m 0 - 246)).length ≤ 256 ^ 8 := Nat.pow_le_pow_right (by omega) (by simp; omega)
      have h5 : (256 : Nat) ^ 8 = 18446744073709551616 := by rfl
      omega
    have h6 := rd_form _ hx (m.drop (gt m 0 - 245))
    rw [hf, List.take_append_drop, hrd] at h6
    simp at h6

theorem below_draw1 (w : World) : Below w.heap.size w w.drew := (Below.refl _ w).drew

set_option maxRecDepth 100000 in
set_option maxHeartbeats 2000000 in
theorem refRead_in (v : Value) (l : List Nat) (w : World) (h : BRow w v l) (k : Nat) (hk : k < l.length) :
    Calls Try.prog 36 #[v, .int .i64 k] w fun e w' => e = .returned (.tuple #[.int .u64 (rd (l.drop k)).1, .int .i64 (rd (l.drop k)).2.1, .int .i64 (rd (l.drop k)).2.2]) ∧ Below w.heap.size w w' := by
  have hrow := Lib.hid h
  obtain ⟨hb, ⟨a, c, rfl, rfl, hac⟩ | ⟨b, off, cap, rfl, hc, hm, hcell⟩⟩ := h
  · simp at hk
  have hm' := Lib.hid hm
  unfold maxLen at hm
  have hH := Lib.hid hcell
  have hcellk := hcell k hk
  have hgk := gt_lt hb k
  have hck : ¬ cap = k := by omega
  have hg0 : gt (l.drop k) 0 = gt l k := by rw [gt_drop]; rfl
  have hdl : (l.drop k).length = l.length - k := List.length_drop
  have hkl : ((k : Int) == (l.length : Int)) = false := beq_eq_false_iff_ne.2 (by omega)
  have HBd := Lib.hid (hb.drop k)
  clear hcell hb
  by_cases hc1 : gt l k ≤ 246
  · obtain ⟨r1, r2⟩ := rd_ref1 (l.drop k) (by omega) (by omega)
    rw [hg0] at r1 r2
    have HS := Lib.hid (hrow.out.sub k (k + 1) (off + k) 1 (cap - k) (by omega) (by omega) rfl (by omega) (by omega) (Nat.le_trans (Nat.sub_le _ _) hm'.out))
    rw [show k + 1 - k = 1 by omega, ← r2] at HS
    have HF := Lib.hid r1
    have HX := Lib.hid (show gt l k < 18446744073709551616 by omega)
    clear r1 r2 hg0 hdl
    have q1 : IntKind.i64.wrap ((k : Int) + 1) = (k : Int) + 1 := IntWalk.i64_in _ ⟨by omega, by omega⟩
    have q2 : (0 : Int) ≤ (k : Int) + 1 := by omega
    have q3 : (k : Int) + 1 ≤ (cap : Int) := by omega
    have q4 : ((k : Int) + 1).toNat = k + 1 := by omega
    have q5 : k + 1 - k = 1 := by omega
    go_enter Try.func36, Try.ntmps36
    go_wp2_with fail
    go_region_law (first
      | (go_simp; go_at_call 15; refine (refForm_calls _ _ HX.out).mono ?_; rintro e w1 ⟨v1, rfl, hown1, hb1⟩; have HO1 := Lib.hid (BRow.of_own hown1 (form_allB _)); have HB1 := Lib.hid ((below_draw1 w).trans hb1); have HC1 := Lib.hid (by have := refSame_b _ _ _ _ w1 (BRow.of_own hown1 (form_allB _)) (HS.out.below ((below_draw1 w).trans hb1)); rw [decide_eq_true rfl] at this; exact this); clear hown1 hb1)
      | (go_simp; go_at_call 80; refine HC1.out.mono ?_; rintro e w2 ⟨rfl, hb2⟩; have HB2 := Lib.hid (HB1.out.trans (hb2.mono HB1.out.size)); clear hb2)
      | fail)
    all_goals
      go_wp2
      go_ret3
      rw [HF.out]
      exact ⟨rfl, HB2.out⟩
  · by_cases hc2 : gt l k = 255
    · obtain ⟨r1, r2⟩ := rd_ref255 (l.drop k) (by omega) (by omega)
      have HS := Lib.hid (hrow.out.sub k (k + 1) (off + k) 1 (cap - k) (by omega) (by omega) rfl (by omega) (by omega) (Nat.le_trans (Nat.sub_le _ _) hm'.out))
      rw [show k + 1 - k = 1 by omega] at HS
      have HF := Lib.hid r1
      have HNE := Lib.hid r2
      clear r1 r2 hg0 hdl hc1
      rw [hc2] at hcellk
      have hlt246 : (246 : Int) < 255 := by omega
      have q1 : IntKind.i64.wrap ((k : Int) + 1) = (k : Int) + 1 := IntWalk.i64_in _ ⟨by omega, by omega⟩
      have q2 : (0 : Int) ≤ (k : Int) + 1 := by omega
      have q3 : (k : Int) + 1 ≤ (cap : Int) := by omega
      have q4 : ((k : Int) + 1).toNat = k + 1 := by omega
      have q5 : k + 1 - k = 1 := by omega
      have hcell255 : w.cell? ⟨b, off + k, none⟩ = some (.int .u8 255) := hcellk
      clear hcellk hgk hc2
      go_enter Try.func36, Try.ntmps36
      go_wp2_with fail
      go_region_law (first
        | (go_simp; go_at_call 15; refine (refForm_calls 255 _ (by omega)).mono ?_; rintro e w1 ⟨v1, rfl, hown1, hb1⟩; have HO1 := Lib.hid (BRow.of_own hown1 (form_allB _)); have HB1 := Lib.hid ((below_draw1 w).trans hb1); have HC1 := Lib.hid (by have := refSame_b _ _ _ _ w1 (BRow.of_own hown1 (form_allB _)) (HS.out.below ((below_draw1 w).trans hb1)); rw [decide_eq_false HNE.out] at this; exact this); clear hown1 hb1)
        | (go_simp; go_at_call 80; refine HC1.out.mono ?_; rintro e w2 ⟨rfl, hb2⟩; have HB2 := Lib.hid (HB1.out.trans (hb2.mono HB1.out.size)); clear hb2)
        | fail)
      all_goals
        go_wp2
        go_ret3
        rw [HF.out]
        exact ⟨rfl, HB2.out⟩
    · by_cases hsh : l.length - k < gt l k - 245
      · have hrd := rd_refShort (l.drop k) (by omega) (by omega) (by omega)
        have HF := Lib.hid hrd
        clear hrd hg0 hdl
        have h246 : (246 : Int) < (gt l k : Int) := by omega
        have h255 : (gt l k : Int) < 255 := by omega
        have hshi : (l.length : Int) - (k : Int) < (gt l k : Int) - 245 := by omega
        go_enter Try.func36, Try.ntmps36
        go_wp2
        go_ret3
        rw [HF.out]
        exact ⟨rfl, Below.refl _ _⟩
      · have hrd := rd_refLong (l.drop k) HBd.out (by omega) (by omega) (by omega)
        rw [hg0] at hrd
        have HF := Lib.hid hrd
        obtain ⟨n, hn⟩ : ∃ n, gt l k = n + 246 := ⟨gt l k - 246, by omega⟩
        have HS := Lib.hid (hrow.out.sub k (k + (n + 1)) (off + k) (n + 1) (cap - k) (by omega) (by omega) rfl (by omega) (by omega) (Nat.le_trans (Nat.sub_le _ _) hm'.out))
        rw [show k + (n + 1) - k = n + 1 by omega] at HS
        rw [hn, show n + 246 - 246 = n by omega, show n + 246 - 245 = n + 1 by omega] at HF
        have hn1 : 1 ≤ n := by omega
        have hn8 : n ≤ 8 := by omega
        have hkn : k + (n + 1) ≤ l.length := by omega
        rw [hn] at hcellk
        have HX := Lib.hid (show val (((l.drop k).drop 1).take n) < 18446744073709551616 from by
          have h3 := val_lt _ ((HBd.out.drop 1).take n)
          have h4 : 256 ^ (((l.drop k).drop 1).take n).length ≤ 256 ^ 8 := Nat.pow_le_pow_right (by omega) (by simp; omega)
          have h5 : (256 : Nat) ^ 8 = 18446744073709551616 := by rfl
          omega)
        have hds : ∀ i, i < n → gt (((l.drop k).drop 1).take n) i = gt l (k + 1 + i) := fun i hi => by
          rw [gt_take hi, gt_drop, gt_drop, Nat.add_assoc]
        have hdn : (((l.drop k).drop 1).take n).length = n := by simp; omega
        have HDS := Lib.hid hds
        have HDN := Lib.hid hdn
        have HDB := Lib.hid ((HBd.out.drop 1).take n)
        clear hds hdn hrd hg0 hdl hsh hc1 hc2 hn hgk
        generalize ((l.drop k).drop 1).take n = ds at *
        go_enter Try.func36, Try.ntmps36
        go_wp2_with fail
        rw [show (n : Int) + 246 - 245 = (n : Int) + 1 by omega]
        go_loop [8, 9] (fun x i => ∃ j : Nat, j ≤ n ∧ i = .int .i64 ((j + 1 : Nat) : Int) ∧ x = .int .u64 (val (ds.take j) : Nat)) (fun _ i => n + 1 - (intOf i).toNat)
        case atStart => exact ⟨0, by omega, rfl, rfl⟩
        case round =>
          obtain ⟨j, hj, rfl, rfl⟩ := hrel
          by_cases hlt : j < n
          · have d1 := hH.out (k + (j + 1)) (by omega)
            have d2 := gt_lt HDB.out j
            have d3 := HDS.out j hlt
            rw [show k + 1 + j = k + (j + 1) by omega] at d3
            rw [← d3] at d1
            have v1 := val_take_lt HDB.out j (by rw [HDN.out]; exact hlt) (by rw [HDN.out]; exact hn8)
            have HV := Lib.hid (val_take_succ (l := ds) j (by rw [HDN.out]; exact hlt))
            clear d3
            go_wp2
            go_round
            case rel => exact ⟨j + 1, by omega, by go_num, by rw [HV.out]; go_num⟩
            case measure => simp [intOf]; omega
          · obtain rfl : j = n := by omega
            have htk : ds.take j = ds := List.take_of_length_le (by rw [HDN.out]; exact Nat.le_refl _)
            rw [htk]
            clear htk
            have q1 : IntKind.i64.wrap ((k : Int) + ((j : Int) + 1)) = (k : Int) + ((j : Int) + 1) := IntWalk.i64_in _ ⟨by omega, by omega⟩
            have q2 : (0 : Int) ≤ (k : Int) + ((j : Int) + 1) := by omega
            have q3 : (k : Int) + ((j : Int) + 1) ≤ (cap : Int) := by omega
            have q4 : ((k : Int) + ((j : Int) + 1)).toNat = k + (j + 1) := by omega
            have q5 : k + (j + 1) - k = j + 1 := by omega
            have q6 : k ≤ k + (j + 1) := by omega
            generalize hv : val ds = x at *
            by_cases hsame : form x = List.take (j + 1) (l.drop k)
            · have HF2 := Lib.hid (show rd (l.drop k) = (x, j + 1, 0) by rw [HF.out, if_pos hsame])
              have HSM := Lib.hid hsame
              clear hv hsame HF
              go_wp2_with fail
              go_region_law (first
                | (go_simp; go_at_call 15; refine (refForm_calls x _ HX.out).mono ?_; rintro e w1 ⟨v1, rfl, hown1, hb1⟩; have HO1 := Lib.hid (BRow.of_own hown1 (form_allB _)); have HB1 := Lib.hid ((below_draw1 w).trans hb1); have HC1 := Lib.hid (by have := refSame_b _ _ _ _ w1 (BRow.of_own hown1 (form_allB _)) (HS.out.below ((below_draw1 w).trans hb1)); rw [decide_eq_true HSM.out] at this; exact this); clear hown1 hb1)
                | (go_simp; go_at_call 80; refine HC1.out.mono ?_; rintro e w2 ⟨rfl, hb2⟩; have HB2 := Lib.hid (HB1.out.trans (hb2.mono HB1.out.size)); clear hb2)
                | fail)
              all_goals
                go_wp2
                go_ret3
                rw [HF2.out]
                exact ⟨rfl, HB2.out⟩
            · have HF2 := Lib.hid (show rd (l.drop k) = (0, 0, 11) by rw [HF.out, if_neg hsame])
              have HSM := Lib.hid hsame
              clear hv hsame HF
              go_wp2_with fail
              go_region_law (first
                | (go_simp; go_at_call 15; refine (refForm_calls x _ HX.out).mono ?_; rintro e w1 ⟨v1, rfl, hown1, hb1⟩; have HO1 := Lib.hid (BRow.of_own hown1 (form_allB _)); have HB1 := Lib.hid ((below_draw1 w).trans hb1); have HC1 := Lib.hid (by have := refSame_b _ _ _ _ w1 (BRow.of_own hown1 (form_allB _)) (HS.out.below ((below_draw1 w).trans hb1)); rw [decide_eq_false HSM.out] at this; exact this); clear hown1 hb1)
                | (go_simp; go_at_call 80; refine HC1.out.mono ?_; rintro e w2 ⟨rfl, hb2⟩; have HB2 := Lib.hid (HB1.out.trans (hb2.mono HB1.out.size)); clear hb2)
                | fail)
              all_goals
                go_wp2
                go_ret3
                rw [HF2.out]
                exact ⟨rfl, HB2.out⟩
end Go.Proofs.Ytfgiejeeolnhbaa
