/-
  CONTRACT of num.Read at any bytes and any offset: what the plain function 'rdAt' says; the world is left alone.
-/
import Derived.Test.YteaeedhhdnkldaaNumRead
namespace Go.Proofs.Yteaeedhhdnkldaa
open Go.RowKit Pl

set_option maxRecDepth 100000 in
set_option maxHeartbeats 1000000 in
theorem read_end (v : Value) (l : List Nat) (w : World) (h : BRow w v l) (hlen : l.length ≤ 9223372036854775807) :
    Calls Try.prog 50 #[v, .int .i64 l.length] w fun e w' => e = .returned (.tuple #[.int .u64 0, .int .i64 0, .int .i64 10]) ∧ w = w' := by
  have hrow := Lib.hid h
  have ht : ∀ (a : Option Addr) (c : Nat), c ≤ maxLen → Calls Try.prog 112 #[.slice a 0 c] w fun e w' => e = .returned (.tuple #[.int .i64 0, .int .i64 10]) ∧ w = w' :=
    fun a c hc => (told_calls (.slice a 0 c) [] w (BRow.empty a c hc)).mono fun e w' h => h
  have HT := Lib.hid ht; clear ht
  obtain ⟨hb, ⟨a, c, rfl, rfl, hac⟩ | ⟨b, off, cap, rfl, hc, hm, hcell⟩⟩ := h
  · have e0 : ((([] : List Nat).length : Nat) : Int) = 0 := rfl
    rw [e0]
    have hA := Lib.hid hac
    clear hac
    by_cases hc0 : c = 0
    · subst hc0
      go_enter Try.func50, Try.ntmps50
      go_wp2_with (go_at_call 112; refine (HT.out _ _ (by first | exact hA.out | exact Nat.zero_le _)).mono ?_; rintro e w' ⟨rfl, rfl⟩)
      go_ret3
      exact ⟨rfl, rfl⟩
    · go_enter Try.func50, Try.ntmps50
      go_wp2_with (go_at_call 112; refine (HT.out _ _ (by first | exact hA.out | exact Nat.zero_le _)).mono ?_; rintro e w' ⟨rfl, rfl⟩)
      go_ret3
      exact ⟨rfl, rfl⟩
  · clear hcell hb
    have hm' := Lib.hid hm
    unfold maxLen at hm
    by_cases hck : cap = l.length
    · subst hck
      go_enter Try.func50, Try.ntmps50
      go_wp2_with fail
      refine (HT.out _ 0 (Nat.zero_le _)).mono ?_
      rintro e w' ⟨rfl, rfl⟩
      go_wp2
      go_ret3
      exact ⟨rfl, rfl⟩
    · go_enter Try.func50, Try.ntmps50
      go_wp2_with fail
      refine (HT.out _ (cap - l.length) (Nat.le_trans (Nat.sub_le _ _) hm'.out)).mono ?_
      rintro e w' ⟨rfl, rfl⟩
      go_wp2
      go_ret3
      exact ⟨rfl, rfl⟩

set_option maxRecDepth 100000 in
set_option maxHeartbeats 1000000 in
theorem read_in (v : Value) (l : List Nat) (w : World) (h : BRow w v l) (k : Nat) (hk : k < l.length) :
    Calls Try.prog 50 #[v, .int .i64 k] w fun e w' => e = .returned (.tuple #[.int .u64 (rd (l.drop k)).1, .int .i64 (rd (l.drop k)).2.1, .int .i64 (rd (l.drop k)).2.2]) ∧ w = w' := by
  have hrow := Lib.hid h
  obtain ⟨hb, ⟨a, c, rfl, rfl, hac⟩ | ⟨b, off, cap, rfl, hc, hm, hcell⟩⟩ := h
  · simp at hk
  · have hm' := Lib.hid hm
    unfold maxLen at hm
    have hT := Lib.hid (told_calls _ _ w (hrow.out.drop k (off + k) (l.length - k) (cap - k) (by omega) rfl rfl (by omega) (Nat.le_trans (Nat.sub_le _ _) hm'.out)))
    have hcellk := hcell k hk
    have hgk := gt_lt hb k
    have hck : ¬ cap = k := by omega
    have hrd := Lib.hid (rd_of (l.drop k))
    have hroom := Lib.hid (told_room (m := l.drop k))
    have hg0 := Lib.hid (gt_drop l k 0)
    clear hcell hb
    generalize hn : toldN (l.drop k) = n at hT hrd hroom
    generalize he : toldE (l.drop k) = er at hT hrd hroom
    clear hn he
    by_cases her : er = 0
    · subst her
      have hne : ((0 : Int) != 0) = false := rfl
      obtain ⟨r1, r2, r3⟩ := hroom.out rfl
      rw [List.length_drop] at r1 r2
      clear hroom
      by_cases hn0 : n = 0
      · subst hn0
        have hz : ((0 : Int) == 0) = true := rfl
        go_enter Try.func50, Try.ntmps50
        go_wp2_with fail
        refine hT.out.mono ?_
        rintro e w' ⟨rfl, rfl⟩
        go_wp2
        go_ret3
        refine ⟨?_, rfl⟩
        rw [hrd.out]
        simp [hg0.out]
      · have hz : ((n : Int) == 0) = false := beq_eq_false_iff_ne.2 (by omega)
        have hN := Lib.hid (number_calls _ _ w (hrow.out.sub (k + 1) (k + 1 + n) (off + (k + 1)) n (cap - (k + 1)) (by omega) (by omega) rfl (by omega) (by omega) (Nat.le_trans (Nat.sub_le _ _) hm'.out)) (by simp; omega) (by simp; omega))
        have hsub : (l.drop (k + 1)).take (k + 1 + n - (k + 1)) = ((l.drop k).drop 1).take n := by
          rw [List.drop_drop]; congr 1; omega
        rw [hsub] at hN
        clear hsub
        generalize hd : ((l.drop k).drop 1).take n = d at hN hrd
        clear hd
        go_enter Try.func50, Try.ntmps50
        go_wp2_with fail
        refine hT.out.mono ?_
        rintro e w' ⟨rfl, rfl⟩
        go_wp2_with fail
        refine hN.out.mono ?_
        rintro e w' ⟨rfl, rfl⟩
        by_cases hok : numOk d = true
        · have hok1 : (!numOk d) = false := by rw [hok]; rfl
          have hfin : rd (l.drop k) = (val d, 1 + n, 0) := by rw [hrd.out, if_neg (by simp), if_neg hn0, if_pos hok]
          have hval : numV d = val d := by unfold numV; rw [if_pos hok]
          have hfin' := Lib.hid hfin; clear hfin
          have hval' := Lib.hid hval; clear hval
          go_wp2
          go_ret3
          refine ⟨?_, rfl⟩
          rw [hfin'.out, hval'.out]
          exact ret_read rfl (by dsimp only; omega) rfl
        · have hok2 : numOk d = false := by simpa using hok
          have hok1 : (!numOk d) = true := by rw [hok2]; rfl
          have hfin : rd (l.drop k) = (0, 0, 11) := by rw [hrd.out, if_neg (by simp), if_neg hn0, if_neg hok]
          have hfin' := Lib.hid hfin; clear hfin hok
          go_wp2
          go_ret3
          refine ⟨?_, rfl⟩
          rw [hfin'.out]
          exact ret_read rfl rfl rfl
    · have hne : ((er : Int) != 0) = true := by rw [bne_iff_ne]; omega
      go_enter Try.func50, Try.ntmps50
      go_wp2_with fail
      refine hT.out.mono ?_
      rintro e w' ⟨rfl, rfl⟩
      go_wp2
      go_ret3
      refine ⟨?_, rfl⟩
      rw [hrd.out]
      simp [her]


theorem BRow.len_le {w : World} {v : Value} {l : List Nat} (h : BRow w v l) : l.length ≤ 9223372036854775807 := by
  obtain ⟨_, ⟨_, _, _, rfl, _⟩ | ⟨_, _, cap, _, h1, h2, _⟩⟩ := h
  · simp
  · unfold maxLen at h2; omega

set_option maxRecDepth 100000 in
set_option maxHeartbeats 1000000 in
/-- num.Read, at any bytes and any offset. -/
theorem read_calls (v : Value) (l : List Nat) (w : World) (h : BRow w v l) (k : Int) (hk1 : -9223372036854775808 ≤ k) (hk2 : k ≤ 9223372036854775807) :
    Calls Try.prog 50 #[v, .int .i64 k] w fun e w' => e = .returned (.tuple #[.int .u64 (rdAt l k).1, .int .i64 (rdAt l k).2.1, .int .i64 (rdAt l k).2.2]) ∧ w = w' := by
  have hlen := h.len_le
  by_cases hb : k < 0 ∨ (l.length : Int) < k
  · have hfin : rdAt l k = (0, 0, 2) := by unfold rdAt; rw [if_pos hb]
    have hfin' := Lib.hid hfin; clear hfin
    have hv : ∃ a cap, v = .slice a l.length cap := by
      obtain ⟨_, ⟨a, c, rfl, rfl, _⟩ | ⟨b, off, cap, rfl, _⟩⟩ := h
      · exact ⟨_, _, rfl⟩
      · exact ⟨_, _, rfl⟩
    obtain ⟨a, cap, rfl⟩ := hv
    clear h
    by_cases h0 : k < 0
    · clear hb
      have hd : decide (k < 0) = true := by simpa using h0
      go_enter Try.func50, Try.ntmps50
      go_wp2
      go_ret3
      refine ⟨?_, rfl⟩
      rw [hfin'.out]
      exact ret_read rfl rfl rfl
    · have h1 : (l.length : Int) < k := by omega
      have hd : decide (k < 0) = false := by simp; omega
      clear hb
      go_enter Try.func50, Try.ntmps50
      go_wp2
      go_ret3
      refine ⟨?_, rfl⟩
      rw [hfin'.out]
      exact ret_read rfl rfl rfl
  · obtain ⟨n, rfl⟩ := Int.eq_ofNat_of_zero_le (show 0 ≤ k by omega)
    have hfin : rdAt l n = rd (l.drop n) := by unfold rdAt; rw [if_neg hb]; rfl
    rw [hfin]
    by_cases hn : n < l.length
    · exact read_in v l w h n hn
    · obtain rfl : n = l.length := by omega
      rw [List.drop_length]
      exact read_end v l w h hlen

end Go.Proofs.Yteaeedhhdnkldaa
