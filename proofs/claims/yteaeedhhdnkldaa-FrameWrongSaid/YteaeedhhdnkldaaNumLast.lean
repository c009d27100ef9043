/-
  CONTRACTS of num.Last, num.Int and num.Compare at any bytes; the world is left alone.
-/
import Derived.Test.YteaeedhhdnkldaaNumReadB
namespace Go.Proofs.Yteaeedhhdnkldaa
open Go.RowKit Pl

def lastN (l : List Nat) : Nat × Nat × Nat := if (rd l).2.2 ≠ 0 then (0, 0, (rd l).2.2) else if (rd l).2.1 < l.length then (0, 0, 11) else rd l
def intN (l : List Nat) (k least most : Int) : Int × Nat × Nat :=
  if (rdAt l k).2.2 ≠ 0 then (0, 0, (rdAt l k).2.2) else if ((rdAt l k).1 : Int) > 9223372036854775807 ∨ ((rdAt l k).1 : Int) < least ∨ ((rdAt l k).1 : Int) > most then (0, 0, 12) else ((rdAt l k).1, (rdAt l k).2.1, 0)

theorem BRow.shape {w : World} {v : Value} {l : List Nat} (h : BRow w v l) : ∃ a cap, v = .slice a l.length cap := by
  obtain ⟨_, ⟨a, c, rfl, rfl, _⟩ | ⟨b, off, cap, rfl, _⟩⟩ := h
  · exact ⟨_, _, rfl⟩
  · exact ⟨_, _, rfl⟩

theorem rdAt_zero (l : List Nat) : rdAt l 0 = rd l := by
  unfold rdAt
  rw [if_neg (by omega)]
  rfl

/-- What Read says lies within a word. -/
theorem rd_range (l : List Nat) (hb : AllB l) : (rd l).1 < 18446744073709551616 ∧ (rd l).2.1 ≤ l.length := by
  by_cases h : (rd l).2.2 = 0
  · have hr : rd l = ((rd l).1, (rd l).2.1, 0) := by rw [← h]
    obtain ⟨_, _, h3, h4⟩ := rd_right hb hr
    exact ⟨h4, h3⟩
  · have : (rd l).1 = 0 ∧ (rd l).2.1 = 0 := by
      revert h
      unfold rd
      split
      · simp
      split
      · simp
      split
      · simp
      split
      · simp
      split <;> simp
    omega
theorem rdAt_range (l : List Nat) (hb : AllB l) (k : Int) : (rdAt l k).1 < 18446744073709551616 ∧ (rdAt l k).2.1 ≤ l.length := by
  unfold rdAt
  split
  · simp
  · have := rd_range (l.drop k.toNat) (hb.drop _)
    rw [List.length_drop] at this
    omega

set_option maxRecDepth 100000 in
set_option maxHeartbeats 1000000 in
theorem last_calls (v : Value) (l : List Nat) (w : World) (h : BRow w v l) :
    Calls Try.prog 52 #[v] w fun e w' => e = .returned (.tuple #[.int .u64 (lastN l).1, .int .i64 (lastN l).2.1, .int .i64 (lastN l).2.2]) ∧ w = w' := by
  have hR := read_calls v l w h 0 (by omega) (by omega)
  rw [rdAt_zero] at hR
  have hR' := Lib.hid hR; clear hR
  have hlen := h.len_le
  obtain ⟨a, cap, rfl⟩ := h.shape
  have hdef : lastN l = if (rd l).2.2 ≠ 0 then (0, 0, (rd l).2.2) else if (rd l).2.1 < l.length then (0, 0, 11) else rd l := rfl
  have hdef' := Lib.hid hdef; clear hdef h
  generalize hx : rd l = r at hR' hdef'
  obtain ⟨x, n, er⟩ := r
  clear hx
  dsimp only at hR' hdef'
  by_cases her : er = 0
  · subst her
    have hne : ((0 : Int) != 0) = false := rfl
    by_cases hn : n < l.length
    · have hfin : lastN l = (0, 0, 11) := by rw [hdef'.out, if_neg (by simp), if_pos hn]
      have hfin' := Lib.hid hfin; clear hfin hdef'
      go_enter Try.func52, Try.ntmps52
      go_wp2_with fail
      refine hR'.out.mono ?_
      rintro e w' ⟨rfl, rfl⟩
      go_wp2
      go_ret3
      refine ⟨?_, rfl⟩
      rw [hfin'.out]
      exact ret_read rfl rfl rfl
    · have hfin : lastN l = (x, n, 0) := by rw [hdef'.out, if_neg (by simp), if_neg hn]
      have hfin' := Lib.hid hfin; clear hfin hdef'
      go_enter Try.func52, Try.ntmps52
      go_wp2_with fail
      refine hR'.out.mono ?_
      rintro e w' ⟨rfl, rfl⟩
      go_wp2
      go_ret3
      refine ⟨?_, rfl⟩
      rw [hfin'.out]
      exact ret_read rfl rfl rfl
  · have hne : ((er : Int) != 0) = true := by rw [bne_iff_ne]; omega
    have hfin : lastN l = (0, 0, er) := by rw [hdef'.out, if_pos her]
    have hfin' := Lib.hid hfin; clear hfin hdef'
    go_enter Try.func52, Try.ntmps52
    go_wp2_with fail
    refine hR'.out.mono ?_
    rintro e w' ⟨rfl, rfl⟩
    go_wp2
    go_ret3
    refine ⟨?_, rfl⟩
    rw [hfin'.out]
    exact ret_read rfl rfl rfl

theorem ret_int3 {k : IntKind} {a b c a' b' c' : Int} (h1 : a = a') (h2 : b = b') (h3 : c = c') : Ending.returned (.tuple #[.int k a, .int .i64 b, .int .i64 c]) = .returned (.tuple #[.int k a', .int .i64 b', .int .i64 c']) := by rw [h1, h2, h3]

set_option maxRecDepth 100000 in
set_option maxHeartbeats 1000000 in
theorem int_calls (v : Value) (l : List Nat) (w : World) (h : BRow w v l) (k : Int) (hk1 : -9223372036854775808 ≤ k) (hk2 : k ≤ 9223372036854775807) (least most : Int) :
    Calls Try.prog 54 #[v, .int .i64 k, .int .i64 least, .int .i64 most] w fun e w' => e = .returned (.tuple #[.int .i64 (intN l k least most).1, .int .i64 (intN l k least most).2.1, .int .i64 (intN l k least most).2.2]) ∧ w = w' := by
  have hR := read_calls v l w h k hk1 hk2
  have hR' := Lib.hid hR; clear hR
  have hrng := rdAt_range l h.1 k
  have hdef : intN l k least most = if (rdAt l k).2.2 ≠ 0 then (0, 0, (rdAt l k).2.2) else if ((rdAt l k).1 : Int) > 9223372036854775807 ∨ ((rdAt l k).1 : Int) < least ∨ ((rdAt l k).1 : Int) > most then (0, 0, 12) else (((rdAt l k).1 : Int), (rdAt l k).2.1, 0) := rfl
  have hdef' := Lib.hid hdef; clear hdef h
  generalize hx : rdAt l k = r at hR' hdef' hrng
  obtain ⟨x, n, er⟩ := r
  clear hx
  dsimp only at hR' hdef' hrng
  obtain ⟨hx, -⟩ := hrng
  by_cases her : er = 0
  · subst her
    have hne : ((0 : Int) != 0) = false := rfl
    by_cases h1 : (9223372036854775807 : Int) < x
    · have hd : decide ((9223372036854775807 : Int) < x) = true := by simpa using h1
      have hfin : intN l k least most = (0, 0, 12) := by rw [hdef'.out, if_neg (by simp), if_pos (.inl h1)]
      have hfin' := Lib.hid hfin; clear hfin hdef'
      go_enter Try.func54, Try.ntmps54
      go_wp2_with fail
      refine hR'.out.mono ?_
      rintro e w' ⟨rfl, rfl⟩
      go_wp2
      go_ret3
      refine ⟨?_, rfl⟩
      rw [hfin'.out]
      exact ret_int3 rfl rfl rfl
    · have hd : decide ((9223372036854775807 : Int) < x) = false := by simpa using h1
      have h1' : (x : Int) ≤ 9223372036854775807 := by omega
      clear h1
      by_cases h2 : (x : Int) < least
      · have hd2 : decide ((x : Int) < least) = true := by simpa using h2
        have hfin : intN l k least most = (0, 0, 12) := by rw [hdef'.out, if_neg (by simp), if_pos (.inr (.inl h2))]
        have hfin' := Lib.hid hfin; clear hfin hdef'
        go_enter Try.func54, Try.ntmps54
        go_wp2_with fail
        refine hR'.out.mono ?_
        rintro e w' ⟨rfl, rfl⟩
        go_wp2
        go_ret3
        refine ⟨?_, rfl⟩
        rw [hfin'.out]
        exact ret_int3 rfl rfl rfl
      · have hd2 : decide ((x : Int) < least) = false := by simpa using h2
        by_cases h3 : most < (x : Int)
        · have hd3 : decide (most < (x : Int)) = true := by simpa using h3
          have hfin : intN l k least most = (0, 0, 12) := by rw [hdef'.out, if_neg (by simp), if_pos (.inr (.inr h3))]
          have hfin' := Lib.hid hfin; clear hfin hdef'
          go_enter Try.func54, Try.ntmps54
          go_wp2_with fail
          refine hR'.out.mono ?_
          rintro e w' ⟨rfl, rfl⟩
          go_wp2
          go_ret3
          refine ⟨?_, rfl⟩
          rw [hfin'.out]
          exact ret_int3 rfl rfl rfl
        · have hd3 : decide (most < (x : Int)) = false := by simpa using h3
          have hfin : intN l k least most = ((x : Int), n, 0) := by rw [hdef'.out, if_neg (by simp), if_neg (by omega)]
          have hfin' := Lib.hid hfin; clear hfin hdef'
          go_enter Try.func54, Try.ntmps54
          go_wp2_with fail
          refine hR'.out.mono ?_
          rintro e w' ⟨rfl, rfl⟩
          go_wp2
          go_ret3
          refine ⟨?_, rfl⟩
          rw [hfin'.out]
          exact ret_int3 rfl rfl rfl
  · have hne : ((er : Int) != 0) = true := by rw [bne_iff_ne]; omega
    have hfin : intN l k least most = (0, 0, er) := by rw [hdef'.out, if_pos her]
    have hfin' := Lib.hid hfin; clear hfin hdef'
    go_enter Try.func54, Try.ntmps54
    go_wp2_with fail
    refine hR'.out.mono ?_
    rintro e w' ⟨rfl, rfl⟩
    go_wp2
    go_ret3
    refine ⟨?_, rfl⟩
    rw [hfin'.out]
    exact ret_int3 rfl rfl rfl
end Go.Proofs.Yteaeedhhdnkldaa
