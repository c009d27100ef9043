/-
  CONTRACTS of cmp.Compare at uint64 and of num.Compare at any bytes; the world is left alone.
-/
import Derived.Test.YteaeedhhdnkldaaNumLast
namespace Go.Proofs.Yteaeedhhdnkldaa
open Go.RowKit Pl

def cmpI (x y : Int) : Int := if x < y then -1 else if y < x then 1 else 0
def compareN (l m : List Nat) : Int × Nat := if (lastN l).2.2 ≠ 0 then (0, (lastN l).2.2) else if (lastN m).2.2 ≠ 0 then (0, (lastN m).2.2) else (cmpI (lastN l).1 (lastN m).1, 0)

theorem isNaN_calls (x : Int) (w : World) : Calls Try.prog 139 #[.int .u64 x] w fun e w' => e = .returned (.bool false) ∧ w = w' := by
  go_enter Try.func139, Try.ntmps139
  go_wp2
  go_ret
  exact ⟨rfl, rfl⟩

set_option maxRecDepth 100000 in
set_option maxHeartbeats 1000000 in
theorem cmp_calls (x y : Int) (w : World) : Calls Try.prog 116 #[.int .u64 x, .int .u64 y] w fun e w' => e = .returned (.int .i64 (cmpI x y)) ∧ w = w' := by
  by_cases h1 : x < y
  · have hF := Lib.hid (show cmpI x y = -1 by unfold cmpI; rw [if_pos h1])
    go_enter Try.func116, Try.ntmps116
    go_wp2
    go_ret
    exact ⟨ret_int hF.out.symm, rfl⟩
  · by_cases h2 : y < x
    · have hF := Lib.hid (show cmpI x y = 1 by unfold cmpI; rw [if_neg h1, if_pos h2])
      go_enter Try.func116, Try.ntmps116
      go_wp2
      go_ret
      exact ⟨ret_int hF.out.symm, rfl⟩
    · have hF := Lib.hid (show cmpI x y = 0 by unfold cmpI; rw [if_neg h1, if_neg h2])
      go_enter Try.func116, Try.ntmps116
      go_wp2
      go_ret
      exact ⟨ret_int hF.out.symm, rfl⟩

theorem ret_cmp {a b a' b' : Int} (h1 : a = a') (h2 : b = b') : Ending.returned (.tuple #[.int .i64 a, .int .i64 b]) = .returned (.tuple #[.int .i64 a', .int .i64 b']) := by rw [h1, h2]

set_option maxRecDepth 100000 in
set_option maxHeartbeats 1000000 in
theorem compare_calls (v v' : Value) (l m : List Nat) (w : World) (h : BRow w v l) (h' : BRow w v' m) :
    Calls Try.prog 58 #[v, v'] w fun e w' => e = .returned (.tuple #[.int .i64 (compareN l m).1, .int .i64 (compareN l m).2]) ∧ w = w' := by
  have hl := Lib.hid (last_calls v l w h)
  have hm := Lib.hid (last_calls v' m w h')
  have hdef := Lib.hid (show compareN l m = if (lastN l).2.2 ≠ 0 then (0, (lastN l).2.2) else if (lastN m).2.2 ≠ 0 then (0, (lastN m).2.2) else (cmpI (lastN l).1 (lastN m).1, 0) from rfl)
  clear h h'
  generalize hx : lastN l = r at hl hdef
  generalize hy : lastN m = r' at hm hdef
  obtain ⟨x, n, er⟩ := r
  obtain ⟨x', n', er'⟩ := r'
  clear hx hy
  dsimp only at hl hm hdef
  by_cases her : er = 0
  · subst her
    have hne : ((0 : Int) != 0) = false := rfl
    by_cases her' : er' = 0
    · subst her'
      have hF := Lib.hid (show compareN l m = (cmpI x x', 0) by rw [hdef.out, if_neg (by simp), if_neg (by simp)])
      clear hdef
      go_enter Try.func58, Try.ntmps58
      go_wp2_with fail
      refine hl.out.mono ?_
      rintro e w' ⟨rfl, rfl⟩
      go_wp2_with fail
      refine hm.out.mono ?_
      rintro e w' ⟨rfl, rfl⟩
      go_wp2_with fail
      refine (cmp_calls _ _ _).mono ?_
      rintro e w' ⟨rfl, rfl⟩
      go_wp2
      go_ret2
      refine ⟨?_, rfl⟩
      rw [hF.out]
      exact ret_cmp rfl rfl
    · have hne' : ((er' : Int) != 0) = true := by rw [bne_iff_ne]; omega
      have hF := Lib.hid (show compareN l m = (0, er') by rw [hdef.out, if_neg (by simp), if_pos her'])
      clear hdef
      go_enter Try.func58, Try.ntmps58
      go_wp2_with fail
      refine hl.out.mono ?_
      rintro e w' ⟨rfl, rfl⟩
      go_wp2_with fail
      refine hm.out.mono ?_
      rintro e w' ⟨rfl, rfl⟩
      go_wp2
      go_ret2
      refine ⟨?_, rfl⟩
      rw [hF.out]
      exact ret_cmp rfl rfl
  · have hne : ((er : Int) != 0) = true := by rw [bne_iff_ne]; omega
    have hF := Lib.hid (show compareN l m = (0, er) by rw [hdef.out, if_pos her])
    clear hdef
    go_enter Try.func58, Try.ntmps58
    go_wp2_with fail
    refine hl.out.mono ?_
    rintro e w' ⟨rfl, rfl⟩
    go_wp2
    go_ret2
    refine ⟨?_, rfl⟩
    rw [hF.out]
    exact ret_cmp rfl rfl
end Go.Proofs.Yteaeedhhdnkldaa
