/-
  CONTRACTS of fermatalaw05.tells and reads: the program answers as the document's own functions do.
-/
import Derived.Test.YtnghalhmbjiefaaMixRefB
import Derived.Test.YtnghalhmbjiefaaMixAwake
namespace Go.Proofs.Ytnghalhmbjiefaa
open Go.RowKit

set_option maxRecDepth 100000 in
set_option maxHeartbeats 1000000 in
/-- The tail of 'tells': Mix, Unmix and Text. -/
theorem tells_yes (x : BitVec 64) (n : Nat) (h1 : 1 ≤ n) (h2 : n < 64) (w : World) :
    Calls Try.prog 12 #[.int .u64 (x.toNat : Int), .int .i64 (n : Int)] w fun e w' => e = .returned (.bool true) ∧ Below w.heap.size w w' := by
  have F := Lib.hid (fun W => mFold_calls x n h1 h2 W)
  have U := Lib.hid (fun W => mUnfold_calls x n h1 h2 W)
  have RF := Lib.hid (fun W => rfold_calls x n h1 h2 W)
  have RU := Lib.hid (fun W => runfold_calls x n h1 h2 W)
  have M := Lib.hid (fun W => Mix_calls x W)
  have RM := Lib.hid (fun W => rMix_calls x W)
  have N := Lib.hid (fun W => Unmix_calls x W)
  have RN := Lib.hid (fun W => rUnmix_calls x W)
  have T := Lib.hid (fun W => text_calls x.toNat x.isLt W)
  have RT := Lib.hid (fun W => rtext_calls x.toNat x.isLt W)
  generalize foldB x n = fx at *
  generalize unfoldB x n = ux at *
  generalize mixB x = mx at *
  generalize unmixB x = nx at *
  have q1 : ((fx.toNat : Int) != (fx.toNat : Int)) = false := by simp
  have q2 : ((ux.toNat : Int) != (ux.toNat : Int)) = false := by simp
  have q3 : ((mx.toNat : Int) == (mx.toNat : Int)) = true := by simp
  have q4 : ((nx.toNat : Int) == (nx.toNat : Int)) = true := by simp
  have e1 : ¬ ((n : Int) < 1) := by omega
  have e2 : ¬ ((63 : Int) < (n : Int)) := by omega
  generalize (⟨(textN x.toNat).toArray⟩ : ByteArray) = A at *
  have q5 : (A.toList == A.toList) = true := by simp
  go_enter Try.func12, Try.ntmps12
  go_wp2_with fail
  refine (F.out _).mono ?_
  rintro e w' ⟨rfl, rfl⟩
  go_wp2_with fail
  refine (U.out _).mono ?_
  rintro e w' ⟨rfl, rfl⟩
  go_wp2_with fail
  refine (RF.out _).mono ?_
  rintro e w' ⟨rfl, rfl⟩
  go_wp2_with fail
  refine (RU.out _).mono ?_
  rintro e w' ⟨rfl, rfl⟩
  go_wp2_with fail
  refine (M.out _).mono ?_
  rintro e w' ⟨rfl, rfl⟩
  go_wp2_with fail
  refine (RM.out _).mono ?_
  rintro e w' ⟨rfl, rfl⟩
  go_wp2_with fail
  refine (N.out _).mono ?_
  rintro e w1 ⟨rfl, hb1⟩
  have HB1 := Lib.hid hb1
  clear hb1
  go_wp2_with fail
  refine (RN.out _).mono ?_
  rintro e w' ⟨rfl, nq, rfl⟩
  go_wp2_with fail
  refine (T.out _).mono ?_
  rintro e w2 ⟨rfl, hb2⟩
  have HB2 := Lib.hid ((below_drewN HB1.out nq).trans (hb2.mono (below_drewN HB1.out nq).size))
  clear hb2
  go_wp2_with fail
  refine (RT.out _).mono ?_
  rintro e w3 ⟨rfl, hb3⟩
  have HB3 := Lib.hid (HB2.out.trans (hb3.mono HB2.out.size))
  clear hb3
  go_wp2
  go_ret
  exact ⟨rfl, HB3.out⟩

set_option maxRecDepth 100000 in
set_option maxHeartbeats 1000000 in
theorem tells_no (x : BitVec 64) (y : Int) (h : y < 1 ∨ 64 ≤ y) (w : World) :
    Calls Try.prog 12 #[.int .u64 (x.toNat : Int), .int .i64 y] w fun e w' => e = .returned (.bool true) ∧ Below w.heap.size w w' := by
  have F := Lib.hid (fun W => Fold_no (x.toNat : Int) y h W)
  have U := Lib.hid (fun W => Unfold_no (x.toNat : Int) y h W)
  have M := Lib.hid (fun W => Mix_calls x W)
  have RM := Lib.hid (fun W => rMix_calls x W)
  have N := Lib.hid (fun W => Unmix_calls x W)
  have RN := Lib.hid (fun W => rUnmix_calls x W)
  have T := Lib.hid (fun W => text_calls x.toNat x.isLt W)
  have RT := Lib.hid (fun W => rtext_calls x.toNat x.isLt W)
  generalize mixB x = mx at *
  generalize unmixB x = nx at *
  have q3 : ((mx.toNat : Int) == (mx.toNat : Int)) = true := by simp
  have q4 : ((nx.toNat : Int) == (nx.toNat : Int)) = true := by simp
  generalize (⟨(textN x.toNat).toArray⟩ : ByteArray) = A at *
  have q5 : (A.toList == A.toList) = true := by simp
  have hc : (y < 1) ∨ (¬ (y < 1) ∧ (63 : Int) < y) := by omega
  clear h
  rcases hc with hc | ⟨hc, hc2⟩
  all_goals (
    go_enter Try.func12, Try.ntmps12
    go_wp2_with fail
    refine (F.out _).mono ?_
    rintro e w' ⟨rfl, rfl⟩
    go_wp2_with fail
    refine (U.out _).mono ?_
    rintro e w' ⟨rfl, rfl⟩
    go_wp2_with fail
    refine (M.out _).mono ?_
    rintro e w' ⟨rfl, rfl⟩
    go_wp2_with fail
    refine (RM.out _).mono ?_
    rintro e w' ⟨rfl, rfl⟩
    go_wp2_with fail
    refine (N.out _).mono ?_
    rintro e w1 ⟨rfl, hb1⟩
    have HB1 := Lib.hid hb1
    clear hb1
    go_wp2_with fail
    refine (RN.out _).mono ?_
    rintro e w' ⟨rfl, nq, rfl⟩
    go_wp2_with fail
    refine (T.out _).mono ?_
    rintro e w2 ⟨rfl, hb2⟩
    have HB2 := Lib.hid ((below_drewN HB1.out nq).trans (hb2.mono (below_drewN HB1.out nq).size))
    clear hb2
    go_wp2_with fail
    refine (RT.out _).mono ?_
    rintro e w3 ⟨rfl, hb3⟩
    have HB3 := Lib.hid (HB2.out.trans (hb3.mono HB2.out.size))
    clear hb3
    go_wp2
    go_ret
    exact ⟨rfl, HB3.out⟩)
theorem tells_calls (x : BitVec 64) (y : Int) (w : World) :
    Calls Try.prog 12 #[.int .u64 (x.toNat : Int), .int .i64 y] w fun e w' => e = .returned (.bool true) ∧ Below w.heap.size w w' := by
  by_cases h : y < 1 ∨ 64 ≤ y
  · exact tells_no x y h w
  · obtain ⟨n, rfl⟩ : ∃ n : Nat, y = (n : Int) := ⟨y.toNat, by omega⟩
    exact tells_yes x n (by omega) (by omega) w

set_option maxRecDepth 100000 in
theorem reads5_calls (s : List UInt8) (hs : s.length ≤ 1000000) (w : World) :
    Calls Try.prog 17 #[.string ⟨s.toArray⟩] w fun e w' => e = .returned (.bool true) ∧ Below w.heap.size w w' := by
  have R := Lib.hid (fun W => read_calls s W)
  have RR := Lib.hid (fun W => rread_calls s W hs)
  generalize readV s = v at *
  generalize readE s = er at *
  have q1 : ((v : Int) == (v : Int)) = true := by simp
  have q2 : ((er : Int) == (er : Int)) = true := by simp
  generalize (⟨s.toArray⟩ : ByteArray) = S at *
  go_enter Try.func17, Try.ntmps17
  go_wp2_with fail
  refine (R.out _).mono ?_
  rintro e w' ⟨rfl, rfl⟩
  go_wp2_with fail
  refine (RR.out _).mono ?_
  rintro e w1 ⟨rfl, hb1⟩
  have HB1 := Lib.hid hb1
  clear hb1
  go_wp2
  go_ret
  exact ⟨rfl, HB1.out⟩

set_option maxRecDepth 100000 in
theorem mixTells_walk (x : BitVec 64) (y : Int) (w : World) :
    Calls Try.prog 3 #[.int .u64 (x.toNat : Int), .int .i64 y] w fun e w' => e = .returned (.bool true) ∧ Below w.heap.size w w' := by
  have T := Lib.hid (fun W => tells_calls x y W)
  have AW := Lib.hid (fun W => awake5_calls W)
  go_enter Try.func3, Try.ntmps3
  go_wp2_with fail
  refine (T.out _).mono ?_
  rintro e w1 ⟨rfl, hb1⟩
  have HB1 := Lib.hid hb1
  clear hb1
  go_wp2_with fail
  refine (AW.out _).mono ?_
  rintro e w2 ⟨rfl, hb2⟩
  have HB2 := Lib.hid (HB1.out.trans (hb2.mono HB1.out.size))
  clear hb2
  go_wp2
  go_ret
  exact ⟨rfl, HB2.out⟩

set_option maxRecDepth 100000 in
theorem mixReads_walk (s : ByteArray) (hs : s.size ≤ maxLen) (w : World) :
    Calls Try.prog 5 #[.string s] w fun e w' => e = .returned (.bool true) ∧ Below w.heap.size w w' := by
  have AW := Lib.hid (fun W => awake5_calls W)
  by_cases h : 100 < s.size
  · have h1 : (100 : Int) < (s.size : Int) := by omega
    clear h
    unfold maxLen at hs
    go_enter Try.func5, Try.ntmps5
    go_wp2_with fail
    refine (AW.out _).mono ?_
    rintro e w2 ⟨rfl, hb2⟩
    have HB2 := Lib.hid hb2
    clear hb2
    go_wp2
    go_ret
    exact ⟨rfl, HB2.out⟩
  · have hl : s.data.toList.length = s.size := by obtain ⟨⟨l⟩⟩ := s; rfl
    have hl2 : s.data.toList.length ≤ 1000000 := by rw [hl]; omega
    have R := Lib.hid (fun W => reads5_calls s.data.toList hl2 W)
    have e : (⟨s.data.toList.toArray⟩ : ByteArray) = s := by obtain ⟨⟨l⟩⟩ := s; rfl
    rw [e] at R
    have h1 : ¬ (100 : Int) < (s.size : Int) := by omega
    clear h e hl hl2 hs
    go_enter Try.func5, Try.ntmps5
    go_wp2_with fail
    refine (R.out _).mono ?_
    rintro e w1 ⟨rfl, hb1⟩
    have HB1 := Lib.hid hb1
    clear hb1
    go_wp2_with fail
    refine (AW.out _).mono ?_
    rintro e w2 ⟨rfl, hb2⟩
    have HB2 := Lib.hid (HB1.out.trans (hb2.mono HB1.out.size))
    clear hb2
    go_wp2
    go_ret
    exact ⟨rfl, HB2.out⟩
end Go.Proofs.Ytnghalhmbjiefaa
