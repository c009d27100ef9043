/-
  THE WALK of fermatalaw05.MixFolds: it returns true, and writes nothing that was there.
-/
import Derived.Test.YtnghalhmbjiefaaFrame
import Derived.Test.YtnghalhmbjiefaaMixAwake
namespace Go.Proofs.Ytnghalhmbjiefaa
open Go.RowKit

set_option maxRecDepth 100000 in
set_option maxHeartbeats 1000000 in
theorem mixFolds_walk (x y : BitVec 64) (n : Nat) (hn : n < 256) (w : World) :
    Calls Try.prog 8 #[.int .u64 (x.toNat : Int), .int .u64 (y.toNat : Int), .int .u8 (n : Int)] w fun e w' => e = .returned (.bool true) ∧ Below w.heap.size w w' := by
  obtain ⟨m, hm, hm1, hm2⟩ : ∃ m : Nat, 1 + (n : Int) % 63 = (m : Int) ∧ 1 ≤ m ∧ m < 64 := ⟨1 + n % 63, by omega, by omega, by omega⟩
  have F1 := Lib.hid (fun W => mFold_calls x m hm1 hm2 W)
  have U1 := Lib.hid (fun W => by have h := mUnfold_calls (foldB x m) m hm1 hm2 W; rw [unfoldB_foldB _ _ hm1] at h; exact h)
  have U2 := Lib.hid (fun W => mUnfold_calls x m hm1 hm2 W)
  have F2 := Lib.hid (fun W => by have h := mFold_calls (unfoldB x m) m hm1 hm2 W; rw [foldB_unfoldB _ _ hm1] at h; exact h)
  have F3 := Lib.hid (fun W => by have h := mFold_calls (foldB x m) m hm1 hm2 W; rw [foldB_twice] at h; exact h)
  have F5 := Lib.hid (fun W => mFold_calls y m hm1 hm2 W)
  have F6 := Lib.hid (fun W => by have h := mFold_calls (x ^^^ y) m hm1 hm2 W; rw [foldB_xor] at h; exact h)
  have AW := Lib.hid (fun W => awake5_calls W)
  have hne : ((x.toNat : Int) != (x.toNat : Int)) = false := by simp
  have hx1 := uv_xor x y
  have hx2 := uv_xor (foldB x m) (foldB y m)
  obtain ⟨m2, h2⟩ : ∃ m2 : Nat, 2 * (m : Int) = (m2 : Int) := ⟨2 * m, by omega⟩
  have h22 : m * 2 = m2 := by omega
  rw [h22] at F3
  by_cases h64 : m2 < 64
  · have F4 := Lib.hid (fun W => mFold_calls x m2 (by omega) h64 W)
    generalize foldB x m ^^^ foldB y m = s2 at *
    generalize x ^^^ y = s at *
    generalize foldB x m2 = a2 at *
    generalize foldB x m = a at *
    generalize foldB y m = b at *
    generalize unfoldB x m = c at *
    have q1 : ((a2.toNat : Int) == (a2.toNat : Int)) = true := by simp
    have q2 : ((s2.toNat : Int) == (s2.toNat : Int)) = true := by simp
    clear h22
    go_enter Try.func8, Try.ntmps8
    go_wp2_with fail
    refine (F1.out _).mono ?_
    rintro e w' ⟨rfl, rfl⟩
    go_wp2_with fail
    refine (U1.out _).mono ?_
    rintro e w' ⟨rfl, rfl⟩
    go_wp2_with fail
    refine (U2.out _).mono ?_
    rintro e w' ⟨rfl, rfl⟩
    go_wp2_with fail
    refine (F2.out _).mono ?_
    rintro e w' ⟨rfl, rfl⟩
    go_wp2_with fail
    refine (F3.out _).mono ?_
    rintro e w' ⟨rfl, rfl⟩
    go_wp2_with fail
    refine (F4.out _).mono ?_
    rintro e w' ⟨rfl, rfl⟩
    go_wp2_with fail
    refine (F5.out _).mono ?_
    rintro e w' ⟨rfl, rfl⟩
    go_wp2_with fail
    refine (F6.out _).mono ?_
    rintro e w' ⟨rfl, rfl⟩
    go_wp2_with fail
    refine (AW.out _).mono ?_
    rintro e w3 ⟨rfl, hb3⟩
    have HB3 := Lib.hid hb3
    clear hb3
    go_wp2
    go_ret
    exact ⟨rfl, HB3.out⟩
  · rw [foldB_big x m2 (by omega)] at F3
    generalize foldB x m ^^^ foldB y m = s2 at *
    generalize x ^^^ y = s at *
    generalize foldB x m = a at *
    generalize foldB y m = b at *
    generalize unfoldB x m = c at *
    have q1 : ((x.toNat : Int) == (x.toNat : Int)) = true := by simp
    have q2 : ((s2.toNat : Int) == (s2.toNat : Int)) = true := by simp
    clear h22
    go_enter Try.func8, Try.ntmps8
    go_wp2_with fail
    refine (F1.out _).mono ?_
    rintro e w' ⟨rfl, rfl⟩
    go_wp2_with fail
    refine (U1.out _).mono ?_
    rintro e w' ⟨rfl, rfl⟩
    go_wp2_with fail
    refine (U2.out _).mono ?_
    rintro e w' ⟨rfl, rfl⟩
    go_wp2_with fail
    refine (F2.out _).mono ?_
    rintro e w' ⟨rfl, rfl⟩
    go_wp2_with fail
    refine (F3.out _).mono ?_
    rintro e w' ⟨rfl, rfl⟩
    go_wp2_with fail
    refine (F5.out _).mono ?_
    rintro e w' ⟨rfl, rfl⟩
    go_wp2_with fail
    refine (F6.out _).mono ?_
    rintro e w' ⟨rfl, rfl⟩
    go_wp2_with fail
    refine (AW.out _).mono ?_
    rintro e w3 ⟨rfl, hb3⟩
    have HB3 := Lib.hid hb3
    clear hb3
    go_wp2
    go_ret
    exact ⟨rfl, HB3.out⟩
end Go.Proofs.Ytnghalhmbjiefaa
