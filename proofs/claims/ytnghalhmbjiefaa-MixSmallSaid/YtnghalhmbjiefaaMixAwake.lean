/-
  CONTRACT of fermatalaw05.awake: the examples of the chapter come out as they should; nothing that was there is written.
-/
import Derived.Test.YtnghalhmbjiefaaMixRead
import Derived.Test.YtnghalhmbjiefaaMixTextC
import Derived.Test.YtnghalhmbjiefaaMixJoin
namespace Go.Proofs.Ytnghalhmbjiefaa
open Go.RowKit Pl

theorem NRow.one (w : World) (x : Nat) (hx : x < 18446744073709551616) (t : TypeId) : NRow (w.alloc (.cells #[.int .u64 (x : Int)] t)) (.slice (some ⟨w.heap.size, 0, none⟩) 1 1) [x] :=
  NRow.lit w [x] t (by intro y hy; simp at hy; omega) (by simp)
theorem NRow.two (w : World) (x y : Nat) (hx : x < 18446744073709551616) (hy : y < 18446744073709551616) (t : TypeId) : NRow (w.alloc (.cells #[.int .u64 (x : Int), .int .u64 (y : Int)] t)) (.slice (some ⟨w.heap.size, 0, none⟩) 2 2) [x, y] :=
  NRow.lit w [x, y] t (by intro z hz; simp at hz; omega) (by simp)
theorem aw_fold (w : World) : Calls Try.prog 20 #[.int .u64 5, .int .i64 1] w fun e w' => e = .returned (.tuple #[.int .u64 7, .int .i64 0]) ∧ w = w' := by
  have h := mFold_calls 5#64 1 (by omega) (by omega) w
  have e1 : ((5#64).toNat : Int) = 5 := rfl
  have e2 : ((foldB 5#64 1).toNat : Int) = 7 := by decide +kernel
  rw [e1, e2] at h
  exact h
theorem aw_unfold (w : World) : Calls Try.prog 21 #[.int .u64 7, .int .i64 1] w fun e w' => e = .returned (.tuple #[.int .u64 5, .int .i64 0]) ∧ w = w' := by
  have h := mUnfold_calls 7#64 1 (by omega) (by omega) w
  have e1 : ((7#64).toNat : Int) = 7 := rfl
  have e2 : ((unfoldB 7#64 1).toNat : Int) = 5 := by decide +kernel
  rw [e1, e2] at h
  exact h
theorem aw_read (w : World) : Calls Try.prog 23 #[.string ⟨#[103, 48, 48, 48, 48, 48, 48, 48, 48, 48, 48, 48, 48]⟩] w fun e w' => e = .returned (.tuple #[.int .u64 0, .int .i64 50]) ∧ w = w' := by
  have h := read_calls [103, 48, 48, 48, 48, 48, 48, 48, 48, 48, 48, 48, 48] w
  have e1 : ((readV [103, 48, 48, 48, 48, 48, 48, 48, 48, 48, 48, 48, 48] : Nat) : Int) = 0 := by decide +kernel
  have e2 : ((readE [103, 48, 48, 48, 48, 48, 48, 48, 48, 48, 48, 48, 48] : Nat) : Int) = 50 := by decide +kernel
  rw [e1, e2] at h
  exact h
theorem aw_mix0 (w : World) : Calls Try.prog 18 #[.int .u64 0] w fun e w' => e = .returned (.int .u64 0) ∧ w = w' := by
  have h := Mix_calls 0#64 w
  rw [mixB_zero] at h
  exact h
theorem aw_mixG (w : World) : Calls Try.prog 18 #[.int .u64 11400714819323198485] w fun e w' => e = .returned (.int .u64 16294208416658607535) ∧ w = w' := by
  have h := Mix_calls goldB w
  rw [mixB_gold] at h
  exact h
theorem aw_join (w : World) : Calls Try.prog 14 #[.slice none 0 0] w fun e w' => e = .returned (.int .u64 0) ∧ w = w' :=
  join_calls _ [] w ⟨(by intro x hx; cases hx), .inl ⟨none, 0, rfl, rfl, Nat.zero_le _⟩⟩
theorem aw_join0 (w : World) : Calls Try.prog 14 #[.slice (some ⟨w.heap.size, 0, none⟩) 1 1] (w.alloc (.cells #[.int .u64 0] 22)) fun e w' => e = .returned (.int .u64 16294208416658607535) ∧ w.alloc (.cells #[.int .u64 0] 22) = w' := by
  have h := join_calls _ [0] _ (NRow.one w 0 (by omega) 22)
  have e1 : ((joinN [0]).toNat : Int) = 16294208416658607535 := by decide +kernel
  rw [e1] at h
  exact h
abbrev j34 : BitVec 64 := joinN [3, 4]
theorem aw_join34 (w : World) : Calls Try.prog 14 #[.slice (some ⟨w.heap.size, 0, none⟩) 2 2] (w.alloc (.cells #[.int .u64 3, .int .u64 4] 22)) fun e w' => e = .returned (.int .u64 (j34.toNat : Int)) ∧ w.alloc (.cells #[.int .u64 3, .int .u64 4] 22) = w' :=
  join_calls _ [3, 4] _ (NRow.two w 3 4 (by omega) (by omega) 22)
theorem aw_last (w : World) : Calls Try.prog 15 #[.int .u64 (j34.toNat : Int), .slice (some ⟨w.heap.size, 0, none⟩) 1 1] (w.alloc (.cells #[.int .u64 3] 22)) fun e w' => e = .returned (.int .u64 4) ∧ Below w.heap.size w w' := by
  have h := last_calls j34 _ [3] _ (NRow.one w 3 (by omega) 22)
  have e1 : ((lastB j34 (bvL [3])).toNat : Int) = 4 := by
    have : lastB j34 (bvL [3]) = 4#64 := lastB_join (bvL [3]) 4#64
    rw [this]; rfl
  rw [e1] at h
  exact h.mono fun e w' ⟨he, hb⟩ => ⟨he, ((Below.refl _ _).alloc (Nat.le_refl _) _).trans (hb.mono (by simp))⟩
theorem aw_text (w : World) : Calls Try.prog 22 #[.int .u64 255] w fun e w' => e = .returned (.string ⟨#[48, 48, 48, 48, 48, 48, 48, 48, 48, 48, 48, 55, 118]⟩) ∧ Below w.heap.size w w' := by
  have h := text_calls 255 (by omega) w
  have e1 : textN 255 = [48, 48, 48, 48, 48, 48, 48, 48, 48, 48, 48, 55, 118] := by decide +kernel
  rw [e1] at h
  exact h

set_option maxRecDepth 100000 in
set_option maxHeartbeats 1000000 in
theorem awake5_calls (w : World) : Calls Try.prog 13 #[] w fun e w' => e = .returned (.bool true) ∧ Below w.heap.size w w' := by
  have HF := Lib.hid aw_fold
  have HU := Lib.hid aw_unfold
  have HR := Lib.hid aw_read
  have H0 := Lib.hid aw_mix0
  have HG := Lib.hid aw_mixG
  have HJ := Lib.hid aw_join
  have HJ0 := Lib.hid aw_join0
  have HJ34 := Lib.hid aw_join34
  have HL := Lib.hid aw_last
  have HT := Lib.hid aw_text
  generalize j34 = j at *
  go_enter Try.func13, Try.ntmps13
  go_wp2_with fail
  refine (HF.out _).mono ?_
  rintro e w' ⟨rfl, rfl⟩
  go_wp2_with fail
  refine (HU.out _).mono ?_
  rintro e w' ⟨rfl, rfl⟩
  go_wp2_with fail
  refine (HR.out _).mono ?_
  rintro e w' ⟨rfl, rfl⟩
  go_wp2_with fail
  refine (H0.out _).mono ?_
  rintro e w' ⟨rfl, rfl⟩
  go_wp2_with fail
  refine (HG.out _).mono ?_
  rintro e w' ⟨rfl, rfl⟩
  go_wp2_with fail
  refine (HJ.out _).mono ?_
  rintro e w' ⟨rfl, rfl⟩
  go_wp2_with fail
  refine (HJ0.out _).mono ?_
  rintro e w' ⟨rfl, rfl⟩
  have hb1 : Below w.heap.size w (w.alloc (.cells #[.int .u64 0] 22)) := (Below.refl _ _).alloc (Nat.le_refl _) _
  obtain ⟨w1, hw1⟩ : ∃ w1, w1 = w.alloc (.cells #[.int .u64 0] 22) := ⟨_, rfl⟩
  rw [← hw1] at hb1 ⊢
  clear hw1
  go_wp2_with fail
  refine (HJ34.out _).mono ?_
  rintro e w' ⟨rfl, rfl⟩
  have hb2 : Below w.heap.size w (w1.alloc (.cells #[.int .u64 3, .int .u64 4] 22)) := hb1.alloc hb1.size _
  obtain ⟨w2, hw2⟩ : ∃ w2, w2 = w1.alloc (.cells #[.int .u64 3, .int .u64 4] 22) := ⟨_, rfl⟩
  rw [← hw2] at hb2 ⊢
  clear hw2 hb1
  go_wp2_with fail
  refine (HL.out _).mono ?_
  rintro e w3 ⟨rfl, hb3⟩
  have HB3 := Lib.hid (hb2.trans (hb3.mono hb2.size))
  clear hb2 hb3
  go_wp2_with fail
  refine (HT.out _).mono ?_
  rintro e w4 ⟨rfl, hb4⟩
  have HB4 := Lib.hid (HB3.out.trans (hb4.mono HB3.out.size))
  clear hb4
  go_wp2
  go_ret
  exact ⟨rfl, HB4.out⟩
end Go.Proofs.Ytnghalhmbjiefaa
