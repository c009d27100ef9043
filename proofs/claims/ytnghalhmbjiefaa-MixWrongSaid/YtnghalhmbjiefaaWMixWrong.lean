/-
  THE WALK of fermatalaw05.MixWrong: it returns true, and writes nothing that was there.
-/
import Derived.Test.YtnghalhmbjiefaaFrame
import Derived.Test.YtnghalhmbjiefaaMixAwake
namespace Go.Proofs.Ytnghalhmbjiefaa
open Go.RowKit

set_option maxRecDepth 100000 in
set_option maxHeartbeats 2000000 in
theorem mixWrong_walk (x : BitVec 64) (n : Int) (w : World) (h1 : -9223372036854775808 ≤ n) (h2 : n ≤ 9223372036854775807) :
    Calls Try.prog 11 #[.int .u64 (x.toNat : Int), .int .i64 n] w fun e w' => e = .returned (.bool true) ∧ Below w.heap.size w w' := by
  have FN := Lib.hid (fun y h W => Fold_no (x.toNat : Int) y h W)
  have UN := Lib.hid (fun y h W => Unfold_no (x.toNat : Int) y h W)
  have FY := Lib.hid (fun n h1 h2 W => mFold_calls x n h1 h2 W)
  have UY := Lib.hid (fun n h1 h2 W => mUnfold_calls x n h1 h2 W)
  have AW := Lib.hid (fun W => awake5_calls W)
  obtain ⟨lo, hl, hlo⟩ : ∃ lo : Int, min n 0 = lo ∧ lo < 1 := ⟨_, rfl, by omega⟩
  obtain ⟨hi, hh, hhi⟩ : ∃ hi : Int, max n 64 = hi ∧ 64 ≤ hi := ⟨_, rfl, by omega⟩
  have FL := Lib.hid (fun W => FN.out lo (.inl hlo) W)
  have UL := Lib.hid (fun W => UN.out lo (.inl hlo) W)
  have FH := Lib.hid (fun W => FN.out hi (.inr hhi) W)
  have UH := Lib.hid (fun W => UN.out hi (.inr hhi) W)
  clear hlo hhi FN UN
  go_enter Try.func11, Try.ntmps11
  go_wp2
  have hb : Below w.heap.size w (w.alloc (.cells #[.int .i64 lo, .int .i64 hi] 3)) := (Below.refl _ _).alloc (Nat.le_refl _) _
  obtain ⟨W, hW⟩ : ∃ W, W = w.alloc (.cells #[.int .i64 lo, .int .i64 hi] 3) := ⟨_, rfl⟩
  have c0 : W.cell? ⟨w.heap.size, 0, none⟩ = some (.int .i64 lo) := by rw [hW, cell_of_row _ _ 0 _ 3 (0, 0) (heap_alloc_new w _)]; rfl
  have c1 : W.cell? ⟨w.heap.size, 1, none⟩ = some (.int .i64 hi) := by rw [hW, cell_of_row _ _ 1 _ 3 (0, 0) (heap_alloc_new w _)]; rfl
  rw [← hW] at hb ⊢
  have HB := Lib.hid hb
  clear hW hb hl hh
  refine wp_loop_rounds 3 ?_
  rw [rounds_succ]
  go_wp2_with fail
  refine (FL.out _).mono ?_
  rintro e w' ⟨rfl, rfl⟩
  go_wp2_with fail
  refine (UL.out _).mono ?_
  rintro e w' ⟨rfl, rfl⟩
  go_wp2_with fail
  rw [rounds_succ]
  go_wp2_with fail
  refine (FH.out _).mono ?_
  rintro e w' ⟨rfl, rfl⟩
  go_wp2_with fail
  refine (UH.out _).mono ?_
  rintro e w' ⟨rfl, rfl⟩
  go_wp2_with fail
  rw [rounds_succ]
  go_wp2_with fail
  go_loop [11] (fun i => ∃ k : Nat, 1 ≤ k ∧ k ≤ 64 ∧ i = .int .i64 (k : Int)) (fun i => 64 - (intOf i).toNat)
  case atStart => exact ⟨1, by omega, by omega, rfl⟩
  case round =>
    obtain ⟨k, hk1, hk, rfl⟩ := hrel
    by_cases hlt : k < 64
    · have hF := Lib.hid (fun W => FY.out k hk1 hlt W)
      have hU := Lib.hid (fun W => UY.out k hk1 hlt W)
      go_wp2_with fail
      refine (hF.out _).mono ?_
      rintro e w' ⟨rfl, rfl⟩
      go_wp2_with fail
      refine (hU.out _).mono ?_
      rintro e w' ⟨rfl, rfl⟩
      go_wp2
      go_round
      case rel => exact ⟨k + 1, by omega, by omega, by go_num⟩
      case measure => simp [intOf]; omega
    · obtain rfl : k = 64 := by omega
      go_wp2_with fail
      refine (AW.out _).mono ?_
      rintro e w3 ⟨rfl, hb3⟩
      have HB3 := Lib.hid (HB.out.trans (hb3.mono HB.out.size))
      clear hb3
      go_wp2
      go_ret
      exact ⟨rfl, HB3.out⟩
end Go.Proofs.Ytnghalhmbjiefaa
