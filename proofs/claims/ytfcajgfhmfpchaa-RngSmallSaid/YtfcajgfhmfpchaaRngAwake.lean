/-
  CONTRACT of fermatalaw06.awake: the examples of the chapter come out as they should; nothing that was there is written.
-/
import Derived.Test.YtfcajgfhmfpchaaRngE
namespace Go.Proofs.Ytfcajgfhmfpchaa
open Go.RowKit Pl

theorem aw_below1 (w : World) : Calls Try.prog 26 #[.int .u64 9223372036854775808, .int .i64 10] w fun e w' => e = .returned (.tuple #[.int .i64 5, .int .i64 0]) ∧ w = w' := by
  have h := below_yes 9223372036854775808 10 (by omega) (by omega) (by omega) w
  have e1 : belN 9223372036854775808 10 = 5 := by decide +kernel
  rw [e1] at h
  exact h
theorem aw_below2 (w : World) : Calls Try.prog 26 #[.int .u64 18446744073709551615, .int .i64 10] w fun e w' => e = .returned (.tuple #[.int .i64 9, .int .i64 0]) ∧ w = w' := by
  have h := below_yes 18446744073709551615 10 (by omega) (by omega) (by omega) w
  have e1 : belN 18446744073709551615 10 = 9 := by decide +kernel
  rw [e1] at h
  exact h
theorem aw_range (w : World) : Calls Try.prog 25 #[.int .i64 3, .int .i64 1] w fun e w' => e = .returned (.tuple #[.int .u64 6148914691236517206, .int .u64 12297829382473034410, .int .i64 0]) ∧ w = w' := by
  have h := range_yes 3 1 (by omega) (by omega) w
  have e1 : ceiN 1 3 = 6148914691236517206 := by decide +kernel
  have e2 : ceiN (1 + 1) 3 - 1 = 12297829382473034410 := by decide +kernel
  rw [e1, e2] at h
  exact h
/-- What the stream of the chapter has: its key, and its first number. -/
def k73 : BitVec 64 := keyB 7#64 3
def v73 : BitVec 64 := valB k73 0
theorem aw_new (w : World) : Calls Try.prog 14 #[.int .u64 7, .int .i64 3] w fun e w' => ∃ X, e = .returned (.tuple #[.pointer (some ⟨X, 0, none⟩), .int .i64 0]) ∧ w.heap.size ≤ X ∧ SIs w' X k73 0 ∧ Below w.heap.size w w' := newR_yes 7#64 3 (by omega) w
theorem aw_value (w : World) : Calls Try.prog 23 #[.int .u64 7, .int .i64 3, .int .i64 0] w fun e w' => e = .returned (.tuple #[.int .u64 (v73.toNat : Int), .int .i64 0]) ∧ Below w.heap.size w w' := value_yes 7#64 3 0 (by omega) (by omega) w
theorem aw_find (w : World) : Calls Try.prog 24 #[.int .u64 7, .int .i64 3, .int .u64 (v73.toNat : Int)] w fun e w' => e = .returned (.tuple #[.int .i64 0, .int .i64 0]) ∧ Below w.heap.size w w' := by
  have h := find_yes 7#64 v73 3 (by omega) w
  have e := atV_is (keyB 7#64 3) 0 (by omega)
  rw [show v73 = valB (keyB 7#64 3) 0 from rfl, e.1, e.2] at h
  exact h

set_option maxRecDepth 100000 in
set_option maxHeartbeats 1000000 in
theorem awakeR_calls (w : World) : Calls Try.prog 13 #[] w fun e w' => e = .returned (.bool true) ∧ Below w.heap.size w w' := by
  have h1 := Lib.hid aw_below1
  have h2 := Lib.hid aw_below2
  have h3 := Lib.hid aw_range
  have h4 := Lib.hid aw_new
  have h5 := Lib.hid aw_value
  have h6 := Lib.hid aw_find
  have hvb := uv_bounds v73
  have hv7 : valB k73 0 = v73 := rfl
  generalize v73 = v at *
  generalize k73 = k at *
  go_enter Try.func13, Try.ntmps13
  go_wp2_with fail
  refine (h1.out _).mono ?_
  rintro e w' ⟨rfl, rfl⟩
  go_wp2_with fail
  refine (h2.out _).mono ?_
  rintro e w' ⟨rfl, rfl⟩
  go_wp2_with fail
  refine (h3.out _).mono ?_
  rintro e w' ⟨rfl, rfl⟩
  go_wp2_with fail
  refine (h4.out _).mono ?_
  rintro e w1 ⟨X, rfl, hX, hs, hb1⟩
  have HB1 := Lib.hid hb1
  have HS1 := Lib.hid hs
  clear hb1 hs
  go_wp2_with fail
  refine (indexR_calls X 0 k _ HS1.out).mono ?_
  rintro e w' ⟨rfl, rfl⟩
  go_wp2_with fail
  refine (nextR_yes X 0 k _ HS1.out (by omega)).mono ?_
  rintro e w2 ⟨rfl, hs, hg⟩
  have HS2 := Lib.hid hs
  have HB2 := Lib.hid (HB1.out.grown hg HB1.out.size (fun j hj => by cases hj; exact hX))
  clear hs hg
  rw [hv7]
  go_wp2_with fail
  refine (h5.out _).mono ?_
  rintro e w3 ⟨rfl, hb⟩
  have HS3 := Lib.hid (HS2.out.below hb)
  have HB3 := Lib.hid (HB2.out.trans (hb.mono HB2.out.size))
  clear hb
  go_wp2_with fail
  refine (h6.out _).mono ?_
  rintro e w4 ⟨rfl, hb⟩
  have HS4 := Lib.hid (HS3.out.below hb)
  have HB4 := Lib.hid (HB3.out.trans (hb.mono HB3.out.size))
  clear hb
  go_wp2_with fail
  refine (indexR_calls X 1 k _ HS4.out).mono ?_
  rintro e w' ⟨rfl, rfl⟩
  go_wp2_with fail
  refine (moveR_yes X 1 281474976710657 k _ HS4.out (by omega)).mono ?_
  rintro e w5 ⟨rfl, hw⟩
  have HS5 := Lib.hid (show SIs w5 X k 281474976710657 by rw [hw]; exact HS4.out.put 281474976710657)
  have HB5 := Lib.hid (show Below w.heap.size w w5 by rw [hw]; exact HB4.out.setCell hX _)
  clear hw
  go_wp2_with fail
  refine (nextR_full X k _ HS5.out).mono ?_
  rintro e w' ⟨rfl, rfl⟩
  go_wp2
  go_ret
  exact ⟨rfl, HB5.out⟩
end Go.Proofs.Ytfcajgfhmfpchaa
