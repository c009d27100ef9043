/-
  CONTRACTS of rng.Key, Value, Draw, Find and New.
-/
import Derived.Test.YtfcajgfhmfpchaaRngC
namespace Go.Proofs.Ytfcajgfhmfpchaa
open Go.RowKit Pl

theorem key_yes (s : BitVec 64) (p : Nat) (hp : p ≤ 65536) (w : World) :
    Calls Try.prog 28 #[.int .u64 (s.toNat : Int), .int .i64 (p : Int)] w fun e w' => e = .returned (.tuple #[.int .u64 ((keyB s p).toNat : Int), .int .i64 0]) ∧ Below w.heap.size w w' := by
  have hO := Lib.hid (fun W => of_yes s p hp W)
  generalize keyB s p = key at *
  go_enter Try.func28, Try.ntmps28
  go_wp2_with fail
  refine (hO.out _).mono ?_
  rintro e w1 ⟨rfl, hb⟩
  have hz := hb.size
  go_wp2
  go_ret2
  exact ⟨rfl, by go_grown⟩
theorem key_no (s : BitVec 64) (p : Int) (hp : p < 0 ∨ 65536 < p) (w : World) :
    Calls Try.prog 28 #[.int .u64 (s.toNat : Int), .int .i64 p] w fun e w' => e = .returned (.tuple #[.int .u64 0, .int .i64 2]) ∧ Below w.heap.size w w' := by
  have hO := Lib.hid (fun W => of_no s p hp W)
  clear hp
  go_enter Try.func28, Try.ntmps28
  go_wp2_with fail
  refine (hO.out _).mono ?_
  rintro e w1 ⟨rfl, hb⟩
  have hz := hb.size
  go_wp2
  go_ret2
  exact ⟨rfl, by go_grown⟩
theorem value_yes (s : BitVec 64) (p i : Nat) (hp : p ≤ 65536) (hi : i ≤ 281474976710656) (w : World) :
    Calls Try.prog 23 #[.int .u64 (s.toNat : Int), .int .i64 (p : Int), .int .i64 (i : Int)] w fun e w' => e = .returned (.tuple #[.int .u64 ((valB (keyB s p) i).toNat : Int), .int .i64 0]) ∧ Below w.heap.size w w' := by
  have hO := Lib.hid (fun W => of_yes s p hp W)
  have hA := Lib.hid (fun W => at_calls (keyB s p) i hi W)
  generalize valB (keyB s p) i = v at *
  generalize keyB s p = key at *
  have hi1 : ¬ 281474976710656 < (i : Int) := by omega
  have hi0 : ¬ (i : Int) < 0 := by omega
  go_enter Try.func23, Try.ntmps23
  go_wp2_with fail
  refine (hO.out _).mono ?_
  rintro e w1 ⟨rfl, hb⟩
  have hz := hb.size
  go_wp2_with fail
  refine (hA.out _).mono ?_
  rintro e w2 ⟨rfl, hb2⟩
  have hb3 : Below w.heap.size w w2 := Below.trans (by go_grown) (hb2.mono (by go_size))
  go_wp2
  go_ret2
  exact ⟨rfl, by go_grown⟩
theorem value_no (s : BitVec 64) (p i : Int) (h : (p < 0 ∨ 65536 < p) ∨ i < 0 ∨ 281474976710656 < i) (w : World) :
    Calls Try.prog 23 #[.int .u64 (s.toNat : Int), .int .i64 p, .int .i64 i] w fun e w' => e = .returned (.tuple #[.int .u64 0, .int .i64 2]) ∧ Below w.heap.size w w' := by
  by_cases hp : p < 0 ∨ 65536 < p
  · have hO := Lib.hid (fun W => of_no s p hp W)
    clear h hp
    go_enter Try.func23, Try.ntmps23
    go_wp2_with fail
    refine (hO.out _).mono ?_
    rintro e w1 ⟨rfl, hb⟩
    have hz := hb.size
    go_wp2
    go_ret2
    exact ⟨rfl, by go_grown⟩
  · obtain ⟨p, rfl⟩ : ∃ q : Nat, p = (q : Int) := ⟨p.toNat, by omega⟩
    have hO := Lib.hid (fun W => of_yes s p (by omega) W)
    have hi : i < 0 ∨ 281474976710656 < i := by omega
    generalize keyB s p = key at *
    clear h hp
    by_cases h0 : i < 0
    · clear hi
      go_enter Try.func23, Try.ntmps23
      go_wp2_with fail
      refine (hO.out _).mono ?_
      rintro e w1 ⟨rfl, hb⟩
      have hz := hb.size
      go_wp2
      go_ret2
      exact ⟨rfl, by go_grown⟩
    · have h1 : 281474976710656 < i := by omega
      clear hi
      go_enter Try.func23, Try.ntmps23
      go_wp2_with fail
      refine (hO.out _).mono ?_
      rintro e w1 ⟨rfl, hb⟩
      have hz := hb.size
      go_wp2
      go_ret2
      exact ⟨rfl, by go_grown⟩
theorem draw_yes (s : BitVec 64) (p i n : Nat) (hp : p ≤ 65536) (hi : i ≤ 281474976710656) (hn : 0 < n) (hn2 : n < 9223372036854775808) (w : World) :
    Calls Try.prog 27 #[.int .u64 (s.toNat : Int), .int .i64 (p : Int), .int .i64 (i : Int), .int .i64 (n : Int)] w fun e w' => e = .returned (.tuple #[.int .i64 (belN (valB (keyB s p) i).toNat n : Int), .int .i64 0]) ∧ Below w.heap.size w w' := by
  have hV := Lib.hid (fun W => value_yes s p i hp hi W)
  have hB := Lib.hid (fun W => below_yes (valB (keyB s p) i).toNat n (valB (keyB s p) i).isLt hn hn2 W)
  generalize belN (valB (keyB s p) i).toNat n = d at *
  generalize (valB (keyB s p) i).toNat = v at *
  go_enter Try.func27, Try.ntmps27
  go_wp2_with fail
  refine (hV.out _).mono ?_
  rintro e w1 ⟨rfl, hb⟩
  have hz := hb.size
  go_wp2_with fail
  refine (hB.out _).mono ?_
  rintro e w2 ⟨rfl, rfl⟩
  go_wp2
  go_ret2
  exact ⟨rfl, by go_grown⟩
theorem draw_bound (s : BitVec 64) (p i : Nat) (n : Int) (hp : p ≤ 65536) (hi : i ≤ 281474976710656) (hn : n < 1) (w : World) :
    Calls Try.prog 27 #[.int .u64 (s.toNat : Int), .int .i64 (p : Int), .int .i64 (i : Int), .int .i64 n] w fun e w' => e = .returned (.tuple #[.int .i64 0, .int .i64 60]) ∧ Below w.heap.size w w' := by
  have hV := Lib.hid (fun W => value_yes s p i hp hi W)
  have hB := Lib.hid (fun W => below_no (valB (keyB s p) i).toNat n hn W)
  generalize (valB (keyB s p) i).toNat = v at *
  go_enter Try.func27, Try.ntmps27
  go_wp2_with fail
  refine (hV.out _).mono ?_
  rintro e w1 ⟨rfl, hb⟩
  have hz := hb.size
  go_wp2_with fail
  refine (hB.out _).mono ?_
  rintro e w2 ⟨rfl, rfl⟩
  go_wp2
  go_ret2
  exact ⟨rfl, by go_grown⟩
theorem draw_no (s : BitVec 64) (p i n : Int) (h : (p < 0 ∨ 65536 < p) ∨ i < 0 ∨ 281474976710656 < i) (w : World) :
    Calls Try.prog 27 #[.int .u64 (s.toNat : Int), .int .i64 p, .int .i64 i, .int .i64 n] w fun e w' => e = .returned (.tuple #[.int .i64 0, .int .i64 2]) ∧ Below w.heap.size w w' := by
  have hV := Lib.hid (fun W => value_no s p i h W)
  clear h
  go_enter Try.func27, Try.ntmps27
  go_wp2_with fail
  refine (hV.out _).mono ?_
  rintro e w1 ⟨rfl, hb⟩
  have hz := hb.size
  go_wp2
  go_ret2
  exact ⟨rfl, by go_grown⟩
/-- What Find answers. -/
def atV (key v : BitVec 64) : Int := if (whereB key v).toNat ≤ 281474976710656 then ((whereB key v).toNat : Int) else 0
def atE (key v : BitVec 64) : Int := if (whereB key v).toNat ≤ 281474976710656 then 0 else 6
theorem find_yes (s v : BitVec 64) (p : Nat) (hp : p ≤ 65536) (w : World) :
    Calls Try.prog 24 #[.int .u64 (s.toNat : Int), .int .i64 (p : Int), .int .u64 (v.toNat : Int)] w fun e w' => e = .returned (.tuple #[.int .i64 (atV (keyB s p) v), .int .i64 (atE (keyB s p) v)]) ∧ Below w.heap.size w w' := by
  have hO := Lib.hid (fun W => of_yes s p hp W)
  have hW := Lib.hid (fun W => where_calls (keyB s p) v W)
  unfold atV atE
  generalize whereB (keyB s p) v = i at *
  generalize keyB s p = key at *
  generalize i.toNat = k at *
  by_cases hk : k ≤ 281474976710656
  · rw [if_pos hk, if_pos hk]
    have hk1 : ¬ 281474976710656 < (k : Int) := by omega
    go_enter Try.func24, Try.ntmps24
    go_wp2_with fail
    refine (hO.out _).mono ?_
    rintro e w1 ⟨rfl, hb⟩
    have hz := hb.size
    go_wp2_with fail
    refine (hW.out _).mono ?_
    rintro e w2 ⟨rfl, hb2⟩
    have hb3 : Below w.heap.size w w2 := Below.trans (by go_grown) (hb2.mono (by go_size))
    go_wp2
    go_ret2
    exact ⟨rfl, by go_grown⟩
  · rw [if_neg hk, if_neg hk]
    have hk1 : 281474976710656 < (k : Int) := by omega
    go_enter Try.func24, Try.ntmps24
    go_wp2_with fail
    refine (hO.out _).mono ?_
    rintro e w1 ⟨rfl, hb⟩
    have hz := hb.size
    go_wp2_with fail
    refine (hW.out _).mono ?_
    rintro e w2 ⟨rfl, hb2⟩
    have hb3 : Below w.heap.size w w2 := Below.trans (by go_grown) (hb2.mono (by go_size))
    go_wp2
    go_ret2
    exact ⟨rfl, by go_grown⟩
theorem find_no (s : BitVec 64) (p : Int) (v : BitVec 64) (hp : p < 0 ∨ 65536 < p) (w : World) :
    Calls Try.prog 24 #[.int .u64 (s.toNat : Int), .int .i64 p, .int .u64 (v.toNat : Int)] w fun e w' => e = .returned (.tuple #[.int .i64 0, .int .i64 2]) ∧ Below w.heap.size w w' := by
  have hO := Lib.hid (fun W => of_no s p hp W)
  clear hp
  go_enter Try.func24, Try.ntmps24
  go_wp2_with fail
  refine (hO.out _).mono ?_
  rintro e w1 ⟨rfl, hb⟩
  have hz := hb.size
  go_wp2
  go_ret2
  exact ⟨rfl, by go_grown⟩
/-- Find of the number with an index is that index. -/
theorem atV_is (key : BitVec 64) (i : Nat) (hi : i ≤ 281474976710656) : atV key (valB key i) = (i : Int) ∧ atE key (valB key i) = 0 := by
  have h : (whereB key (valB key i)).toNat = i := by
    rw [whereB_valB, BitVec.toNat_ofNat, Nat.mod_eq_of_lt (by omega)]
  unfold atV atE
  rw [h, if_pos hi, if_pos hi]
  exact ⟨rfl, rfl⟩
end Go.Proofs.Ytfcajgfhmfpchaa
