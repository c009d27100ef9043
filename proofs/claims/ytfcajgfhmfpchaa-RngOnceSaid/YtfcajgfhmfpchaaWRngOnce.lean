/-
  THE WALKS of fermatalaw06.RngOnce and RngApart: they return true, and write nothing that was there.
-/
import Derived.Test.YtfcajgfhmfpchaaFrame
import Derived.Test.YtfcajgfhmfpchaaRngAwake
namespace Go.Proofs.Ytfcajgfhmfpchaa
open Go.RowKit Pl

theorem uvne {x y : BitVec 64} (h : x ≠ y) : ((x.toNat : Int) == (y.toNat : Int)) = false := by
  rw [uv_eq, beq_eq_false_iff_ne]; exact h

set_option maxRecDepth 100000 in
set_option maxHeartbeats 1000000 in
theorem rngOnce_walk (s : BitVec 64) (p i j : Nat) (hp : p < 65536) (hi : i < 18446744073709551616) (hj : j < 18446744073709551616) (w : World) :
    Calls Try.prog 6 #[.int .u64 (s.toNat : Int), .int .u16 (p : Int), .int .u64 (i : Int), .int .u64 (j : Int)] w fun e w' => e = .returned (.bool true) ∧ Below w.heap.size w w' := by
  obtain ⟨a, ha⟩ : ∃ a, i % 281474976710657 = a := ⟨_, rfl⟩
  obtain ⟨b, hb⟩ : ∃ b, j % 281474976710657 = b := ⟨_, rfl⟩
  have ha1 : a ≤ 281474976710656 := by omega
  have hb1 : b ≤ 281474976710656 := by omega
  have ha2 : (i : Int) % 281474976710657 = (a : Int) := by omega
  have hb2 : (j : Int) % 281474976710657 = (b : Int) := by omega
  have V1 := Lib.hid (fun W => value_yes s p a (by omega) ha1 W)
  have V2 := Lib.hid (fun W => value_yes s p b (by omega) hb1 W)
  have F1 := Lib.hid (fun W => by have h := find_yes s (valB (keyB s p) a) p (by omega) W; rw [(atV_is _ a ha1).1, (atV_is _ a ha1).2] at h; exact h)
  have F2 := Lib.hid (fun W => by have h := find_yes s (valB (keyB s p) b) p (by omega) W; rw [(atV_is _ b hb1).1, (atV_is _ b hb1).2] at h; exact h)
  have AW := Lib.hid (fun W => awakeR_calls W)
  have hne : a ≠ b → ((((valB (keyB s p) a).toNat : Int) == ((valB (keyB s p) b).toNat : Int)) = false ∧ ((a : Int) == (b : Int)) = false) := fun h =>
    ⟨uvne (fun e => h (valB_inj (by omega) (by omega) e)), by rw [beq_eq_false_iff_ne]; omega⟩
  have hs := uv_bounds s
  clear ha hb
  by_cases hab : a = b
  · subst hab
    clear hne V2 F2 hb1
    have hv := uv_bounds (valB (keyB s p) a)
    generalize valB (keyB s p) a = x at *
    go_enter Try.func6, Try.ntmps6
    go_wp2_with fail
    refine (V1.out _).mono ?_
    rintro e w1 ⟨rfl, hb⟩
    have HB1 := Lib.hid hb
    clear hb
    go_wp2_with fail
    refine (V1.out _).mono ?_
    rintro e w2 ⟨rfl, hb⟩
    have HB2 := Lib.hid (HB1.out.trans (hb.mono HB1.out.size))
    clear hb
    go_wp2_with fail
    refine (F1.out _).mono ?_
    rintro e w3 ⟨rfl, hb⟩
    have HB3 := Lib.hid (HB2.out.trans (hb.mono HB2.out.size))
    clear hb
    go_wp2_with fail
    refine (F1.out _).mono ?_
    rintro e w4 ⟨rfl, hb⟩
    have HB4 := Lib.hid (HB3.out.trans (hb.mono HB3.out.size))
    clear hb
    go_wp2_with fail
    refine (AW.out _).mono ?_
    rintro e w5 ⟨rfl, hb⟩
    have HB5 := Lib.hid (HB4.out.trans (hb.mono HB4.out.size))
    clear hb
    go_wp2
    go_ret
    exact ⟨rfl, HB5.out⟩
  · obtain ⟨hn1, hn2⟩ := hne hab
    clear hne hab
    generalize valB (keyB s p) a = x at *
    generalize valB (keyB s p) b = y at *
    go_enter Try.func6, Try.ntmps6
    go_wp2_with fail
    refine (V1.out _).mono ?_
    rintro e w1 ⟨rfl, hb⟩
    have HB1 := Lib.hid hb
    clear hb
    go_wp2_with fail
    refine (V2.out _).mono ?_
    rintro e w2 ⟨rfl, hb⟩
    have HB2 := Lib.hid (HB1.out.trans (hb.mono HB1.out.size))
    clear hb
    go_wp2_with fail
    refine (F1.out _).mono ?_
    rintro e w3 ⟨rfl, hb⟩
    have HB3 := Lib.hid (HB2.out.trans (hb.mono HB2.out.size))
    clear hb
    go_wp2_with fail
    refine (F2.out _).mono ?_
    rintro e w4 ⟨rfl, hb⟩
    have HB4 := Lib.hid (HB3.out.trans (hb.mono HB3.out.size))
    clear hb
    go_wp2_with fail
    refine (AW.out _).mono ?_
    rintro e w5 ⟨rfl, hb⟩
    have HB5 := Lib.hid (HB4.out.trans (hb.mono HB4.out.size))
    clear hb
    go_wp2
    go_ret
    exact ⟨rfl, HB5.out⟩
end Go.Proofs.Ytfcajgfhmfpchaa
