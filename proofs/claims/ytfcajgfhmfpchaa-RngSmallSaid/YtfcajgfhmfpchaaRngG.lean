/-
  CONTRACTS of below and tells of fermatalaw06, and THE WALK of RngTells.
-/
import Derived.Test.YtfcajgfhmfpchaaFrame
import Derived.Test.YtfcajgfhmfpchaaRngF
namespace Go.Proofs.Ytfcajgfhmfpchaa
open Go.RowKit Pl

set_option maxRecDepth 100000 in
set_option maxHeartbeats 1000000 in
theorem belowL_calls (v : Nat) (n k : Int) (hv : v < 18446744073709551616) (hn : n ≤ 9223372036854775807) (w : World) :
    Calls Try.prog 22 #[.int .u64 (v : Int), .int .i64 n, .int .i64 k] w fun e w' => e = .returned (.bool true) ∧ w = w' := by
  by_cases h1 : n < 1
  · have hB := Lib.hid (fun W => below_no v n h1 W)
    have hR := Lib.hid (fun W => range_none n k h1 W)
    go_enter Try.func22, Try.ntmps22
    go_wp2_with fail
    refine (hB.out _).mono ?_
    rintro e w' ⟨rfl, rfl⟩
    go_wp2_with fail
    refine (hR.out _).mono ?_
    rintro e w' ⟨rfl, rfl⟩
    go_wp2
    go_ret
    exact ⟨rfl, rfl⟩
  · obtain ⟨N, rfl⟩ : ∃ N : Nat, n = (N : Int) := ⟨n.toNat, by omega⟩
    have hB := Lib.hid (fun W => below_yes v N hv (by omega) (by omega) W)
    have hRB := Lib.hid (fun W => rBelow_calls v N hv (by omega) (by omega) W)
    have hbb : (((belN v N : Nat) : Int) == ((belN v N : Nat) : Int)) = true := by simp
    generalize belN v N = b at *
    by_cases h2 : k < 0 ∨ (N : Int) ≤ k
    · have hR := Lib.hid (fun W => range_off N k (by omega) h2 W)
      go_enter Try.func22, Try.ntmps22
      go_wp2_with fail
      refine (hB.out _).mono ?_
      rintro e w' ⟨rfl, rfl⟩
      go_wp2_with fail
      refine (hR.out _).mono ?_
      rintro e w' ⟨rfl, rfl⟩
      go_wp2_with fail
      refine (hRB.out _).mono ?_
      rintro e w' ⟨rfl, rfl⟩
      by_cases h3 : k < 0
      · clear h2
        go_wp2
        go_ret
        exact ⟨rfl, rfl⟩
      · have h4 : (N : Int) ≤ k := by omega
        clear h2
        go_wp2
        go_ret
        exact ⟨rfl, rfl⟩
    · obtain ⟨K, rfl⟩ : ∃ K : Nat, k = (K : Int) := ⟨k.toNat, by omega⟩
      have hR := Lib.hid (fun W => range_yes N K (by omega) (by omega) W)
      have hRR := Lib.hid (fun W => rRange_calls N K (by omega) (by omega) W)
      have hlt : (K : Int) < (N : Int) := by omega
      generalize ceiN (K + 1) N - 1 = d at *
      generalize ceiN K N = c at *
      clear h2
      go_enter Try.func22, Try.ntmps22
      go_wp2_with fail
      refine (hB.out _).mono ?_
      rintro e w' ⟨rfl, rfl⟩
      go_wp2_with fail
      refine (hR.out _).mono ?_
      rintro e w' ⟨rfl, rfl⟩
      go_wp2_with fail
      refine (hRB.out _).mono ?_
      rintro e w' ⟨rfl, rfl⟩
      go_wp2_with fail
      refine (hRR.out _).mono ?_
      rintro e w' ⟨rfl, rfl⟩
      go_wp2
      go_ret
      exact ⟨rfl, rfl⟩
end Go.Proofs.Ytfcajgfhmfpchaa
