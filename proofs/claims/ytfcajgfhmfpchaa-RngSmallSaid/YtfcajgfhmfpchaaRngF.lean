/-
  CONTRACTS of Process, Index, Key and Value of the reference of layer 6.
-/
import Derived.Test.YtfcajgfhmfpchaaRngAwake
namespace Go.Proofs.Ytfcajgfhmfpchaa
open Go.RowKit Pl

theorem rProcess_yes (p : Nat) (hp : p ≤ 65536) (w : World) :
    Calls Try.prog 15 #[.int .i64 (p : Int)] w fun e w' => e = .returned (.bool true) ∧ w = w' := by
  have h0 : (0 : Int) ≤ (p : Int) := by omega
  have h1 : (p : Int) ≤ 65536 := by omega
  go_enter Try.func15, Try.ntmps15
  go_wp2
  go_ret
  exact ⟨rfl, rfl⟩
theorem rProcess_no (p : Int) (hp : p < 0 ∨ 65536 < p) (w : World) :
    Calls Try.prog 15 #[.int .i64 p] w fun e w' => e = .returned (.bool false) ∧ w = w' := by
  by_cases h0 : p < 0
  · have h1 : ¬ 0 ≤ p := by omega
    clear hp
    go_enter Try.func15, Try.ntmps15
    go_wp2
    go_ret
    exact ⟨rfl, rfl⟩
  · have h1 : 0 ≤ p := by omega
    have h2 : ¬ p ≤ 65536 := by omega
    clear hp
    go_enter Try.func15, Try.ntmps15
    go_wp2
    go_ret
    exact ⟨rfl, rfl⟩
theorem rIndex_yes (p : Nat) (hp : p ≤ 281474976710656) (w : World) :
    Calls Try.prog 30 #[.int .i64 (p : Int)] w fun e w' => e = .returned (.bool true) ∧ w = w' := by
  have h0 : (0 : Int) ≤ (p : Int) := by omega
  have h1 : (p : Int) ≤ 281474976710656 := by omega
  go_enter Try.func30, Try.ntmps30
  go_wp2
  go_ret
  exact ⟨rfl, rfl⟩
theorem rIndex_no (p : Int) (hp : p < 0 ∨ 281474976710656 < p) (w : World) :
    Calls Try.prog 30 #[.int .i64 p] w fun e w' => e = .returned (.bool false) ∧ w = w' := by
  by_cases h0 : p < 0
  · have h1 : ¬ 0 ≤ p := by omega
    clear hp
    go_enter Try.func30, Try.ntmps30
    go_wp2
    go_ret
    exact ⟨rfl, rfl⟩
  · have h1 : 0 ≤ p := by omega
    have h2 : ¬ p ≤ 281474976710656 := by omega
    clear hp
    go_enter Try.func30, Try.ntmps30
    go_wp2
    go_ret
    exact ⟨rfl, rfl⟩
theorem rKey_calls (s : BitVec 64) (p : Nat) (hp : p ≤ 65536) (w : World) :
    Calls Try.prog 29 #[.int .u64 (s.toNat : Int), .int .i64 (p : Int)] w fun e w' => e = .returned (.int .u64 ((keyB s p).toNat : Int)) ∧ Below w.heap.size w w' := by
  have hJ := Lib.hid (fun (W : World) (g : Nat) (hg : g = W.heap.size) => rjoin_calls 2 _ [s.toNat, p] _ rfl (nrow_two' W s.toNat p s.isLt (by omega) 22 g hg))
  have hk : joinN [s.toNat, p] = keyB s p := rfl
  rw [hk] at hJ
  generalize keyB s p = key at *
  clear hk
  have hsb := uv_bounds s
  go_enter Try.func29, Try.ntmps29
  go_wp2_with fail
  refine (hJ.out _ _ (by rfl)).mono ?_
  rintro e w' ⟨rfl, n, hw⟩
  have hb : Below w.heap.size w w' := by rw [hw]; exact below_drewN (by go_grown) _
  clear hw
  go_wp2
  go_ret
  exact ⟨rfl, hb⟩
theorem rValue_calls (s : BitVec 64) (p i : Nat) (hp : p ≤ 65536) (hi : i ≤ 281474976710656) (w : World) :
    Calls Try.prog 16 #[.int .u64 (s.toNat : Int), .int .i64 (p : Int), .int .i64 (i : Int)] w fun e w' => e = .returned (.int .u64 ((valB (keyB s p) i).toNat : Int)) ∧ Below w.heap.size w w' := by
  have hK := Lib.hid (fun W => rKey_calls s p hp W)
  generalize keyB s p = key at *
  have e1 : (i : Int) + 1 = (((BitVec.ofNat 64 i + 1#64 : BitVec 64).toNat : Nat) : Int) := by
    rw [BitVec.toNat_add, BitVec.toNat_ofNat, Nat.mod_eq_of_lt (show i < 2 ^ 64 by omega), show (1#64).toNat = 1 from rfl, Nat.mod_eq_of_lt (by omega)]
    omega
  have e0 := uv_bounds (BitVec.ofNat 64 i + 1#64)
  have e2 : IntKind.u64.wrap (((BitVec.ofNat 64 i + 1#64 : BitVec 64).toNat : Int) * 11400714819323198485) = (((BitVec.ofNat 64 i + 1#64) * goldB).toNat : Int) := uv_mul _ goldB
  have e3 := uv_add key ((BitVec.ofNat 64 i + 1#64) * goldB)
  have hM := Lib.hid (fun W => rMix_calls (key + (BitVec.ofNat 64 i + 1#64) * goldB) W)
  have hv : valB key i = mixB (key + (BitVec.ofNat 64 i + 1#64) * goldB) := rfl
  rw [hv]
  have e4 : ((BitVec.ofNat 64 i + 1#64 : BitVec 64).toNat : Int) ≤ 281474976710657 := by omega
  generalize mixB (key + (BitVec.ofNat 64 i + 1#64) * goldB) = m5 at *
  generalize key + (BitVec.ofNat 64 i + 1#64) * goldB = m4 at *
  generalize (BitVec.ofNat 64 i + 1#64) * goldB = m3 at *
  generalize BitVec.ofNat 64 i + 1#64 = m2 at *
  clear hv
  go_enter Try.func16, Try.ntmps16
  go_wp2_with fail
  refine (hK.out _).mono ?_
  rintro e w1 ⟨rfl, hb⟩
  go_wp2_with fail
  refine (hM.out _).mono ?_
  rintro e w' ⟨rfl, rfl⟩
  go_wp2
  go_ret
  exact ⟨rfl, hb⟩
end Go.Proofs.Ytfcajgfhmfpchaa
