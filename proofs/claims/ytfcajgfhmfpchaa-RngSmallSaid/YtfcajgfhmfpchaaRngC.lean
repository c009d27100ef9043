/-
  CONTRACTS of rng.of, Key, Value, Draw and Find, and of Process, Index, Key and Value of the reference.
-/
import Derived.Test.YtfcajgfhmfpchaaRngB
import Derived.Test.YtfcajgfhmfpchaaMixRefC
import Derived.BigRegion
import Derived.Deep.RegionWith
namespace Go.Proofs.Ytfcajgfhmfpchaa
open Go.RowKit Pl

theorem nrow_two (w : World) (x y : Nat) (hx : x < 18446744073709551616) (hy : y < 18446744073709551616) (t : TypeId) : NRow (w.alloc (.cells #[.int .u64 (x : Int), .int .u64 (y : Int)] t)) (.slice (some ⟨w.heap.size, 0, none⟩) 2 2) [x, y] :=
  NRow.lit w [x, y] t (by intro z hz; simp at hz; omega) (by simp)

theorem nrow_two' (W : World) (x y : Nat) (hx : x < 18446744073709551616) (hy : y < 18446744073709551616) (t : TypeId) (g : Nat) (hg : g = W.heap.size) : NRow (W.alloc (.cells #[.int .u64 (x : Int), .int .u64 (y : Int)] t)) (.slice (some ⟨g, 0, none⟩) 2 2) [x, y] := by
  subst hg; exact nrow_two W x y hx hy t
/-- What a call leaves: nothing that was there is written. -/
theorem cell_below {B : Nat} {W w' : World} {p : Addr} {v : Value} (h : Below B W w') (hp : p.block < B) (hc : W.cell? p = some v) : w'.cell? p = some v := (h.cell hp).trans hc

set_option maxRecDepth 100000 in
theorem of_yes (s : BitVec 64) (p : Nat) (hp : p ≤ 65536) (w : World) :
    Calls Try.prog 31 #[.int .u64 (s.toNat : Int), .int .i64 (p : Int)] w fun e w' => e = .returned (.tuple #[.agg #[.int .u64 ((keyB s p).toNat : Int)], .int .i64 0]) ∧ Below w.heap.size w w' := by
  have hJ := Lib.hid (fun (W : World) (g : Nat) (hg : g = W.heap.size) => join_calls _ [s.toNat, p] _ (nrow_two' W s.toNat p s.isLt (by omega) 22 g hg))
  have hk : joinN [s.toNat, p] = keyB s p := rfl
  rw [hk] at hJ
  generalize keyB s p = key at *
  clear hk
  have hsb := uv_bounds s
  go_enter Try.func31, Try.ntmps31
  go_wp2_with fail
  refine (hJ.out _ _ (by rw [World.size_alloc])).mono ?_
  rintro e w' ⟨rfl, rfl⟩
  go_wp2
  go_returns
  exact ⟨by simp, by go_grown⟩
theorem of_no (s : BitVec 64) (p : Int) (hp : p < 0 ∨ 65536 < p) (w : World) :
    Calls Try.prog 31 #[.int .u64 (s.toNat : Int), .int .i64 p] w fun e w' => e = .returned (.tuple #[.agg #[.int .u64 0], .int .i64 2]) ∧ Below w.heap.size w w' := by
  by_cases h0 : p < 0
  · go_enter Try.func31, Try.ntmps31
    go_wp2
    go_returns
    exact ⟨by simp, by go_grown⟩
  · have h1 : 65536 < p := by omega
    clear hp
    go_enter Try.func31, Try.ntmps31
    go_wp2
    go_returns
    exact ⟨by simp, by go_grown⟩
theorem at_calls (key : BitVec 64) (i : Nat) (hi : i ≤ 281474976710656) (w : World) :
    Calls Try.prog 35 #[.agg #[.int .u64 (key.toNat : Int)], .int .i64 (i : Int)] w fun e w' => e = .returned (.int .u64 ((valB key i).toNat : Int)) ∧ Below w.heap.size w w' := by
  have e1 : (i : Int) + 1 = (((BitVec.ofNat 64 i + 1#64 : BitVec 64).toNat : Nat) : Int) := by
    rw [BitVec.toNat_add, BitVec.toNat_ofNat, Nat.mod_eq_of_lt (show i < 2 ^ 64 by omega), show (1#64).toNat = 1 from rfl, Nat.mod_eq_of_lt (by omega)]
    omega
  have e0 := uv_bounds (BitVec.ofNat 64 i + 1#64)
  have e2 : IntKind.u64.wrap (((BitVec.ofNat 64 i + 1#64 : BitVec 64).toNat : Int) * 11400714819323198485) = (((BitVec.ofNat 64 i + 1#64) * goldB).toNat : Int) := uv_mul _ goldB
  have e3 := uv_add key ((BitVec.ofNat 64 i + 1#64) * goldB)
  have hM := Lib.hid (fun W => Mix_calls (key + (BitVec.ofNat 64 i + 1#64) * goldB) W)
  have hv : valB key i = mixB (key + (BitVec.ofNat 64 i + 1#64) * goldB) := rfl
  rw [hv]
  generalize mixB (key + (BitVec.ofNat 64 i + 1#64) * goldB) = m5 at *
  generalize key + (BitVec.ofNat 64 i + 1#64) * goldB = m4 at *
  generalize (BitVec.ofNat 64 i + 1#64) * goldB = m3 at *
  generalize BitVec.ofNat 64 i + 1#64 = m2 at *
  clear hv
  go_enter Try.func35, Try.ntmps35
  go_wp2_with fail
  refine (hM.out _).mono ?_
  rintro e w' ⟨rfl, rfl⟩
  go_wp2
  go_ret
  exact ⟨rfl, by go_grown⟩
theorem where_calls (key v : BitVec 64) (w : World) :
    Calls Try.prog 37 #[.agg #[.int .u64 (key.toNat : Int)], .int .u64 (v.toNat : Int)] w fun e w' => e = .returned (.int .u64 ((whereB key v).toNat : Int)) ∧ Below w.heap.size w w' := by
  have hU := Lib.hid (fun W => Unmix_calls v W)
  have e1 := uv_sub (unmixB v) key
  have e2 : IntKind.u64.wrap (((unmixB v - key).toNat : Int) * 17428512612931826493) = (((unmixB v - key) * perB).toNat : Int) := uv_mul _ perB
  have e3 : IntKind.u64.wrap ((((unmixB v - key) * perB).toNat : Int) - 1) = (((unmixB v - key) * perB - 1#64).toNat : Int) := uv_sub _ 1#64
  have hv : whereB key v = (unmixB v - key) * perB - 1#64 := rfl
  rw [hv]
  generalize (unmixB v - key) * perB - 1#64 = m5 at *
  generalize (unmixB v - key) * perB = m4 at *
  generalize unmixB v - key = m3 at *
  generalize unmixB v = m2 at *
  clear hv
  go_enter Try.func37, Try.ntmps37
  go_wp2_with fail
  have hC : (w.alloc (.cells #[.int .u64 (key.toNat : Int)] 48)).cell? ⟨w.heap.size, 0, none⟩ = some (.int .u64 (key.toNat : Int)) := cell_new1 _ _ _
  have HW := Lib.hid ((Below.refl w.heap.size w).alloc (Nat.le_refl _) (.cells #[.int .u64 (key.toNat : Int)] 48))
  have hsz : w.heap.size < (w.alloc (.cells #[.int .u64 (key.toNat : Int)] 48)).heap.size := by simp
  generalize w.alloc (.cells #[.int .u64 (key.toNat : Int)] 48) = W1 at *
  have HC := Lib.hid hC
  have HS := Lib.hid hsz
  clear hsz
  go_region_with (refine (hU.out _).mono ?_; rintro e w1 ⟨rfl, hb1⟩; have B1 := Lib.hid (show Below W1.heap.size W1 w1 by first | exact hb1 | exact (Below.refl W1.heap.size W1).drew.trans hb1 | exact (below_drewN (Below.refl _ _) _).trans hb1); have hc1 := cell_below B1.out HS.out HC.out; clear hb1)
  all_goals
    go_wp2_with fail
    go_ret
    exact ⟨rfl, HW.out.trans (B1.out.mono HW.out.size)⟩
end Go.Proofs.Ytfcajgfhmfpchaa
