/-
  THE WALK of fermatalaw06.RngStreams, for any slice.
-/
import Derived.Test.YtfcajgfhmfpchaaWRngStreams
namespace Go.Proofs.Ytfcajgfhmfpchaa
open Go.RowKit Pl

set_option maxRecDepth 100000 in
set_option maxHeartbeats 2000000 in
theorem rngStreams_no (s : BitVec 64) (p : Int) (v : Value) (hp : p < 0 ∨ 65536 < p) (w : World) :
    Calls Try.prog 4 #[.int .u64 (s.toNat : Int), .int .i64 p, v] w fun e w' => e = .returned (.bool true) ∧ Below w.heap.size w w' := by
  have AW := Lib.hid (fun W => awakeR_calls W)
  have hN := Lib.hid (fun W => newR_no s p hp W)
  have hP := Lib.hid (fun W => rProcess_no p hp W)
  clear hp
  go_enter Try.func4, Try.ntmps4
  go_wp2_with fail
  refine (hN.out _).mono ?_
  rintro e w1 ⟨rfl, hb⟩
  have HB1 := Lib.hid hb
  clear hb
  go_wp2_with fail
  refine (hP.out _).mono ?_
  rintro e w' ⟨rfl, rfl⟩
  go_wp2_with fail
  refine (AW.out _).mono ?_
  rintro e w2 ⟨rfl, hb⟩
  have HB2 := Lib.hid (HB1.out.trans (hb.mono HB1.out.size))
  clear hb
  go_wp2
  go_ret
  exact ⟨rfl, HB2.out⟩
set_option maxRecDepth 100000 in
set_option maxHeartbeats 2000000 in
theorem rngStreams_long (s : BitVec 64) (p n c : Nat) (a : Option Addr) (hp : p ≤ 65536) (hn : 100 < n) (w : World) :
    Calls Try.prog 4 #[.int .u64 (s.toNat : Int), .int .i64 (p : Int), .slice a n c] w fun e w' => e = .returned (.bool true) ∧ Below w.heap.size w w' := by
  have AW := Lib.hid (fun W => awakeR_calls W)
  have hN := Lib.hid (fun W => newR_yes s p hp W)
  have hP := Lib.hid (fun W => rProcess_yes p hp W)
  have hn1 : (100 : Int) < (n : Int) := by omega
  clear hp hn
  go_enter Try.func4, Try.ntmps4
  go_wp2_with fail
  refine (hN.out _).mono ?_
  rintro e w1 ⟨X, rfl, hX, hs, hb⟩
  have HB1 := Lib.hid hb
  clear hb hX hs
  go_wp2_with fail
  refine (hP.out _).mono ?_
  rintro e w' ⟨rfl, rfl⟩
  go_wp2_with fail
  refine (AW.out _).mono ?_
  rintro e w2 ⟨rfl, hb⟩
  have HB2 := Lib.hid (HB1.out.trans (hb.mono HB1.out.size))
  clear hb
  go_wp2
  go_ret
  exact ⟨rfl, HB2.out⟩
set_option maxRecDepth 100000 in
set_option maxHeartbeats 2000000 in
theorem rngStreams_none (s : BitVec 64) (p c : Nat) (a : Option Addr) (hp : p ≤ 65536) (w : World) :
    Calls Try.prog 4 #[.int .u64 (s.toNat : Int), .int .i64 (p : Int), .slice a 0 c] w fun e w' => e = .returned (.bool true) ∧ Below w.heap.size w w' := by
  have AW := Lib.hid (fun W => awakeR_calls W)
  have hN := Lib.hid (fun W => newR_yes s p hp W)
  have hP := Lib.hid (fun W => rProcess_yes p hp W)
  clear hp
  go_enter Try.func4, Try.ntmps4
  go_wp2_with fail
  refine (hN.out _).mono ?_
  rintro e w1 ⟨X, rfl, hX, hs, hb⟩
  have HB1 := Lib.hid hb
  clear hb hX hs
  go_wp2_with fail
  refine (hP.out _).mono ?_
  rintro e w' ⟨rfl, rfl⟩
  go_wp2_with fail
  refine wp_loop_rounds 1 ?_
  rw [rounds_succ]
  go_wp2_with fail
  refine (AW.out _).mono ?_
  rintro e w2 ⟨rfl, hb⟩
  have HB2 := Lib.hid (HB1.out.trans (hb.mono HB1.out.size))
  clear hb
  go_wp2
  go_ret
  exact ⟨rfl, HB2.out⟩
theorem rngStreams_walk (s : BitVec 64) (p : Int) (a : Option Addr) (len cap : Nat) (A B : Nat → Int) (w : World) (h : IsSmalls w a len cap A B) :
    Calls Try.prog 4 #[.int .u64 (s.toNat : Int), .int .i64 p, .slice a len cap] w fun e w' => e = .returned (.bool true) ∧ Below w.heap.size w w' := by
  by_cases hp : p < 0 ∨ 65536 < p
  · exact rngStreams_no s p _ hp w
  · obtain ⟨q, rfl⟩ : ∃ q : Nat, p = (q : Int) := ⟨p.toNat, by omega⟩
    have hq : q ≤ 65536 := by omega
    by_cases hn : 100 < len
    · exact rngStreams_long s q len cap a hq hn w
    · rcases isActs_row h with ⟨rfl, _⟩ | ⟨b, off, rfl, hb, hc, hm, _, hcell⟩
      · exact rngStreams_none s q cap a hq w
      · exact rngStreams_some s q b off len cap A B hq hc hm (by omega) w hb hcell
end Go.Proofs.Ytfcajgfhmfpchaa
