/-
  CONTRACTS of mix.Join and mix.Last.
-/
import Derived.Test.YtfcajgfhmfpchaaMixA
import Derived.Test.YtfcajgfhmfpchaaNumAll
namespace Go.Proofs.Ytfcajgfhmfpchaa
open Go.RowKit Pl

/-- What a row of numbers is joined to. -/
def bvL (l : List Nat) : List (BitVec 64) := l.map (BitVec.ofNat 64)
def joinN (l : List Nat) : BitVec 64 := joinB (bvL l)
theorem joinN_snoc (l : List Nat) (x : Nat) : joinN (l ++ [x]) = mixB (goldB + BitVec.ofNat 64 x + joinN l * goldB) := by
  unfold joinN bvL
  rw [List.map_append, List.map_singleton, joinB_snoc]
theorem uvn {x : Nat} (h : x < 18446744073709551616) : (x : Int) = ((BitVec.ofNat 64 x).toNat : Int) := by
  rw [BitVec.toNat_ofNat, Nat.mod_eq_of_lt (by omega)]

set_option maxRecDepth 100000 in
set_option maxHeartbeats 1000000 in
theorem join_calls (v : Value) (l : List Nat) (w : World) (h : NRow w v l) :
    Calls Try.prog 41 #[v] w fun e w' => e = .returned (.int .u64 ((joinN l).toNat : Int)) ∧ w = w' := by
  obtain ⟨hb, ⟨a, c, rfl, rfl, hac⟩ | ⟨b, off, cap, rfl, hc, hm, hcell⟩⟩ := h
  · clear hac
    go_enter Try.func41, Try.ntmps41
    go_wp2
    refine wp_loop_rounds 1 ?_
    rw [rounds_succ]
    go_wp2
    go_ret
    exact ⟨rfl, rfl⟩
  · have hH := Lib.hid hcell; clear hcell
    have hB := Lib.hid hb; clear hb
    unfold maxLen at hm
    go_enter Try.func41, Try.ntmps41
    go_wp2
    go_loop [3, 8] (fun v3 i => ∃ k : Nat, k ≤ l.length ∧ i = .int .i64 k ∧ v3 = .int .u64 ((joinN (l.take k)).toNat : Int)) (fun _ i => l.length - (intOf i).toNat)
    case atStart => exact ⟨0, by omega, rfl, rfl⟩
    case round =>
      obtain ⟨k, hk, rfl, rfl⟩ := hrel
      by_cases hlt : k < l.length
      · have hs := Lib.hid (show joinN (l.take (k + 1)) = _ from by rw [take_snoc_gt k hlt, joinN_snoc])
        have hcell : w.cell? ⟨b, off + k, none⟩ = some (.int .u64 ((BitVec.ofNat 64 (gt l k)).toNat : Int)) := by rw [← uvn (hB.out _ (gt_mem hlt))]; exact hH.out k hlt
        generalize BitVec.ofNat 64 (gt l k) = x at *
        generalize joinN (l.take k) = j at *
        have e1 : IntKind.u64.wrap (11400714819323198485 + (x.toNat : Int)) = ((goldB + x).toNat : Int) := uv_add goldB x
        have e2 : IntKind.u64.wrap ((j.toNat : Int) * 11400714819323198485) = ((j * goldB).toNat : Int) := uv_mul j goldB
        have e3 := uv_add (goldB + x) (j * goldB)
        have hM := Lib.hid (fun W => Mix_calls (goldB + x + j * goldB) W)
        generalize goldB + x + j * goldB = m3 at *
        generalize goldB + x = m1 at *
        generalize j * goldB = m2 at *
        go_wp2_with fail
        refine (hM.out _).mono ?_
        rintro e w' ⟨rfl, rfl⟩
        go_wp2
        go_round
        case rel => exact ⟨k + 1, by omega, by go_num, by rw [hs.out]⟩
        case measure => simp [intOf]; omega
      · obtain rfl : k = l.length := by omega
        rw [List.take_length]
        go_wp2
        go_ret
        exact ⟨rfl, rfl⟩
end Go.Proofs.Ytfcajgfhmfpchaa
