/-
  CONTRACTS of mix.Join and mix.Last.
-/
import Derived.Test.YtnghalhmbjiefaaMixA
import Derived.Test.YtnghalhmbjiefaaNumAll
namespace Go.Proofs.Ytnghalhmbjiefaa
open Go.RowKit Pl

/-- What a row of numbers is joined to. -/
def bvL (l : List Nat) : List (BitVec 64) := l.map (BitVec.ofNat 64)
def joinN (l : List Nat) : BitVec 64 := joinB (bvL l)
theorem joinN_snoc (l : List Nat) (x : Nat) : joinN (l ++ [x]) = mixB (goldB + BitVec.ofNat 64 x + joinN l * goldB) := by
  unfold joinN bvL
  rw [List.map_append, List.map_singleton, joinB_snoc]
theorem uvn {x : Nat} (h : x < 18446744073709551616) : (x : Int) = ((BitVec.ofNat 64 x).toNat : Int) := by
  rw [BitVec.toNat_ofNat, Nat.mod_eq_of_lt (by omega)]

set_option maxRecDepth 100000 in
set_option maxHeartbeats 1000000 in
theorem join_calls (v : Value) (l : List Nat) (w : World) (h : NRow w v l) :
    Calls Try.prog 14 #[v] w fun e w' => e = .returned (.int .u64 ((joinN l).toNat : Int)) ∧ w = w' := by
  obtain ⟨hb, ⟨a, c, rfl, rfl, hac⟩ | ⟨b, off, cap, rfl, hc, hm, hcell⟩⟩ := h
  · clear hac
    go_enter Try.func14, Try.ntmps14
    go_wp2
    refine wp_loop_rounds 1 ?_
    rw [rounds_succ]
    go_wp2
    go_ret
    exact ⟨rfl, rfl⟩
  · have hH := Lib.hid hcell; clear hcell
    have hB := Lib.hid hb; clear hb
    unfold maxLen at hm
    go_enter Try.func14, Try.ntmps14
    go_wp2
    go_loop [3, 8] (fun v3 i => ∃ k : Nat, k ≤ l.length ∧ i = .int .i64 k ∧ v3 = .int .u64 ((joinN (l.take k)).toNat : Int)) (fun _ i => l.length - (intOf i).toNat)
    case atStart => exact ⟨0, by omega, rfl, rfl⟩
    case round =>
      obtain ⟨k, hk, rfl, rfl⟩ := hrel
      by_cases hlt : k < l.length
      · have hs := Lib.hid (show joinN (l.take (k + 1)) = _ from by rw [take_snoc_gt k hlt, joinN_snoc])
        have hcell : w.cell? ⟨b, off + k, none⟩ = some (.int .u64 ((BitVec.ofNat 64 (gt l k)).toNat : Int)) := by rw [← uvn (hB.out _ (gt_mem hlt))]; exact hH.out k hlt
        generalize BitVec.ofNat 64 (gt l k) = x at *
        generalize joinN (l.take k) = j at *
        have e1 : IntKind.u64.wrap (11400714819323198485 + (x.toNat : Int)) = ((goldB + x).toNat : Int) := uv_add goldB x
        have e2 : IntKind.u64.wrap ((j.toNat : Int) * 11400714819323198485) = ((j * goldB).toNat : Int) := uv_mul j goldB
        have e3 := uv_add (goldB + x) (j * goldB)
        have hM := Lib.hid (fun W => Mix_calls (goldB + x + j * goldB) W)
        generalize goldB + x + j * goldB = m3 at *
        generalize goldB + x = m1 at *
        generalize j * goldB = m2 at *
        go_wp2_with fail
        refine (hM.out _).mono ?_
        rintro e w' ⟨rfl, rfl⟩
        go_wp2
        go_round
        case rel => exact ⟨k + 1, by omega, by go_num, by rw [hs.out]⟩
        case measure => simp [intOf]; omega
      · obtain rfl : k = l.length := by omega
        rw [List.take_length]
        go_wp2
        go_ret
        exact ⟨rfl, rfl⟩
theorem last_calls (x : BitVec 64) (v : Value) (l : List Nat) (w : World) (h : NRow w v l) :
    Calls Try.prog 15 #[.int .u64 (x.toNat : Int), v] w fun e w' => e = .returned (.int .u64 ((lastB x (bvL l)).toNat : Int)) ∧ Below w.heap.size w w' := by
  have hU := Lib.hid (fun W => Unmix_calls x W)
  have hJ := Lib.hid (fun W (hb : Below w.heap.size w W) => join_calls v l W (h.below hb))
  have e1 : IntKind.u64.wrap (((unmixB x).toNat : Int) - 11400714819323198485) = ((unmixB x - goldB).toNat : Int) := uv_sub _ goldB
  have e2 : IntKind.u64.wrap (((joinN l).toNat : Int) * 11400714819323198485) = ((joinN l * goldB).toNat : Int) := uv_mul _ goldB
  have e3 := uv_sub (unmixB x - goldB) (joinN l * goldB)
  have hx : lastB x (bvL l) = unmixB x - goldB - joinN l * goldB := rfl
  rw [hx]
  clear hx h
  generalize unmixB x - goldB - joinN l * goldB = m5 at *
  generalize unmixB x - goldB = m4 at *
  generalize joinN l * goldB = m3 at *
  generalize unmixB x = m2 at *
  generalize joinN l = m1 at *
  go_enter Try.func15, Try.ntmps15
  go_wp2_with fail
  refine (hU.out _).mono ?_
  rintro e w' ⟨rfl, hb⟩
  have HB := Lib.hid hb
  clear hb
  go_wp2_with fail
  refine (hJ.out _ HB.out).mono ?_
  rintro e w' ⟨rfl, rfl⟩
  go_wp2
  go_ret
  exact ⟨rfl, HB.out⟩
end Go.Proofs.Ytnghalhmbjiefaa
