import Derived.Test.YtcjkeobjojmpfaaGreatMKeyA
import Derived.Test.YtcjkeobjojmpfaaGreatMRangeTied
import Derived.Test.YtcjkeobjojmpfaaGreatMIRow
import Derived.WalkSpells
import Derived.WalkLawsBesides
import Derived.Shelf.Abstract
import Derived.OwnWalkIn
import Derived.TacticsInMore
import Derived.LoopNIn
import Derived.LoopIn
import Derived.BigRegionIn
import Derived.BigFrameIn
import Derived.BigGuardIn
import Derived.Sort.QuietTacIn
/-
  CONTRACTS of key.parts and of the iterator that it makes: the fields of a key, one by one.
-/
namespace Go.Proofs.YtcjkeobjojmpfaaGreat
open Go.RowKit Go.Shelf

attribute [local go_sem] Oper.semAt_some

def mostP : Nat → Int
  | 0 => 281474976710656
  | 1 => 16
  | _ => 4294967295
def sizeP : Nat → Int
  | 0 => 7
  | 1 => 1
  | _ => 4
def encP (K k : Nat) : Array Value := #[.int .i64 (k : Int), .agg #[.pointer (some ⟨K, k, none⟩), .int .i64 (mostP k), .int .i64 (sizeP k)]]

set_option maxRecDepth 100000 in
set_option maxHeartbeats 1000000 in
theorem partsK_in (n K : Nat) (w : World) :
    CallsIn Fence.wide n Tryz.prog 78 #[.pointer (some ⟨K, 0, none⟩)] w fun e w' => e = .returned (.func (.func 105) #[] #[.pointer (some ⟨w.heap.size, 0, none⟩)]) ∧ w' = w.alloc (.cells #[.pointer (some ⟨K, 0, none⟩)] 141) := by
  refine callsIn_of_wp Tryz.func78 rfl trivial ?_ rfl
  simp only [Tryz.ntmps78, List.size_toArray, List.length_cons, List.length_nil, Nat.reduceAdd, Nat.reduceSub, Array.replicate_succ, Array.replicate_zero, List.push_toArray, List.append_toArray, List.nil_append, List.cons_append]
  gi_wp2
  go_ret
  exact ⟨rfl, rfl⟩

theorem partsK_at0 (K : Nat) (W : World) : (Instr.index 172 (.agg #[.pointer (some ⟨K, 0, none⟩), .int .i64 281474976710656, .int .i64 7, .pointer (some ⟨K, 1, none⟩), .int .i64 16, .int .i64 1, .pointer (some ⟨K, 2, none⟩), .int .i64 4294967295, .int .i64 4]) (.int .i64 0)).run Tryz.prog W = .ok (.agg #[.pointer (some ⟨K, 0, none⟩), .int .i64 281474976710656, .int .i64 7]) W := by kernel_rfl
theorem partsK_at1 (K : Nat) (W : World) : (Instr.index 172 (.agg #[.pointer (some ⟨K, 0, none⟩), .int .i64 281474976710656, .int .i64 7, .pointer (some ⟨K, 1, none⟩), .int .i64 16, .int .i64 1, .pointer (some ⟨K, 2, none⟩), .int .i64 4294967295, .int .i64 4]) (.int .i64 1)).run Tryz.prog W = .ok (.agg #[.pointer (some ⟨K, 1, none⟩), .int .i64 16, .int .i64 1]) W := by kernel_rfl
theorem partsK_at2 (K : Nat) (W : World) : (Instr.index 172 (.agg #[.pointer (some ⟨K, 0, none⟩), .int .i64 281474976710656, .int .i64 7, .pointer (some ⟨K, 1, none⟩), .int .i64 16, .int .i64 1, .pointer (some ⟨K, 2, none⟩), .int .i64 4294967295, .int .i64 4]) (.int .i64 2)).run Tryz.prog W = .ok (.agg #[.pointer (some ⟨K, 2, none⟩), .int .i64 4294967295, .int .i64 4]) W := by kernel_rfl
set_option maxRecDepth 100000 in
set_option maxHeartbeats 4000000 in
theorem partsK_tied (n : Nat) (hn : 1 ≤ n) (Bs K : Nat) :
    SeqTied Fence.wide n Tryz.prog 105 #[.pointer (some ⟨Bs, 0, none⟩)] (encP K) 3 (fun W => Boxed W Bs 141 (.pointer (some ⟨K, 0, none⟩))) := by
  intro l J Jx W hbox hJ hJx hY h0
  have hY0 := Lib.hid hY
  have hJ0 := Lib.hid hJ
  have hJx0 := Lib.hid hJx
  have hcell := hbox.cell
  have hJ00 := Lib.hid h0
  clear hY hJ hJx hbox h0
  refine callsIn_of_wp Tryz.func105 rfl trivial ?_ rfl
  simp only [Tryz.ntmps105, List.size_toArray, List.length_cons, List.length_nil, Nat.reduceAdd, Nat.reduceSub, Array.replicate_succ, Array.replicate_zero, List.push_toArray, List.append_toArray, List.nil_append, List.cons_append]
  gi_wp2_with fail
  gi_quiet_th (fail)
  gi_wp2
  gi_loopw [18] (fun i wr => ∃ k : Nat, k ≤ 3 ∧ i = .int .i64 (k : Int) ∧ J k wr) (fun i _ => 3 - (intOf i).toNat)
  case atStart => exact ⟨0, by omega, rfl, hJ0.out _ _ _ hJ00.out (grown_below none (below_drewN (Below.refl _ _) _))⟩
  case round =>
    obtain ⟨k, hk, rfl, hj⟩ := hrel
    have HJ := Lib.hid hj
    clear hj
    by_cases hlt : k < 3
    · obtain rfl | rfl | rfl : k = 0 ∨ k = 1 ∨ k = 2 := by omega
      · have HA := fun W => partsK_at0 K W
        rw [show ((0 : Nat) : Int) = 0 from rfl]
        have HJa := Lib.hid (hJ0.out _ _ _ HJ.out (World.grownBy_alloc wr (.cells #[.pointer (some ⟨K, 0, none⟩), .int .i64 281474976710656, .int .i64 7] 144) none))
        obtain ⟨fn, tmps, assign, body, hy, hR⟩ := hY0.out 0 _ (by omega) HJa.out
        simp only [encP, mostP, sizeP, show ((0 : Nat) : Int) = 0 from rfl] at hy
        have HR := Lib.hid hR
        clear hR
        gi_wp2_with fail
        refine HR.out.mono ?_
        rintro e W3 (⟨rfl, hJ3⟩ | ⟨rfl, hJx3⟩)
        · have HJ3 := Lib.hid hJ3
          clear hJ3 hy
          gi_wp2
          go_roundw
          case rel => exact ⟨1, by omega, rfl, HJ3.out⟩
          case measure => simp [intOf]
        · gi_wp2
          refine bodyPost_ret (results_none rfl _ _ _) rfl ?_
          exact ⟨⟨_, rfl⟩, .inr ⟨0, by omega, hJx3⟩⟩
      · have HA := fun W => partsK_at1 K W
        rw [show ((1 : Nat) : Int) = 1 from rfl]
        have HJa := Lib.hid (hJ0.out _ _ _ HJ.out (World.grownBy_alloc wr (.cells #[.pointer (some ⟨K, 1, none⟩), .int .i64 16, .int .i64 1] 144) none))
        obtain ⟨fn, tmps, assign, body, hy, hR⟩ := hY0.out 1 _ (by omega) HJa.out
        simp only [encP, mostP, sizeP, show ((1 : Nat) : Int) = 1 from rfl] at hy
        have HR := Lib.hid hR
        clear hR
        gi_wp2_with fail
        refine HR.out.mono ?_
        rintro e W3 (⟨rfl, hJ3⟩ | ⟨rfl, hJx3⟩)
        · have HJ3 := Lib.hid hJ3
          clear hJ3 hy
          gi_wp2
          go_roundw
          case rel => exact ⟨2, by omega, rfl, HJ3.out⟩
          case measure => simp [intOf]
        · gi_wp2
          refine bodyPost_ret (results_none rfl _ _ _) rfl ?_
          exact ⟨⟨_, rfl⟩, .inr ⟨1, by omega, hJx3⟩⟩
      · have HA := fun W => partsK_at2 K W
        rw [show ((2 : Nat) : Int) = 2 from rfl]
        have HJa := Lib.hid (hJ0.out _ _ _ HJ.out (World.grownBy_alloc wr (.cells #[.pointer (some ⟨K, 2, none⟩), .int .i64 4294967295, .int .i64 4] 144) none))
        obtain ⟨fn, tmps, assign, body, hy, hR⟩ := hY0.out 2 _ (by omega) HJa.out
        simp only [encP, mostP, sizeP, show ((2 : Nat) : Int) = 2 from rfl] at hy
        have HR := Lib.hid hR
        clear hR
        gi_wp2_with fail
        refine HR.out.mono ?_
        rintro e W3 (⟨rfl, hJ3⟩ | ⟨rfl, hJx3⟩)
        · have HJ3 := Lib.hid hJ3
          clear hJ3 hy
          gi_wp2
          go_roundw
          case rel => exact ⟨3, by omega, rfl, HJ3.out⟩
          case measure => simp [intOf]
        · gi_wp2
          refine bodyPost_ret (results_none rfl _ _ _) rfl ?_
          exact ⟨⟨_, rfl⟩, .inr ⟨2, by omega, hJx3⟩⟩
    · obtain rfl : k = 3 := by omega
      gi_wp2
      refine bodyPost_end (results_none rfl _ _ _) rfl ?_
      exact ⟨⟨_, rfl⟩, .inl HJ.out⟩
end Go.Proofs.YtcjkeobjojmpfaaGreat
