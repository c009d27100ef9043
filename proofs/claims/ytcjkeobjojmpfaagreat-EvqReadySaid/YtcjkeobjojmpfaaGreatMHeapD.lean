import Derived.Test.YtcjkeobjojmpfaaGreatMHeapC
import Derived.Test.YtcjkeobjojmpfaaGreatMRangeKept
import Derived.Shelf.Abstract
import Derived.OwnWalkIn
import Derived.TacticsInMore
import Derived.LoopNIn
import Derived.LoopIn
/-
  CONTRACTS of heap's below and of the iterator that it makes.
-/
namespace Go.Proofs.YtcjkeobjojmpfaaGreat
open Go.RowKit Go.Shelf

attribute [local go_sem] Oper.semAt_some

/-- What the iterator reads between two rounds. -/
def Kids (q Bi Bq i m cap : Nat) (A : Option Addr) (W : World) : Prop :=
  Boxed W Bi 3 (.int .i64 (i : Int)) ∧ Boxed W Bq 84 (.pointer (some ⟨q, 0, none⟩)) ∧ W.cell? ⟨q, 0, none⟩ = some (.slice A m cap)
set_option maxRecDepth 100000 in
set_option maxHeartbeats 1000000 in
theorem below_in (n : Nat) (q : Nat) (i : Nat) (w : World) :
    CallsIn Fence.wide n Tryz.prog 134 #[.pointer (some ⟨q, 0, none⟩), .int .i64 (i : Int)] w fun e w' => e = .returned (.func (.func 138) #[] #[.pointer (some ⟨w.heap.size + 1, 0, none⟩), .pointer (some ⟨w.heap.size, 0, none⟩)]) ∧
      w' = (w.alloc (.cells #[.pointer (some ⟨q, 0, none⟩)] 84)).alloc (.cells #[.int .i64 (i : Int)] 3) := by
  refine callsIn_of_wp Tryz.func134 rfl trivial ?_ rfl
  simp only [Tryz.ntmps134, List.size_toArray, List.length_cons, List.length_nil, Nat.reduceAdd, Nat.reduceSub, Array.replicate_succ, Array.replicate_zero, List.push_toArray, List.append_toArray, List.nil_append, List.cons_append]
  gi_wp2
  go_ret
  exact ⟨rfl, rfl⟩
set_option maxRecDepth 100000 in
set_option maxHeartbeats 2000000 in
theorem below1_kept (n : Nat) (hn : 1 ≤ n) (q Bi Bq i m cap N : Nat) (A : Option Addr) (hi : i < 100000) (h1 : N ≤ 4) (h2 : ∀ k, k < N → 4 * i + 1 + k < m) (h3 : N < 4 → m ≤ 4 * i + 1 + N) :
    SeqKept Fence.wide n Tryz.prog 138 #[.pointer (some ⟨Bi, 0, none⟩), .pointer (some ⟨Bq, 0, none⟩)] (fun k => #[.int .i64 ((4 * i + 1 + k : Nat) : Int)]) N (Kids q Bi Bq i m cap A) := by
  intro l J Jx W hJA hJx hSt hY h0
  have hY0 := Lib.hid hY
  have hJ0 := Lib.hid hJA
  have hS0 := Lib.hid hSt
  have HJ00 := Lib.hid h0
  have H2 := Lib.hid h2
  have H3 := Lib.hid h3
  obtain ⟨k1, k2, k3⟩ := hSt 0 W h0
  have c1 := k1.cell
  have w1 : IntKind.i64.wrap (4 * (i : Int)) = 4 * (i : Int) := by rw [IntKind.wrap_i64]; omega
  have w2 : IntKind.i64.wrap (4 * (i : Int) + 1) = 4 * (i : Int) + 1 := by rw [IntKind.wrap_i64]; omega
  have w3 : IntKind.i64.wrap (4 * (i : Int) + 1 + 4) = 4 * (i : Int) + 1 + 4 := by rw [IntKind.wrap_i64]; omega
  clear hY hJA hJx hSt h0 h2 h3 k1 k2 k3
  refine callsIn_of_wp Tryz.func138 rfl trivial ?_ rfl
  simp only [Tryz.ntmps138, List.size_toArray, List.length_cons, List.length_nil, Nat.reduceAdd, Nat.reduceSub, Array.replicate_succ, Array.replicate_zero, List.push_toArray, List.append_toArray, List.nil_append, List.cons_append]
  gi_wp2
  gi_loopw [5] (fun jv wr => ∃ k : Nat, k ≤ N ∧ jv = .int .i64 (4 * (i : Int) + 1 + (k : Int)) ∧ J k wr) (fun jv _ => 4 * i + 1 + N - (intOf jv).toNat)
  case atStart => exact ⟨0, Nat.zero_le _, by simp, HJ00.out⟩
  case round =>
    obtain ⟨k, hk, rfl, hJ⟩ := hrel
    have HJ := Lib.hid hJ
    obtain ⟨k1, k2, k3⟩ := hS0.out k wr hJ
    have d1 := k1.cell
    have d2 := k2.cell
    clear hJ k1 k2 c1
    by_cases hlt : k < N
    · have e1 : 4 * (i : Int) + 1 + (k : Int) < 4 * (i : Int) + 1 + 4 := by omega
      have e2 : 4 * (i : Int) + 1 + (k : Int) < (m : Int) := by have := H2.out k hlt; omega
      have e3 : IntKind.i64.wrap (4 * (i : Int) + 1 + (k : Int) + 1) = 4 * (i : Int) + 1 + (k : Int) + 1 := by rw [IntKind.wrap_i64]; omega
      obtain ⟨fn, tmps, assign, body, hy, hR⟩ := hY0.out k wr hlt HJ.out
      have HR := Lib.hid hR
      clear hR
      rw [show ((4 * i + 1 + k : Nat) : Int) = 4 * (i : Int) + 1 + (k : Int) by omega] at hy
      gi_wp2_with fail
      refine HR.out.mono ?_
      rintro e W3 (⟨rfl, hJ3⟩ | ⟨rfl, hJx3⟩)
      · have HJ3 := Lib.hid hJ3
        clear hJ3
        gi_wp2
        go_roundw
        case rel => exact ⟨k + 1, hlt, by go_num, HJ3.out⟩
        case measure => simp [intOf]; omega
      · gi_wp2
        refine bodyPost_ret (results_none rfl _ _ _) rfl ?_
        exact ⟨⟨_, rfl⟩, .inr ⟨k, hlt, hJx3⟩⟩
    · obtain rfl : k = N := by omega
      by_cases h4 : k = 4
      · have e1 : ¬ 4 * (i : Int) + 1 + (k : Int) < 4 * (i : Int) + 1 + 4 := by omega
        clear hlt
        gi_wp2
        refine bodyPost_end (results_none rfl _ _ _) rfl ?_
        exact ⟨⟨_, rfl⟩, .inl (by first | exact HJ.out | exact h4 ▸ HJ.out)⟩
      · have e1 : 4 * (i : Int) + 1 + (k : Int) < 4 * (i : Int) + 1 + 4 := by omega
        have e2 : ¬ 4 * (i : Int) + 1 + (k : Int) < (m : Int) := by have := H3.out (by omega); omega
        clear hlt
        gi_wp2
        refine bodyPost_end (results_none rfl _ _ _) rfl ?_
        exact ⟨⟨_, rfl⟩, .inl HJ.out⟩
end Go.Proofs.YtcjkeobjojmpfaaGreat
