/-
  CONTRACTS of slices.Values, AppendSeq and Collect at entries.
-/
import Derived.Test.YtjnocijfjkbaiaaHeapL
namespace Go.Proofs.Ytjnocijfjkbaiaa
open Go.RowKit Go.Shelf

attribute [local go_sem] Oper.semAt_some

set_option maxHeartbeats 1000000 in
theorem values_calls (a : Option Addr) (m c : Nat) (w : World) :
    Calls Try.prog 40 #[.slice a m c] w fun e w' => e = .returned (.func (.func 55) #[] #[.pointer (some ⟨w.heap.size, 0, none⟩)]) ∧ w' = w.alloc (.cells #[.slice a m c] 39) := by
  go_enter Try.func40, Try.ntmps40
  go_wp2
  go_ret
  exact ⟨rfl, rfl⟩
/-- What the iterator reads. -/
def Vals (Bt : Nat) (a : Option Addr) (c : Nat) (t : List En) (W : World) : Prop := Boxed W Bt 39 (.slice a t.length c) ∧ TV W (.slice a t.length c) t
set_option maxRecDepth 100000 in
set_option maxHeartbeats 2000000 in
theorem values1_kept (n : Nat) (hn : 1 ≤ n) (Bt c : Nat) (a : Option Addr) (t : List En) (ht : t.length ≤ 4096) :
    SeqKept Fence.wide n Try.prog 55 #[.pointer (some ⟨Bt, 0, none⟩)] (fun k => #[.agg #[.int .i64 (en t k).1.1, .int .i64 (en t k).1.2.1, .int .i64 (en t k).1.2.2, .int .i64 ((en t k).2 : Int)]]) t.length (Vals Bt a c t) := by
  intro l J Jx W hJA hJx hSt hY h0
  have hY0 := Lib.hid hY
  have hJ0 := Lib.hid hJA
  have hS0 := Lib.hid hSt
  have HJ00 := Lib.hid h0
  obtain ⟨k1, k2⟩ := hSt 0 W h0
  have c1 := k1.cell
  obtain ⟨m, hm⟩ : ∃ m, t.length = m := ⟨_, rfl⟩
  have HM := Lib.hid hm
  rw [hm] at c1 ht
  have hmi : (m : Int) ≤ 4096 := by omega
  clear hY hJA hJx hSt h0 k1 k2
  refine callsIn_of_wp Try.func55 rfl trivial ?_ rfl
  simp only [Try.ntmps55, List.size_toArray, List.length_cons, List.length_nil, Nat.reduceAdd, Nat.reduceSub, Array.replicate_succ, Array.replicate_zero, List.push_toArray, List.append_toArray, List.nil_append, List.cons_append]
  clear hm
  rw [HM.out]
  gi_wp2
  gi_loopw [7] (fun jv wr => ∃ k : Nat, k ≤ m ∧ jv = .int .i64 (k : Int) ∧ J k wr) (fun jv _ => m - (intOf jv).toNat)
  case atStart => exact ⟨0, Nat.zero_le _, by simp, HJ00.out⟩
  case round =>
    obtain ⟨k, hk, rfl, hJ⟩ := hrel
    have HJ := Lib.hid hJ
    obtain ⟨k1, k2⟩ := hS0.out k wr hJ
    clear hJ k1 c1
    by_cases hlt : k < m
    · have e1 : (k : Int) < (m : Int) := by omega
      rcases k2 with ⟨_, e2⟩ | ⟨g, cap, e, hrow, hcap⟩
      · have := HM.out; rw [e2] at this; simp at this; omega
      obtain ⟨x0, x1, x2, x3⟩ := hrow.cell k (by rw [HM.out]; exact hlt)
      have e3 : a = some ⟨g, 0, none⟩ ∧ c = cap := by simpa [HM.out] using e
      obtain ⟨rfl, rfl⟩ := e3
      have HJa := Lib.hid (hJ0.out k wr _ HJ.out (World.grownBy_alloc wr (.cells #[.int .i64 (en t k).1.1, .int .i64 (en t k).1.2.1, .int .i64 (en t k).1.2.2, .int .i64 ((en t k).2 : Int)] 81) none))
      obtain ⟨fn, tmps, assign, body, hy, hR⟩ := hY0.out k _ (by rw [HM.out]; exact hlt) HJa.out
      have HR := Lib.hid hR
      generalize en t k = E at *
      clear hR e hrow hcap
      gi_wp2_with fail
      refine HR.out.mono ?_
      rintro e W3 (⟨rfl, hJ3⟩ | ⟨rfl, hJx3⟩)
      · have HJ3 := Lib.hid hJ3
        clear hJ3
        gi_wp2
        go_roundw
        case rel => exact ⟨k + 1, hlt, by go_num, HJ3.out⟩
        case measure => simp [intOf]; omega
      · gi_wp2
        refine bodyPost_ret (results_none rfl _ _ _) rfl ?_
        exact ⟨⟨_, rfl⟩, .inr ⟨k, hlt, hJx3⟩⟩
    · obtain rfl : k = m := by omega
      clear k2 hlt
      gi_wp2
      refine bodyPost_end (results_none rfl _ _ _) rfl ?_
      exact ⟨⟨_, rfl⟩, .inl HJ.out⟩
end Go.Proofs.Ytjnocijfjkbaiaa
