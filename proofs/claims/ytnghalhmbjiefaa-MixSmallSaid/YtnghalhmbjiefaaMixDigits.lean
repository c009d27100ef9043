/-
  CONTRACTS of mix.digits and of the iterator that it makes: the digits of a number, the lowest one first.
-/
import Derived.Test.YtnghalhmbjiefaaMixText
import Derived.Test.YtnghalhmbjiefaaRangeBox
import Derived.Test.YtnghalhmbjiefaaProg
import Derived.Handy
import Derived.WalkSpells
import Derived.WalkLawsBesides
import Derived.Lib.Hide
import Derived.Shelf.Abstract
import Derived.OwnWalkIn
import Derived.TacticsInMore
import Derived.LoopNIn
import Derived.LoopIn
namespace Go.Proofs.Ytnghalhmbjiefaa
open Go.RowKit Go.Shelf

attribute [local go_sem] Oper.semAt_some

/-- The k lowest digits, the lowest one first. -/
def lowD (x : Nat) : Nat → List (Fin 32)
  | 0 => []
  | k + 1 => lowD x k ++ [⟨x / 32 ^ k % 32, Nat.mod_lt _ (by omega)⟩]
theorem lowD_length (x k : Nat) : (lowD x k).length = k := by
  induction k with
  | zero => rfl
  | succ k ih => simp [lowD, ih]
theorem lowD_reverse (x k : Nat) : (lowD x k).reverse.map (·.val) = d32s k x := by
  induction k with
  | zero => rfl
  | succ k ih => rw [d32s_front, ← ih]; simp [lowD]
def encD (d : Fin 32) : Array Value := #[.int .u64 (d.val : Int)]

set_option maxRecDepth 100000 in
set_option maxHeartbeats 1000000 in
theorem digits_in (n : Nat) (x : Nat) (w : World) :
    CallsIn Fence.wide n Try.prog 34 #[.int .u64 (x : Int)] w fun e w' => e = .returned (.func (.func 38) #[] #[.pointer (some ⟨w.heap.size, 0, none⟩)]) ∧ w' = w.alloc (.cells #[.int .u64 (x : Int)] 22) := by
  refine callsIn_of_wp Try.func34 rfl trivial ?_ rfl
  simp only [Try.ntmps34, List.size_toArray, List.length_cons, List.length_nil, Nat.reduceAdd, Nat.reduceSub, Array.replicate_succ, Array.replicate_zero, List.push_toArray, List.append_toArray, List.nil_append, List.cons_append]
  gi_wp2
  go_ret
  exact ⟨rfl, rfl⟩

set_option maxRecDepth 100000 in
set_option maxHeartbeats 2000000 in
theorem digits_stops (n : Nat) (hn : 1 ≤ n) (Bs x : Nat) (hx : x < 18446744073709551616) :
    SeqBox Fence.wide n Try.prog 38 #[.pointer (some ⟨Bs, 0, none⟩)] encD Bs (fun ys : List (Fin 32) => ys = lowD x 13) 13 (fun W => Boxed W Bs 22 (.int .u64 (x : Int))) := by
  intro l J W hbox hJ hY h0
  have hY0 := Lib.hid hY
  have hJ0 := Lib.hid hJ
  have hX0 := Lib.hid hbox
  have hJ00 := Lib.hid h0
  clear hY hJ hbox h0
  refine callsIn_of_wp Try.func38 rfl trivial ?_ rfl
  simp only [Try.ntmps38, List.size_toArray, List.length_cons, List.length_nil, Nat.reduceAdd, Nat.reduceSub, Array.replicate_succ, Array.replicate_zero, List.push_toArray, List.append_toArray, List.nil_append, List.cons_append]
  gi_wp2
  gi_loopw [3] (fun i wr => ∃ k : Nat, k ≤ 13 ∧ i = .int .i64 (k : Int) ∧ J (lowD x k) wr ∧ Boxed wr Bs 22 (.int .u64 ((x / 32 ^ k : Nat) : Int))) (fun i _ => 13 - (intOf i).toNat)
  case atStart => exact ⟨0, by omega, rfl, hJ00.out, by simpa using hX0.out⟩
  case round =>
    obtain ⟨k, hk, rfl, hj, hb⟩ := hrel
    by_cases hlt : k < 13
    · have HJ := Lib.hid hj
      have HB := Lib.hid hb
      have hc := hb.cell
      have hf := hb.frozen
      clear hj hb
      have hlow := Lib.hid (show lowD x (k + 1) = lowD x k ++ [⟨x / 32 ^ k % 32, Nat.mod_lt _ (by omega)⟩] from rfl)
      have hlen := Lib.hid (lowD_length x k)
      have hdiv := Lib.hid (show x / 32 ^ k / 32 = x / 32 ^ (k + 1) by rw [Nat.div_div_eq_div_mul, Nat.pow_succ])
      have hq : x / 32 ^ k < 18446744073709551616 := Nat.lt_of_le_of_lt (Nat.div_le_self _ _) hx
      generalize lowD x k = l1 at *
      generalize x / 32 ^ k = q at *
      obtain ⟨fn, tmps, assign, body, hy, hR⟩ := hY0.out l1 ⟨q % 32, Nat.mod_lt _ (by omega)⟩ wr HJ.out (by rw [hlen.out]; exact hlt)
      simp only [encD] at hy
      have HR := Lib.hid hR
      clear hR
      rw [show ((q % 32 : Nat) : Int) = (q : Int) % 32 from rfl] at hy
      gi_wp2_with fail
      refine HR.out.mono ?_
      rintro e W3 ⟨rfl, hj3, hb3⟩
      have hc3 : W3.cell? ⟨Bs, 0, none⟩ = some (.int .u64 (q : Int)) := (show Boxed W3 Bs 22 (.int .u64 (q : Int)) from hb3.trans HB.out).cell
      have hf3 : W3.frozen? ⟨Bs, 0, none⟩ = false := (show Boxed W3 Bs 22 (.int .u64 (q : Int)) from hb3.trans HB.out).frozen
      have HB3 := Lib.hid (show Boxed W3 Bs 22 (.int .u64 (q : Int)) from hb3.trans HB.out)
      have HJ3 := Lib.hid hj3
      clear hc hf hy hj3 hb3
      gi_wp2
      go_roundw
      case rel =>
        refine ⟨k + 1, by omega, by go_num, ?_, ?_⟩
        · rw [hlow.out]; exact hJ0.out _ _ _ HJ3.out
        · rw [← hdiv.out]; exact HB3.out.set _
      case measure => simp [intOf]; omega
    · obtain rfl : k = 13 := by omega
      have HJ := Lib.hid hj
      clear hj hb
      gi_wp2
      refine bodyPost_end (results_none rfl _ _ _) rfl ?_
      exact ⟨⟨_, rfl⟩, _, rfl, HJ.out⟩
end Go.Proofs.Ytnghalhmbjiefaa
