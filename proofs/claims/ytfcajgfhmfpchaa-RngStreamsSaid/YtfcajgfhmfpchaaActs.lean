/-
  HOW A SLICE OF Act THAT CAME IN READS (layer 6: a kind of 8 bits, and a number of 64 bits with a sign).
-/
import Derived.Test.YtfcajgfhmfpchaaFrame
import Derived.Deep.SlicePairs
namespace Go.Proofs.Ytfcajgfhmfpchaa
open Go.ChangeShapes Go.WideShapes Go.ChangeAt Go.RowKit Go.Deep
open Pl

theorem act_cells : Try.prog.cellsOf 32 = 2 := by kernel_rfl
theorem u8_cells : Try.prog.cellsOf 5 = 1 := by kernel_rfl
theorem i64_cells : Try.prog.cellsOf 2 = 1 := by kernel_rfl
/-- A slice of Act that came in. -/
def IsSmalls (w : World) (a : Option Addr) (len cap : Nat) (V0 V1 : Nat → Int) : Prop :=
  (a = none ∧ len = 0 ∧ cap = 0) ∨
  ∃ x, a = some x ∧ len ≤ cap ∧ cap ≤ maxLen ∧ ∀ i, i < cap → w.cell? (x.add (i * 2)) = some (.int .u8 (V0 i)) ∧ w.cell? (x.add (i * 2 + 1)) = some (.int .i64 (V1 i)) ∧ (Lit.int .u8 (V0 i)).wf = true ∧ (Lit.int .i64 (V1 i)).wf = true
section
variable {H : Type} {enc : TypeId × Value → H} {W : World} {base : Nat} {held : Bool}
theorem open_smalls {a : Option Addr} {len cap fuel : Nat} {x : DataW H × List MemPlace} (h : DataW.trod enc Try.prog W base (fun _ => true) held fuel 25 [.slice a len cap] = some x) : ∃ V0 V1, IsSmalls W a len cap V0 V1 := by
  rcases open_slice_pairs Try.underlying25 Try.underlying32 act_cells rfl rfl u8_cells i64_cells h with ⟨e, _⟩ | ⟨y, l, c, m, n, V0, V1, D0, D1, P0, P1, e, _, hl, hm, hmm, _, hc⟩
  · simp at e
    obtain ⟨rfl, rfl, rfl⟩ := e
    exact ⟨fun _ => 0, fun _ => 0, .inl ⟨rfl, rfl, rfl⟩⟩
  · simp at e
    obtain ⟨rfl, rfl, rfl⟩ := e
    rw [if_pos rfl] at hmm
    subst hmm
    have hex : ∀ i, ∃ ab : Int × Int, i < m → V0 i = .int .u8 ab.1 ∧ V1 i = .int .i64 ab.2 ∧ (Lit.int .u8 ab.1).wf = true ∧ (Lit.int .i64 ab.2).wf = true := fun i => by
      by_cases hi : i < m
      · obtain ⟨_, _, g0, g1⟩ := hc i hi
        obtain ⟨a, e0, _, q0⟩ := DataW.trod_int Try.underlying5 g0
        obtain ⟨b, e1, _, q1⟩ := DataW.trod_int Try.underlying2 g1
        simp at e0 e1
        exact ⟨(a, b), fun _ => ⟨e0, e1, q0, q1⟩⟩
      · exact ⟨(0, 0), fun h => absurd h hi⟩
    obtain ⟨F, hF⟩ := Classical.axiomOfChoice hex
    refine ⟨fun i => (F i).1, fun i => (F i).2, .inr ⟨y, rfl, hl, hm, fun i hi => ?_⟩⟩
    obtain ⟨e0, e1, q0, q1⟩ := hF i hi
    obtain ⟨c0, c1, _, _⟩ := hc i hi
    rw [e0] at c0
    rw [e1] at c1
    exact ⟨c0, c1, q0, q1⟩
end
/-- The same as cells of a block. -/
theorem isActs_row {w : World} {a : Option Addr} {len cap : Nat} {V0 V1 : Nat → Int} (h : IsSmalls w a len cap V0 V1) : (len = 0 ∧ cap ≤ maxLen) ∨ ∃ b off, a = some ⟨b, off, none⟩ ∧ b < w.heap.size ∧ len ≤ cap ∧ cap ≤ maxLen ∧ 0 < len ∧
    ∀ i, i < len → w.cell? ⟨b, off + i * 2, none⟩ = some (.int .u8 (V0 i)) ∧ w.cell? ⟨b, off + i * 2 + 1, none⟩ = some (.int .i64 (V1 i)) ∧ 0 ≤ V0 i ∧ V0 i < 256 ∧ -9223372036854775808 ≤ V1 i ∧ V1 i ≤ 9223372036854775807 := by
  rcases h with ⟨rfl, rfl, rfl⟩ | ⟨x, rfl, hl, hm, hr⟩
  · exact .inl ⟨rfl, Nat.zero_le _⟩
  · by_cases h0 : len = 0
    · exact .inl ⟨h0, hm⟩
    · obtain ⟨b, off, sp⟩ := x
      have hc0 := (hr 0 (by omega)).1
      have hsp : sp = none := by simpa [Addr.add] using World.cell?_spot hc0
      subst hsp
      have hadd : ∀ k, (⟨b, off, none⟩ : Addr).add k = ⟨b, off + k, none⟩ := fun k => by unfold Addr.add; split <;> simp_all
      rw [hadd] at hc0
      refine .inr ⟨b, off, rfl, World.block_lt_of_cell? _ _ hc0, hl, hm, by omega, fun i hi => ?_⟩
      obtain ⟨c0, c1, q0, q1⟩ := hr i (by omega)
      rw [hadd] at c0 c1
      exact ⟨c0, by rw [Nat.add_assoc]; exact c1, (wf_u8 q0).1, (wf_u8 q0).2, (wf_i64 q1).1, (wf_i64 q1).2⟩
end Go.Proofs.Ytfcajgfhmfpchaa
