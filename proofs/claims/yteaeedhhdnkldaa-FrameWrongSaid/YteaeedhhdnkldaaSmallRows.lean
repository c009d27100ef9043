/-
  HOW Small AND A SLICE OF Small READ THAT CAME IN.
-/
import Derived.Test.YteaeedhhdnkldaaFrameRows
import Derived.Test.YteaeedhhdnkldaaMade03
import Derived.Deep.SlicePairs
namespace Go.Proofs.Yteaeedhhdnkldaa
open Go.ChangeShapes Go.WideShapes Go.ChangeAt Go.RowKit Go.Deep
open Pl

theorem small_cells : Try.prog.cellsOf 71 = 2 := by kernel_rfl
theorem u16_cells : Try.prog.cellsOf 69 = 1 := by kernel_rfl
theorem u8_cells : Try.prog.cellsOf 5 = 1 := by kernel_rfl
theorem array2 {cs : Array Value} (h : cs.size = 2) : ∃ c0 c1, cs = #[c0, c1] := by
  obtain ⟨l⟩ := cs
  match l, h with
  | [c0, c1], _ => exact ⟨c0, c1, rfl⟩
section
variable {H : Type} {enc : TypeId × Value → H} {W : World} {base : Nat} {sp : Nat → Bool} {held : Bool}
set_option maxRecDepth 100000 in
theorem open_small {r : Reach} {b0 : Nat} {v : Value} {d : DataW H} {ps : List MemPlace} (hval : Value.okWide Try.prog W r b0 71 v) (hd : DataW.Trod enc Try.prog W base sp held 71 v d ps) :
    ∃ a b : Int, v = .agg #[.int .u16 a, .int .u8 b] ∧ (Lit.int .u16 a).wf = true ∧ (Lit.int .u8 b).wf = true := by
  obtain ⟨cs, rfl, hsz⟩ := okWide_struct Try.underlying71 hval
  rw [small_cells] at hsz
  obtain ⟨c0, c1, rfl⟩ : ∃ c0 c1, cs = #[c0, c1] := array2 hsz
  obtain ⟨fuel, hf⟩ := hd
  obtain ⟨y0, y1, n, _, _, g0, g1⟩ := trod_struct2 Try.underlying71 hf
  rw [u16_cells] at g0
  rw [u8_cells] at g1
  obtain ⟨a, e0, _, q0⟩ := DataW.trod_int Try.underlying69 g0
  obtain ⟨b, e1, _, q1⟩ := DataW.trod_int Try.underlying5 g1
  simp [Value.cells] at e0 e1
  subst e0 e1
  exact ⟨a, b, rfl, q0, q1⟩
/-- A slice of Small that came in. -/
def IsSmalls (w : World) (a : Option Addr) (len cap : Nat) (V0 V1 : Nat → Int) : Prop :=
  (a = none ∧ len = 0 ∧ cap = 0) ∨
  ∃ x, a = some x ∧ len ≤ cap ∧ cap ≤ maxLen ∧ ∀ i, i < cap → w.cell? (x.add (i * 2)) = some (.int .u16 (V0 i)) ∧ w.cell? (x.add (i * 2 + 1)) = some (.int .u8 (V1 i)) ∧ (Lit.int .u16 (V0 i)).wf = true ∧ (Lit.int .u8 (V1 i)).wf = true
theorem open_smalls {a : Option Addr} {len cap fuel : Nat} {x : DataW H × List MemPlace} (h : DataW.trod enc Try.prog W base (fun _ => true) held fuel 51 [.slice a len cap] = some x) : ∃ V0 V1, IsSmalls W a len cap V0 V1 := by
  rcases open_slice_pairs Try.underlying51 Try.underlying71 small_cells rfl rfl u16_cells u8_cells h with ⟨e, _⟩ | ⟨y, l, c, m, n, V0, V1, D0, D1, P0, P1, e, _, hl, hm, hmm, _, hc⟩
  · simp at e
    obtain ⟨rfl, rfl, rfl⟩ := e
    exact ⟨fun _ => 0, fun _ => 0, .inl ⟨rfl, rfl, rfl⟩⟩
  · simp at e
    obtain ⟨rfl, rfl, rfl⟩ := e
    rw [if_pos rfl] at hmm
    subst hmm
    have hex : ∀ i, ∃ ab : Int × Int, i < m → V0 i = .int .u16 ab.1 ∧ V1 i = .int .u8 ab.2 ∧ (Lit.int .u16 ab.1).wf = true ∧ (Lit.int .u8 ab.2).wf = true := fun i => by
      by_cases hi : i < m
      · obtain ⟨_, _, g0, g1⟩ := hc i hi
        obtain ⟨a, e0, _, q0⟩ := DataW.trod_int Try.underlying69 g0
        obtain ⟨b, e1, _, q1⟩ := DataW.trod_int Try.underlying5 g1
        simp at e0 e1
        exact ⟨(a, b), fun _ => ⟨e0, e1, q0, q1⟩⟩
      · exact ⟨(0, 0), fun h => absurd h hi⟩
    obtain ⟨F, hF⟩ := Classical.axiomOfChoice hex
    refine ⟨fun i => (F i).1, fun i => (F i).2, .inr ⟨y, rfl, hl, hm, fun i hi => ?_⟩⟩
    obtain ⟨e0, e1, q0, q1⟩ := hF i hi
    obtain ⟨c0, c1, _, _⟩ := hc i hi
    rw [e0] at c0
    rw [e1] at c1
    exact ⟨c0, c1, q0, q1⟩
end
theorem isSmalls_row {w : World} {a : Option Addr} {len cap : Nat} {V0 V1 : Nat → Int} (h : IsSmalls w a len cap V0 V1) : ∃ S : List (Nat × Nat), S.length = len ∧ SRow w (.slice a len cap) S := by
  rcases h with ⟨rfl, rfl, rfl⟩ | ⟨x, rfl, hl, hm, hr⟩
  · exact ⟨[], rfl, ⟨(fun p hp => by cases hp), .inl ⟨none, 0, rfl, rfl, Nat.zero_le _⟩⟩⟩
  · have hlen : ((List.range len).map fun i => ((V0 i).toNat, (V1 i).toNat)).length = len := by simp
    have hall : ∀ p ∈ (List.range len).map (fun i => ((V0 i).toNat, (V1 i).toNat)), p.1 < 65536 ∧ p.2 < 256 := fun p hp => by
      simp only [List.mem_map, List.mem_range] at hp
      obtain ⟨i, hi, rfl⟩ := hp
      obtain ⟨_, _, q0, q1⟩ := hr i (by omega)
      have := wf_u16 q0
      have := wf_u8 q1
      exact ⟨by dsimp only; omega, by dsimp only; omega⟩
    refine ⟨(List.range len).map (fun i => ((V0 i).toNat, (V1 i).toNat)), hlen, hall, ?_⟩
    by_cases h0 : len = 0
    · subst h0
      exact .inl ⟨some x, cap, rfl, rfl, hm⟩
    · obtain ⟨b, off, sp⟩ := x
      have hc0 := (hr 0 (by omega)).1
      have hsp : sp = none := by simpa [Addr.add] using World.cell?_spot hc0
      subst hsp
      refine .inr ⟨b, off, cap, by rw [hlen], by rw [hlen]; exact hl, hm, fun i hi => ?_⟩
      rw [hlen] at hi
      obtain ⟨c0, c1, q0, q1⟩ := hr i (by omega)
      have hadd : ∀ k, (⟨b, off, none⟩ : Addr).add k = ⟨b, off + k, none⟩ := fun k => by unfold Addr.add; split <;> simp_all
      rw [hadd] at c0 c1
      have e0 := wf_u16 q0
      have e1 := wf_u8 q1
      have es : sz ((List.range len).map (fun i => ((V0 i).toNat, (V1 i).toNat))) i = (V0 i).toNat ∧ sb ((List.range len).map (fun i => ((V0 i).toNat, (V1 i).toNat))) i = (V1 i).toNat := by
        simp [sz, sb, List.getD_eq_getElem?_getD, hi]
      rw [es.1, es.2, Int.toNat_of_nonneg e0.1, Int.toNat_of_nonneg e1.1]
      exact ⟨c0, by rw [Nat.add_assoc]; exact c1⟩
end Go.Proofs.Yteaeedhhdnkldaa
