/-
  HOW A Small (layer 7) AND A KEY READ THAT CAME IN BY VALUE.
-/
import Derived.Test.YtapaccbffhcjdaaDoorFrame
import Derived.Deep.Strs
namespace Go.Proofs.YtapaccbffhcjdaaDoor
open Go.ChangeShapes Go.WideShapes Go.ChangeAt Go.RowKit Go.Deep
open Pl

theorem wf_u32 {n : Int} (h : (Lit.int .u32 n).wf = true) : 0 ≤ n ∧ n < 4294967296 := by
  have : 0 ≤ n ∧ n ≤ 4294967295 := by simpa [Lit.wf, IntKind.min, IntKind.max, IntKind.signed, IntKind.bits] using h
  omega
theorem smallK_cells : Tryd.prog.cellsOf 33 = 3 := by kernel_rfl
theorem key_cells : Tryd.prog.cellsOf 23 = 3 := by kernel_rfl
theorem u64_cells : Tryd.prog.cellsOf 30 = 1 := by kernel_rfl
theorem u32_cells : Tryd.prog.cellsOf 31 = 1 := by kernel_rfl
theorem int_cells : Tryd.prog.cellsOf 3 = 1 := by kernel_rfl
theorem array3 {cs : Array Value} (h : cs.size = 3) : ∃ c0 c1 c2, cs = #[c0, c1, c2] := by
  obtain ⟨l⟩ := cs
  match l, h with
  | [c0, c1, c2], _ => exact ⟨c0, c1, c2, rfl⟩
section
variable {H : Type} {enc : TypeId × Value → H} {W : World} {base : Nat} {sp : Nat → Bool} {held : Bool}
set_option maxRecDepth 100000 in
theorem open_small3 {r : Reach} {b0 : Nat} {v : Value} {d : DataW H} {ps : List MemPlace} (hval : Value.okWide Tryd.prog W r b0 33 v) (hd : DataW.Trod enc Tryd.prog W base sp held 33 v d ps) :
    ∃ a b c : Int, v = .agg #[.int .u64 a, .int .u32 b, .int .u32 c] ∧ (Lit.int .u64 a).wf = true ∧ (Lit.int .u32 b).wf = true ∧ (Lit.int .u32 c).wf = true := by
  obtain ⟨cs, rfl, hsz⟩ := okWide_struct Tryd.underlying33 hval
  rw [smallK_cells] at hsz
  obtain ⟨c0, c1, c2, rfl⟩ : ∃ c0 c1 c2, cs = #[c0, c1, c2] := array3 hsz
  obtain ⟨fuel, hf⟩ := hd
  obtain ⟨y0, y1, y2, n, _, _, g0, g1, g2⟩ := trod_struct3 Tryd.underlying33 hf
  rw [u64_cells] at g0
  rw [u32_cells] at g1 g2
  obtain ⟨a, e0, _, q0⟩ := DataW.trod_int Tryd.underlying30 g0
  obtain ⟨b, e1, _, q1⟩ := DataW.trod_int Tryd.underlying31 g1
  obtain ⟨c, e2, _, q2⟩ := DataW.trod_int Tryd.underlying31 g2
  simp [Value.cells] at e0 e1 e2
  subst e0 e1 e2
  exact ⟨a, b, c, rfl, q0, q1, q2⟩
set_option maxRecDepth 100000 in
theorem open_key {r : Reach} {b0 : Nat} {v : Value} {d : DataW H} {ps : List MemPlace} (hval : Value.okWide Tryd.prog W r b0 23 v) (hd : DataW.Trod enc Tryd.prog W base sp held 23 v d ps) :
    ∃ a b c : Int, v = .agg #[.int .i64 a, .int .i64 b, .int .i64 c] ∧ (Lit.int .i64 a).wf = true ∧ (Lit.int .i64 b).wf = true ∧ (Lit.int .i64 c).wf = true := by
  obtain ⟨cs, rfl, hsz⟩ := okWide_struct Tryd.underlying23 hval
  rw [key_cells] at hsz
  obtain ⟨c0, c1, c2, rfl⟩ : ∃ c0 c1 c2, cs = #[c0, c1, c2] := array3 hsz
  obtain ⟨fuel, hf⟩ := hd
  obtain ⟨y0, y1, y2, n, _, _, g0, g1, g2⟩ := trod_struct3 Tryd.underlying23 hf
  rw [int_cells] at g0 g1 g2
  obtain ⟨a, e0, _, q0⟩ := DataW.trod_int Tryd.underlying3 g0
  obtain ⟨b, e1, _, q1⟩ := DataW.trod_int Tryd.underlying3 g1
  obtain ⟨c, e2, _, q2⟩ := DataW.trod_int Tryd.underlying3 g2
  simp [Value.cells] at e0 e1 e2
  subst e0 e1 e2
  exact ⟨a, b, c, rfl, q0, q1, q2⟩
end
end Go.Proofs.YtapaccbffhcjdaaDoor
