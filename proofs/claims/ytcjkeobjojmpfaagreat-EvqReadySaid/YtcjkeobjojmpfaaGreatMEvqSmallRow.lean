import Derived.Test.YtcjkeobjojmpfaaGreatMEvqR
import Derived.Test.YtcjkeobjojmpfaaGreatMFrame
import Derived.Lib.SmallJoins
import Derived.Deep.Strs
import Derived.Deep.SlicePairs
/-
  HOW A SLICE OF Small (layer 10), AND ONE BY VALUE, THAT CAME IN READS.
-/
namespace Go.Proofs.YtcjkeobjojmpfaaGreat
open Go.ChangeShapes Go.WideShapes Go.ChangeAt Go.RowKit Go.Deep
open Go.Joins (trod_struct4)

theorem wf_u8n {n : Int} (h : (Lit.int .u8 n).wf = true) : ∃ m : Nat, n = (m : Int) ∧ m < 256 := by
  have : 0 ≤ n ∧ n ≤ 255 := by simpa [Lit.wf, IntKind.min, IntKind.max, IntKind.signed, IntKind.bits] using h
  exact ⟨n.toNat, by omega, by omega⟩
theorem sm10_cells : Tryz.prog.cellsOf 72 = 4 := by kernel_rfl
theorem u8_cells : Tryz.prog.cellsOf 5 = 1 := by kernel_rfl
theorem array4 {cs : Array Value} (h : cs.size = 4) : ∃ c0 c1 c2 c3, cs = #[c0, c1, c2, c3] := by
  obtain ⟨l⟩ := cs
  match l, h with
  | [c0, c1, c2, c3], _ => exact ⟨c0, c1, c2, c3, rfl⟩
section
variable {H : Type} {enc : TypeId × Value → H} {W : World} {base : Nat} {sp : Nat → Bool} {held : Bool}
set_option maxRecDepth 100000 in
theorem open_small4 {r : Reach} {b0 : Nat} {v : Value} {d : DataW H} {ps : List MemPlace} (hval : Value.okWide Tryz.prog W r b0 72 v) (hd : DataW.Trod enc Tryz.prog W base sp held 72 v d ps) :
    ∃ a b c e : Int, v = .agg #[.int .u8 a, .int .u8 b, .int .u8 c, .int .u8 e] ∧ (Lit.int .u8 a).wf = true ∧ (Lit.int .u8 b).wf = true ∧ (Lit.int .u8 c).wf = true ∧ (Lit.int .u8 e).wf = true := by
  obtain ⟨cs, rfl, hsz⟩ := okWide_struct Tryz.underlying72 hval
  rw [sm10_cells] at hsz
  obtain ⟨c0, c1, c2, c3, rfl⟩ : ∃ c0 c1 c2 c3, cs = #[c0, c1, c2, c3] := array4 hsz
  obtain ⟨fuel, hf⟩ := hd
  obtain ⟨y0, y1, y2, y3, n, _, _, g0, g1, g2, g3⟩ := trod_struct4 Tryz.underlying72 hf
  rw [u8_cells] at g0 g1 g2 g3
  obtain ⟨a, e0, _, q0⟩ := DataW.trod_int Tryz.underlying5 g0
  obtain ⟨b, e1, _, q1⟩ := DataW.trod_int Tryz.underlying5 g1
  obtain ⟨c, e2, _, q2⟩ := DataW.trod_int Tryz.underlying5 g2
  obtain ⟨e, e3, _, q3⟩ := DataW.trod_int Tryz.underlying5 g3
  simp [Value.cells] at e0 e1 e2 e3
  subst e0 e1 e2 e3
  exact ⟨a, b, c, e, rfl, q0, q1, q2, q3⟩
set_option maxRecDepth 100000 in
theorem open_smalls10 {a : Option Addr} {len cap fuel : Nat} {x : DataW H × List MemPlace} (h : DataW.trod enc Tryz.prog W base (fun _ => true) held fuel 22 [.slice a len cap] = some x) : ∃ S : List Sv, S.length = len ∧ SvRow W (.slice a len cap) S := by
  rcases open_slice Tryz.underlying22 h with ⟨e, _⟩ | ⟨y, l, c, m, n, D, Pp, e, _, hl, hm, hmm, _, hx⟩
  · simp at e
    obtain ⟨rfl, rfl, rfl⟩ := e
    exact ⟨[], rfl, fun x hx => (by cases hx), .inl ⟨rfl, none, 0, rfl, Nat.zero_le _⟩⟩
  · simp at e
    obtain ⟨rfl, rfl, rfl⟩ := e
    rw [if_pos rfl] at hmm
    subst hmm
    have each : ∀ i, i < m → ∃ k : Sv, W.cell? (y.add (i * 4)) = some (.int .u8 (k.1 : Int)) ∧ W.cell? (y.add (i * 4 + 1)) = some (.int .u8 (k.2.1 : Int)) ∧ W.cell? (y.add (i * 4 + 2)) = some (.int .u8 (k.2.2.1 : Int)) ∧ W.cell? (y.add (i * 4 + 3)) = some (.int .u8 (k.2.2.2 : Int)) ∧ SvOk k := by
      intro i hi
      obtain ⟨cs', h1, h2⟩ := hx i hi
      rw [sm10_cells] at h1
      obtain ⟨_, hlen, hcell⟩ := World.cells?_some h1
      obtain ⟨y0, y1, y2, y3, n', _, _, g0, g1, g2, g3⟩ := trod_struct4 Tryz.underlying72 h2
      rw [u8_cells] at g0 g1 g2 g3
      match cs', hlen with
      | [c0, c1, c2, c3], _ =>
        obtain ⟨a, e0, _, q0⟩ := DataW.trod_int Tryz.underlying5 g0
        obtain ⟨b, e1, _, q1⟩ := DataW.trod_int Tryz.underlying5 g1
        obtain ⟨c, e2, _, q2⟩ := DataW.trod_int Tryz.underlying5 g2
        obtain ⟨d, e3, _, q3⟩ := DataW.trod_int Tryz.underlying5 g3
        simp at e0 e1 e2 e3
        subst e0 e1 e2 e3
        have f0 := hcell 0 (by omega)
        have f1 := hcell 1 (by omega)
        have f2 := hcell 2 (by omega)
        have f3 := hcell 3 (by omega)
        rw [add_add] at f0 f1 f2 f3
        obtain ⟨a', rfl, ha⟩ := wf_u8n q0
        obtain ⟨b', rfl, hb⟩ := wf_u8n q1
        obtain ⟨c', rfl, hc⟩ := wf_u8n q2
        obtain ⟨d', rfl, hd⟩ := wf_u8n q3
        exact ⟨(a', b', c', d'), by simpa using f0, by simpa using f1, by simpa using f2, by simpa using f3, ha, hb, hc, hd⟩
    obtain ⟨F, hF⟩ := choose_lt each
    refine ⟨(List.range len).map F, by simp, fun x hx => ?_, ?_⟩
    · simp only [List.mem_map, List.mem_range] at hx
      obtain ⟨i, hi, rfl⟩ := hx
      exact (hF i (by omega)).2.2.2.2
    · by_cases h0 : len = 0
      · subst h0
        exact .inl ⟨rfl, some y, m, rfl, hm⟩
      · obtain ⟨b, off, sp⟩ := y
        have hc0 := (hF 0 (by omega)).1
        have hsp : sp = none := by simpa [Addr.add] using World.cell?_spot hc0
        subst hsp
        have hadd : ∀ k, (⟨b, off, none⟩ : Addr).add k = ⟨b, off + k, none⟩ := fun k => by unfold Addr.add; split <;> simp_all
        rw [hadd] at hc0
        refine .inr ⟨b, off, m, by simp, World.block_lt_of_cell? _ _ hc0, by simpa using hl, hm, fun j hj => ?_⟩
        have hj' : j < len := by simpa using hj
        obtain ⟨c0, c1, c2, c3, _⟩ := hF j (by omega)
        rw [hadd] at c0 c1 c2 c3
        have e : svq ((List.range len).map F) j = F j := by
          rw [svq, List.getD_eq_getElem?_getD, List.getElem?_map, List.getElem?_range hj']
          rfl
        rw [e]
        exact ⟨c0, by rw [Nat.add_assoc]; exact c1, by rw [Nat.add_assoc]; exact c2, by rw [Nat.add_assoc]; exact c3⟩
end
end Go.Proofs.YtcjkeobjojmpfaaGreat
