/-
  HOW A SLICE OF Small (layer 7) THAT CAME IN READS.
-/
import Derived.Test.YtapaccbffhcjdaaDoorKeyStructs
import Derived.Test.YtapaccbffhcjdaaDoorKeySmalls
import Derived.Deep.SlicePairs
namespace Go.Proofs.YtapaccbffhcjdaaDoor
open Go.ChangeShapes Go.WideShapes Go.ChangeAt Go.RowKit Go.Deep
open Pl

section
variable {H : Type} {enc : TypeId × Value → H} {W : World} {base : Nat} {held : Bool}
set_option maxRecDepth 100000 in
theorem open_smallsK {a : Option Addr} {len cap fuel : Nat} {x : DataW H × List MemPlace} (h : DataW.trod enc Tryd.prog W base (fun _ => true) held fuel 51 [.slice a len cap] = some x) : ∃ S : List Ky, S.length = len ∧ SmRow W (.slice a len cap) S := by
  rcases open_slice Tryd.underlying51 h with ⟨e, _⟩ | ⟨y, l, c, m, n, D, Pp, e, _, hl, hm, hmm, _, hx⟩
  · simp at e
    obtain ⟨rfl, rfl, rfl⟩ := e
    exact ⟨[], rfl, fun x hx => (by cases hx), .inl ⟨rfl, none, 0, rfl, Nat.zero_le _⟩⟩
  · simp at e
    obtain ⟨rfl, rfl, rfl⟩ := e
    rw [if_pos rfl] at hmm
    subst hmm
    have each : ∀ i, i < m → ∃ k : Ky, W.cell? (y.add (i * 3)) = some (.int .u64 k.1) ∧ W.cell? (y.add (i * 3 + 1)) = some (.int .u32 k.2.1) ∧ W.cell? (y.add (i * 3 + 2)) = some (.int .u32 k.2.2) ∧ SmallK k := by
      intro i hi
      obtain ⟨cs', h1, h2⟩ := hx i hi
      rw [smallK_cells] at h1
      obtain ⟨_, hlen, hcell⟩ := World.cells?_some h1
      obtain ⟨y0, y1, y2, n', _, _, g0, g1, g2⟩ := trod_struct3 Tryd.underlying33 h2
      rw [u64_cells] at g0
      rw [u32_cells] at g1 g2
      match cs', hlen with
      | [c0, c1, c2], _ =>
        obtain ⟨a, e0, _, q0⟩ := DataW.trod_int Tryd.underlying30 g0
        obtain ⟨b, e1, _, q1⟩ := DataW.trod_int Tryd.underlying31 g1
        obtain ⟨c, e2, _, q2⟩ := DataW.trod_int Tryd.underlying31 g2
        simp at e0 e1 e2
        subst e0 e1 e2
        have f0 := hcell 0 (by omega)
        have f1 := hcell 1 (by omega)
        have f2 := hcell 2 (by omega)
        rw [add_add] at f0 f1 f2
        exact ⟨(a, b, c), by simpa using f0, by simpa using f1, by simpa using f2, wf_u64 q0, wf_u32 q1, wf_u32 q2⟩
    obtain ⟨F, hF⟩ := choose_lt each
    refine ⟨(List.range len).map F, by simp, fun x hx => ?_, ?_⟩
    · simp only [List.mem_map, List.mem_range] at hx
      obtain ⟨i, hi, rfl⟩ := hx
      exact (hF i (by omega)).2.2.2
    · by_cases h0 : len = 0
      · subst h0
        exact .inl ⟨rfl, some y, m, rfl, hm⟩
      · obtain ⟨b, off, sp⟩ := y
        have hc0 := (hF 0 (by omega)).1
        have hsp : sp = none := by simpa [Addr.add] using World.cell?_spot hc0
        subst hsp
        have hadd : ∀ k, (⟨b, off, none⟩ : Addr).add k = ⟨b, off + k, none⟩ := fun k => by unfold Addr.add; split <;> simp_all
        rw [hadd] at hc0
        refine .inr ⟨b, off, m, by simp, World.block_lt_of_cell? _ _ hc0, by simpa using hl, hm, fun j hj => ?_⟩
        have hj' : j < len := by simpa using hj
        obtain ⟨c0, c1, c2, _⟩ := hF j (by omega)
        rw [hadd] at c0 c1 c2
        have e : kq ((List.range len).map F) j = F j := by
          rw [kq, List.getD_eq_getElem?_getD, List.getElem?_map, List.getElem?_range hj']
          rfl
        rw [e]
        exact ⟨c0, by rw [Nat.add_assoc]; exact c1, by rw [Nat.add_assoc]; exact c2⟩
end
end Go.Proofs.YtapaccbffhcjdaaDoor
