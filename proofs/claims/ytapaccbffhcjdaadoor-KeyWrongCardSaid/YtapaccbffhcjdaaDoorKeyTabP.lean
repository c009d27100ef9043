/-
  FROM THE CONDITION OF A TIED ROW TO THE TABLE OF POWERS OF TEN; and what the frames of tied cards import.
-/
import Derived.Test.YtapaccbffhcjdaaDoorKeyText
import Derived.Test.YtapaccbffhcjdaaDoorKeyStructs
import Derived.Test.YtapaccbffhcjdaaDoorTie
import Derived.Test.YtapaccbffhcjdaaDoorCards
import Derived.Lay
import Derived.LaidOnce
import Derived.MakeChecks
import Derived.Lib.LaidTab
import Derived.Stop.LaidErr
import Derived.SevenTiedAt
namespace Go.Proofs.YtapaccbffhcjdaaDoor
open Go.RowKit Go.Shelf

set_option maxRecDepth 100000 in
theorem tab_of_laid {W : World} {a b : String × DataW Unit} {r : List (String × DataW Unit)} (h : laidMet Tryd.prog (a :: b :: ("internal/strconv.uint64pow10", Rows.laid_internal_strconv_uint64pow10) :: r) W) : Tab W := by
  have h2 : laidMet Tryd.prog (("internal/strconv.uint64pow10", Lib.tabData .u64 Lib.pow10Tab) :: r) W := h.tail.tail
  have hs : (Tryd.prog.globalNamed "internal/strconv.uint64pow10").isSome = true := by kernel_rfl
  obtain ⟨g, hg⟩ := Option.isSome_iff_exists.1 hs
  exact Lib.tabIs_of_head (g := g) (t := 161) (e := 30) (n := 20) hg (by
    have e : (Tryd.prog.globalNamed "internal/strconv.uint64pow10").bind (fun g => (Tryd.prog.globals[g]?).map (·.type)) = some 161 := by kernel_rfl
    rw [hg] at e
    exact e) Tryd.underlying161 Tryd.underlying30 (by kernel_rfl) (by kernel_rfl) h2
open Pl in
theorem isRow_br {w : World} {a : Option Addr} {len cap : Nat} {zs : List Int} (h : IsRow .u8 w a len cap zs) : ∃ l : List UInt8, l.length = len ∧ BR w (.slice a len cap) l := by
  obtain ⟨l, h1, hB, h3⟩ := isRow_bytes h
  refine ⟨l.map fun d => UInt8.ofNat d, by simp [h1], ?_⟩
  by_cases h0 : l = []
  · subst h0
    rcases h3 with ⟨a', c, e, _, hc⟩ | ⟨b, off, cap', e, _, h5, _⟩
    · exact .inl ⟨rfl, a', c, e, hc⟩
    · exact .inl ⟨rfl, _, _, e, h5⟩
  · rcases h3 with ⟨_, _, _, e, _⟩ | ⟨b, off, cap', e, h4, h5, h6⟩
    · exact absurd e h0
    · have hp : 0 < l.length := List.length_pos_iff.2 h0
      have hlt : b < w.heap.size := by
        have hc := h6 0 hp
        by_cases hb : b < w.heap.size
        · exact hb
        · have hn : w.heap[b]? = none := Array.getElem?_eq_none (by omega)
          simp [World.cell?, hn] at hc
      refine .inr ⟨b, off, cap', by rw [List.length_map]; exact e, hlt, by rw [List.length_map]; exact h4, h5, fun j hj => ?_⟩
      rw [List.length_map] at hj
      rw [h6 j hj]
      have h7 := gt_lt hB j
      have e2 : ((l.map fun d => UInt8.ofNat d).getD j 0).toNat = gt l j := by
        unfold gt at h7 ⊢
        simp only [List.getD_eq_getElem?_getD, List.getElem?_map, List.getElem?_eq_getElem hj, Option.map_some, Option.getD_some] at h7 ⊢
        rw [UInt8.toNat_ofNat']
        omega
      rw [e2]
end Go.Proofs.YtapaccbffhcjdaaDoor
