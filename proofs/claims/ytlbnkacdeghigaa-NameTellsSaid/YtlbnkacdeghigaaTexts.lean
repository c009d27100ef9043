/-
  A SLICE OF STRINGS THAT CAME IN, as the frames open it.
-/
import Derived.Test.YtlbnkacdeghigaaNameFew
import Derived.Test.YtlbnkacdeghigaaFrame
import Derived.SliceStrings
namespace Go.Proofs.Ytlbnkacdeghigaa
open Go.RowKit Go.Shelf

/-- A slice of strings that came in. -/
def IsTexts (w : World) (a : Option Addr) (len cap : Nat) (l : List (List UInt8)) : Prop :=
  TRow w (.slice a len cap) l ∧ (∀ p ∈ l, p.length ≤ maxLen) ∧ l.length ≤ maxLen
theorem isTexts_nil (w : World) : ∃ l, IsTexts w none 0 0 l := ⟨[], .inl ⟨rfl, none, 0, rfl⟩, (by simp), (Nat.zero_le _)⟩
theorem isTexts_of {w : World} {x : Addr} {len cap : Nat} {ss : List ByteArray} (hl : len ≤ cap) (hm : cap ≤ maxLen) (hz : ss.length = cap) (hcell : ∀ i, i < ss.length → w.cell? (x.add i) = some (.string (ss.getD i ByteArray.empty))) (hsz : ∀ s ∈ ss, s.size ≤ maxLen) : ∃ l, IsTexts w (some x) len cap l := by
  have hlen : ((ss.take len).map fun s => s.data.toList).length = len := by simp; omega
  refine ⟨(ss.take len).map fun s => s.data.toList, ?_, ?_, by rw [hlen]; omega⟩
  · by_cases h0 : len = 0
    · subst h0
      exact .inl ⟨by simp, some x, cap, rfl⟩
    · obtain ⟨b, off, sp⟩ := x
      have hc0 := hcell 0 (by omega)
      have hsp : sp = none := by simpa [Addr.add] using World.cell?_spot hc0
      subst hsp
      refine .inr ⟨b, off, cap, by rw [hlen], ?_, by rw [hlen]; exact hl, fun i y hy => ?_⟩
      · have : (⟨b, off, none⟩ : Addr).add 0 = ⟨b, off, none⟩ := rfl
        rw [this] at hc0
        exact World.block_lt_of_cell? _ _ hc0
      · have hi : i < len := by have := (List.getElem?_eq_some_iff.1 hy).1; rw [hlen] at this; exact this
        have hadd : (⟨b, off, none⟩ : Addr).add i = ⟨b, off + i, none⟩ := by unfold Addr.add; split <;> simp_all
        have hci := hcell i (by omega)
        rw [hadd, List.getD_eq_getElem?_getD, List.getElem?_eq_getElem (by omega)] at hci
        rw [hci]
        rw [List.getElem?_map, List.getElem?_take_of_lt hi, List.getElem?_eq_getElem (by omega)] at hy
        simp only [Option.map_some, Option.some.injEq] at hy
        subst hy
        rfl
  · intro p hp
    simp only [List.mem_map] at hp
    obtain ⟨s, hs, rfl⟩ := hp
    have := hsz s (List.mem_of_mem_take hs)
    rw [Array.length_toList]; exact this
end Go.Proofs.Ytlbnkacdeghigaa
