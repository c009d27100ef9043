/-
  A SLICE OF SMALL NUMBERS THAT CAME IN, as the frames open it, as a row that lies in a world.
-/
import Derived.Test.YtdaalpiiagmdfaaNameMades
import Derived.Test.YtdaalpiiagmdfaaFrame
namespace Go.Proofs.Ytdaalpiiagmdfaa
open Go.RowKit Go.Shelf

theorem mrow_of {w : World} {a : Option Addr} {len cap : Nat} {zs : List Int} (h : IsRow .u16 w a len cap zs) : ∃ l : List Nat, MRow w (.slice a len cap) l ∧ (∀ x ∈ l, x < 65536) ∧ l.length ≤ maxLen := by
  have hlen : len ≤ maxLen := by
    rcases h with ⟨_, rfl, _, _⟩ | ⟨x, _, h1, h2, _⟩
    · exact Nat.zero_le _
    · exact Nat.le_trans h1 h2
  obtain ⟨l, h1, h2, h3⟩ := isRow_parts h 65536 (fun n hn => wf_u16 hn)
  refine ⟨l, ?_, h2, by rw [h1]; exact hlen⟩
  rcases h3 with ⟨a', c, he, hl, _⟩ | ⟨b, off, c, he, hc, _, hcell⟩
  · exact .inl ⟨hl, a', c, he⟩
  · by_cases h0 : l.length = 0
    · have := List.eq_nil_of_length_eq_zero h0
      rw [he, h0]
      exact .inl ⟨this, _, c, rfl⟩
    · have hb := World.block_lt_of_cell? _ _ (hcell 0 (by omega))
      refine .inr ⟨b, off, c, he, hb, hc, fun i x hx => ?_⟩
      have hi := (List.getElem?_eq_some_iff.1 hx).1
      rw [hcell i hi]
      have : gt l i = x := by unfold gt; rw [List.getD_eq_getElem?_getD, hx]; rfl
      rw [this]
end Go.Proofs.Ytdaalpiiagmdfaa
