/-
  A SLICE OF NUMBERS OF EIGHT BITS THAT CAME IN, as the frames open it, as a row that lies in a world.
-/
import Derived.Test.YtaeppclimafikaaSlotsJ
import Derived.Test.YtaeppclimafikaaFrame
namespace Go.Proofs.Ytaeppclimafikaa
open Go.RowKit

theorem ub_of {w : World} {a : Option Addr} {len cap : Nat} {zs : List Int} (h : IsRow .u8 w a len cap zs) : ∃ l : List Nat, UB w (.slice a len cap) l := by
  have hcap : cap ≤ maxLen := by
    rcases h with ⟨_, _, rfl, _⟩ | ⟨x, _, h1, h2, _⟩
    · exact Nat.zero_le _
    · exact h2
  obtain ⟨l, h1, h2, h3⟩ := isRow_parts h 256 (fun n hn => wf_u8 hn)
  refine ⟨l, h2, ?_⟩
  rcases h3 with ⟨a', c, he, hl, _⟩ | ⟨b, off, c, he, hc, _, hcell⟩
  · exact .inl ⟨hl, a', c, he⟩
  · by_cases h0 : l.length = 0
    · have := List.eq_nil_of_length_eq_zero h0
      rw [he, h0]
      exact .inl ⟨this, _, c, rfl⟩
    · have hb := World.block_lt_of_cell? _ _ (hcell 0 (by omega))
      have hcc : c = cap := by cases he; rfl
      exact .inr ⟨b, off, c, he, hb, hc, by rw [hcc]; exact hcap, fun i hi => hcell i hi⟩
end Go.Proofs.Ytaeppclimafikaa
