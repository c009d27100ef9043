/-
  THE WALK of fermatalaw01.writes and NumWrites: they return true, and write nothing that was there.
-/
import Derived.Test.YtlohggdabpfkhaaFrame
import Derived.Test.YtlohggdabpfkhaaAwake01
import Derived.Test.YtlohggdabpfkhaaNumAppendF
import Derived.Test.YtlohggdabpfkhaaNumRefForm
import Derived.Test.YtlohggdabpfkhaaNumRefFold
namespace Go.Proofs.Ytlohggdabpfkhaa
open Go.RowKit Pl

/-- The head of what reads as bytes. -/
theorem BRow.headW {w : World} {a : Option Addr} {n c : Nat} {l : List Nat} (h : BRow w (.slice a n c) l) (k : Nat) (hk : k ≤ l.length) : BRow w (.slice a k c) (l.take k) := by
  obtain ⟨hb, ⟨a', c', hv, rfl, hc⟩ | ⟨b, off, cap, hv, h1, h2, h3⟩⟩ := h
  · obtain rfl : k = 0 := by simpa using hk
    simp only [Value.slice.injEq] at hv
    obtain ⟨_, _, rfl⟩ := hv
    rw [List.take_nil]
    exact BRow.empty a c hc
  · simp only [Value.slice.injEq] at hv
    obtain ⟨rfl, rfl, rfl⟩ := hv
    have := BRow.sub (w := w) ⟨hb, .inr ⟨b, off, c, rfl, h1, h2, h3⟩⟩ 0 k off k c (Nat.zero_le _) hk rfl rfl (by omega) h2
    rwa [List.drop_zero, Nat.sub_zero] at this

end Go.Proofs.Ytlohggdabpfkhaa
