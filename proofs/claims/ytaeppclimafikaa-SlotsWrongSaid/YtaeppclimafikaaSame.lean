/-
  CONTRACTS of fermatakit.SameBytes, fermatakit.SameNums: are two lists the same? The world is read alone.
-/
import Derived.Test.YtaeppclimafikaaNumRead
import Derived.BigQuiet
namespace Go.Proofs.Ytaeppclimafikaa
open Go.RowKit Pl

/-- THE VALUE v READS AS THE NUMBERS l of 64 bits. -/
def NRow (w : World) (v : Value) (l : List Nat) : Prop :=
  (∀ x ∈ l, x < 18446744073709551616) ∧ ((∃ a c, v = .slice a 0 c ∧ l = [] ∧ c ≤ maxLen) ∨ ∃ b off cap, v = .slice (some ⟨b, off, none⟩) l.length cap ∧ l.length ≤ cap ∧ cap ≤ maxLen ∧ ∀ i, i < l.length → w.cell? ⟨b, off + i, none⟩ = some (.int .u64 (gt l i : Int)))

theorem same_iff {a b : List Nat} (h : a.length = b.length) : a = b ↔ ∀ i, i < a.length → gt a i = gt b i := by
  constructor
  · rintro rfl i _; rfl
  · intro hi
    refine List.ext_getElem h fun i h1 h2 => ?_
    have := hi i h1
    simpa [gt, h1, h2] using this

theorem decide_same_no {a b : List Nat} (i : Nat) (hd : gt a i ≠ gt b i) : decide (a = b) = false := by
  rw [decide_eq_false_iff_not]; rintro rfl; exact hd rfl

theorem drewN_two (w : World) (n m : Nat) : (w.drewN n).drewN m = w.drewN (n + m) := by simp [World.drewN, Nat.add_assoc]
theorem ret_bool {a b : Bool} (h : a = b) : Ending.returned (.bool a) = .returned (.bool b) := by rw [h]

end Go.Proofs.Ytaeppclimafikaa
