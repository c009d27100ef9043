/-
  CONTRACT of num.Split: what the plain function 'splitN' says of the bytes; nothing that was there is written. (Its loop goes over the iterator that num.forms makes.)
-/
import Derived.Test.YtlohggdabpfkhaaNumAll
import Derived.Test.YtlohggdabpfkhaaNumLast
import Derived.RangeFuncBox
import Derived.RangeFuncLeaves
import Derived.RangeFuncNested
import Derived.RangeFuncBound
import Derived.RangeFuncCalls
import Derived.Shelf.Abstract
import Derived.OwnWalkIn
import Derived.TacticsInMore
import Derived.LoopNIn
import Derived.LoopIn
namespace Go.Proofs.Ytlohggdabpfkhaa
open Go.RowKit Go.Shelf Pl

attribute [local go_sem] Oper.semAt_some

/-! What is yielded: the numbers with 0, up to the first error, which comes with 0. -/
def sqF : Nat → List Nat → List (Nat × Nat)
  | 0, _ => []
  | n + 1, l => if l.length = 0 then [] else if (rd l).2.2 ≠ 0 then [(0, (rd l).2.2)] else ((rd l).1, 0) :: sqF n (l.drop (rd l).2.1)
def sq (l : List Nat) : List (Nat × Nat) := sqF l.length l
theorem rd_size (l : List Nat) (h : (rd l).2.2 = 0) : 1 ≤ (rd l).2.1 := by
  revert h
  unfold rd
  split
  · simp
  split
  · simp
  split
  · simp
  split
  · simp
  split
  · intro _; dsimp only; omega
  · simp
theorem rd_zero (l : List Nat) (h : (rd l).2.2 ≠ 0) : (rd l).1 = 0 := by
  revert h
  unfold rd
  split
  · simp
  split
  · simp
  split
  · simp
  split
  · simp
  split <;> simp
theorem sqF_more (n : Nat) : ∀ (l : List Nat) (m : Nat), l.length ≤ n → l.length ≤ m → sqF n l = sqF m l := by
  induction n with
  | zero => intro l m h1 _; have : l = [] := List.eq_nil_of_length_eq_zero (by omega); subst this; cases m <;> simp [sqF]
  | succ n ih =>
    intro l m h1 h2
    cases m with
    | zero => have : l = [] := List.eq_nil_of_length_eq_zero (by omega); subst this; simp [sqF]
    | succ m =>
      unfold sqF
      split
      · rfl
      split
      · rfl
      · rename_i h0 h3
        have := rd_size l (by simpa using h3)
        rw [ih (l.drop (rd l).2.1) m (by simp; omega) (by simp; omega)]
theorem sq_nil : sq [] = [] := rfl
theorem sq_err {l : List Nat} (h0 : l.length ≠ 0) (h : (rd l).2.2 ≠ 0) : sq l = [(0, (rd l).2.2)] := by
  unfold sq
  cases hl : l.length with
  | zero => exact absurd hl h0
  | succ n => unfold sqF; rw [if_neg h0, if_pos h]
theorem sq_ok {l : List Nat} (h0 : l.length ≠ 0) (h : (rd l).2.2 = 0) : sq l = ((rd l).1, 0) :: sq (l.drop (rd l).2.1) := by
  unfold sq
  cases hl : l.length with
  | zero => exact absurd hl h0
  | succ n =>
    rw [sqF, if_neg h0, if_neg (by simpa using h)]
    congr 1
    have := rd_size l h
    exact sqF_more _ _ _ (by simp; omega) (Nat.le_refl _)

def encF (x : Nat × Nat) : Array Value := #[.int .u64 (x.1 : Int), .int .i64 (x.2 : Int)]

theorem rd_len (l : List Nat) (hb : AllB l) : (rd l).2.1 ≤ l.length := (rd_range l hb).2
/-- What a round that goes on must keep. -/
def KpB (n₀ Bs : Nat) (A B : World) : Prop := Below n₀ A B ∧ B.heap[Bs]? = A.heap[Bs]?

end Go.Proofs.Ytlohggdabpfkhaa
