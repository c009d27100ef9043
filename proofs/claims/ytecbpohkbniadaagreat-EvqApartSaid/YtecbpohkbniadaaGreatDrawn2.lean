/-
  NO STEP TAKES A DRAW BACK, on: the step of a goroutine.
-/
import Derived.Test.YtecbpohkbniadaaGreatDrawn
namespace Go.Proofs.YtecbpohkbniadaaGreat.Drawn
open Go

theorem early_G {n : Nat} {p : Program} {fr : Frame} {cs : List Frame} {dy : Option Dying} {g : Nat} {w : World} (h : n ≤ w.drawn) : G n (early p fr cs dy g w) := by
  unfold early
  dsimp only
  repeat' split
  all_goals first
    | trivial
    | exact h
    | (have t := run_e ‹Sem.run p _ w = Result.ok _ _› h; exact t)
theorem apply_G {n : Nat} {p : Program} {b : Bool} {fr : Frame} {cs : List Frame} {dy : Option Dying} {s : Sem Next} {w : World} (h : n ≤ w.drawn) : G n (stepG.apply p b fr cs dy s w) := by
  unfold stepG.apply
  have hr : n ≤ (rw' (if b then s.runT p w #[] else (s.run p w, #[])).1).drawn := by
    split
    · exact runT_n h
    · exact run_n h
  generalize (if b then s.runT p w #[] else (s.run p w, #[])) = r at hr ⊢
  obtain ⟨r, es⟩ := r
  dsimp only at hr ⊢
  refine G_after ?_
  clear h
  split
  all_goals first
    | trivial
    | exact hr
    | exact endFatal_G hr
    | exact endThrow_G hr
    | exact early_G hr
    | (split <;> first | trivial | exact hr | (split <;> first | trivial | exact hr | exact endThrow_G hr))
theorem oper_G {n : Nat} {p : Program} {b : Bool} {fr : Frame} {cs : List Frame} {dy : Option Dying} {w : World} (h : n ≤ w.drawn) : G n (stepG.oper p b fr cs dy w) := by
  unfold stepG.oper
  split
  · trivial
  · split
    · exact apply_G h
    · exact apply_G h
theorem runT_f {α : Type} {p : Program} {s : Sem α} {w w' : World} {es : Array Event} {v : α} {n : Nat} (e : (s.runT p w es).fst = .ok v w') (h : n ≤ w.drawn) : n ≤ w'.drawn := by
  have := runT_n (p := p) (s := s) (es := es) h
  rw [e] at this
  exact this
theorem runT_fh {α : Type} {p : Program} {s : Sem α} {w w' : World} {es : Array Event} {x : Halt} {n : Nat} (e : (s.runT p w es).fst = .halt x w') (h : n ≤ w.drawn) : n ≤ w'.drawn := by
  have := runT_n (p := p) (s := s) (es := es) h
  rw [e] at this
  exact this
theorem exec_G {n : Nat} {p : Program} {main b : Bool} {fr : Frame} {cs : List Frame} {dy : Option Dying} {w : World} (h : n ≤ w.drawn) : G n (stepG.exec p main b fr cs dy w) := by
  unfold stepG.exec
  dsimp only
  split
  all_goals first
    | trivial
    | exact h
    | exact apply_G h
    | skip
  · split
    · split <;> first | exact h | trivial
    · refine G_after ?_
      split
      · rename_i e; exact doReturn_G (runT_f e h)
      · trivial
  · split
    · split <;> first | exact h | trivial
    · refine G_after ?_
      split
      · rename_i e; exact doReturn_G (runT_f e h)
      · trivial
  · split
    · exact h
    · trivial
  · rename_i id k _
    cases exitTo id k with
    | some t => exact h
    | none =>
      dsimp only [Option.elim]
      split
      · split <;> first | exact h | trivial
      · refine G_after ?_
        split
        · rename_i e; exact doReturn_G (runT_f e h)
        · trivial
  · rename_i l k _
    cases gotoIn l k with
    | some t => exact h
    | none =>
      dsimp only [Option.elim]
      split
      · split <;> first | exact h | trivial
      · refine G_after ?_
        split
        · rename_i e; exact doReturn_G (runT_f e h)
        · trivial
  · refine G_after ?_
    split
    · rename_i e; exact apply_G (runT_f e h)
    · trivial
  · refine G_after ?_
    split
    · rename_i e; exact runT_f e h
    · rename_i e; exact runT_fh e h
    · trivial
  · rename_i row args _ _
    cases Extern.next row with
    | none => trivial
    | some e => exact apply_G h
  · split
    · exact h
    · split
      · rename_i e; exact run_e e h
      · trivial
  · split
    · exact oper_G h
    · exact h
theorem stepG_G {n : Nat} {p : Program} {main b : Bool} {g : Goroutine} {w : World} (h : n ≤ w.drawn) : G n (stepG p main g w b) := by
  unfold stepG
  dsimp only
  split
  · exact die_G h
  · exact exec_G h
  · exact unwind_G h
end Go.Proofs.YtecbpohkbniadaaGreat.Drawn
