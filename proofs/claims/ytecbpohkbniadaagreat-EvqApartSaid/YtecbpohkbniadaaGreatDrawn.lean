/-
  NO STEP TAKES A DRAW BACK: the tape's place only grows. A general text, of no program.
-/
import Derived.Calls
import Derived.RunT
namespace Go.Proofs.YtecbpohkbniadaaGreat.Drawn
open Go

def rw' {α : Type} : Result α → World
  | .ok _ w => w
  | .halt _ w => w

theorem ask_dr {α : Type} (a : Ask α) : ∀ w : World, w.drawn ≤ (w.ask a).2.drawn := by
  induction a with
  | done a => intro w; exact Nat.le_refl _
  | ask what range k ih =>
    intro w
    unfold World.ask
    dsimp only
    split
    · exact ih _ w
    · exact Nat.le_trans (Nat.le_succ _) (ih _ { w with drawn := w.drawn + 1 })
theorem sys_dr (w : World) (c : Sys) : w.drawn ≤ (w.sys c).2.drawn := by
  unfold World.sys
  have h := ask_dr (Kernel.perform c w.os) w
  split
  · exact Nat.le_refl _
  · rename_i e
    rw [e] at h
    exact h
theorem freeze_dr (w : World) (a : Addr) (n : Nat) : (w.freeze a n).drawn = w.drawn := by unfold World.freeze; split <;> rfl
theorem setCell_dr (w : World) (a : Addr) (v : Value) : (w.setCell a v).drawn = w.drawn := rfl
theorem viewStore_dr {p : Program} {w w' : World} {at_ k : Addr} {u : TypeId} {v : Value} {b : Bool} {l : List Addr} (h : w.viewStore p at_ u k v b = .ok (w', l)) : w'.drawn = w.drawn := by
  unfold World.viewStore at h
  simp only [bind, Except.bind, pure, Except.pure] at h
  repeat' split at h
  all_goals first | cases h; rfl | cases h
theorem farStore_dr {p : Program} {w w' : World} {a : Addr} {v : Value} {b : Bool} {l : List Addr} (h : w.farStore p a v b = .ok (w', l)) : w'.drawn = w.drawn := by
  unfold World.farStore at h
  split at h
  · split at h
    · rename_i r hr
      cases h
      exact viewStore_dr hr
    · cases h
  · cases h
theorem run_dr {α : Type} (p : Program) (s : Sem α) : ∀ w : World, w.drawn ≤ (rw' (s.run p w)).drawn := by
  induction s with
  | pure a => intro w; exact Nat.le_refl _
  | load m a k ih =>
    intro w
    unfold Sem.run
    split
    · exact ih _ w
    · split
      · exact ih _ w
      · exact Nat.le_refl _
  | store m a v k ih =>
    intro w
    cases v
    all_goals unfold Sem.run
    all_goals first
      | exact Nat.le_refl _
      | (split
         · split
           · exact Nat.le_refl _
           · exact ih (w.setCell _ _)
         · split
           · rename_i hf
             exact Nat.le_trans (Nat.le_of_eq (farStore_dr hf).symm) (ih _)
           · exact Nat.le_refl _)
  | new o k ih => intro w; exact ih _ { w with heap := w.heap.push o }
  | shape r k ih => intro w; exact ih _ w
  | freeze a n k ih => intro w; unfold Sem.run; have := ih (w.freeze a n); rwa [freeze_dr] at this
  | frozen a k ih => intro w; exact ih _ w
  | getObj r k ih =>
    intro w
    unfold Sem.run
    split
    · exact Nat.le_refl _
    · exact ih _ w
    · exact Nat.le_refl _
  | setObj r o k ih =>
    intro w
    unfold Sem.run
    split
    · exact Nat.le_refl _
    · exact ih { w with heap := w.heap.setIfInBounds r o }
    · exact Nat.le_refl _
  | choose q k ih =>
    intro w
    unfold Sem.run
    split
    · exact ih _ w
    · exact Nat.le_trans (Nat.le_succ _) (ih _ { w with drawn := w.drawn + 1 })
  | sys c k ih => intro w; exact Nat.le_trans (sys_dr w c) (ih _ _)
  | program k ih => intro w; exact ih _ w
  | mark m k ih => intro w; exact ih w
  | halt h => intro w; exact Nat.le_refl _
theorem run_n {α : Type} {p : Program} {s : Sem α} {w : World} {n : Nat} (h : n ≤ w.drawn) : n ≤ (rw' (s.run p w)).drawn := Nat.le_trans h (run_dr p s w)
theorem runT_n {α : Type} {p : Program} {s : Sem α} {w : World} {es : Array Event} {n : Nat} (h : n ≤ w.drawn) : n ≤ (rw' (s.runT p w es).1).drawn := by rw [Sem.runT_fst]; exact run_n h

theorem run_e {α : Type} {p : Program} {s : Sem α} {w w' : World} {v : α} {n : Nat} (e : s.run p w = .ok v w') (h : n ≤ w.drawn) : n ≤ w'.drawn := by
  have := run_n (p := p) (s := s) h
  rw [e] at this
  exact this
theorem runT_e {α : Type} {p : Program} {s : Sem α} {w w' : World} {es es' : Array Event} {v : α} {n : Nat} (e : s.runT p w es = (.ok v w', es')) (h : n ≤ w.drawn) : n ≤ w'.drawn := by
  have := runT_n (p := p) (s := s) (es := es) h
  rw [e] at this
  exact this
theorem runT_h {α : Type} {p : Program} {s : Sem α} {w w' : World} {es es' : Array Event} {x : Halt} {n : Nat} (e : s.runT p w es = (.halt x w', es')) (h : n ≤ w.drawn) : n ≤ w'.drawn := by
  have := runT_n (p := p) (s := s) (es := es) h
  rw [e] at this
  exact this
/-- A goroutine's step: it ends the program, or the place is no less. -/
def G (n : Nat) : GStep → Prop
  | .go _ w _ => n ≤ w.drawn
  | .comm _ _ _ _ w _ => n ≤ w.drawn
  | .spawn _ _ w _ => n ≤ w.drawn
  | .count _ w _ => n ≤ w.drawn
  | .timer _ _ w _ => n ≤ w.drawn
  | .alone _ _ w _ => n ≤ w.drawn
  | .newcoro _ _ _ w _ => n ≤ w.drawn
  | .coroswitch _ _ _ w _ => n ≤ w.drawn
  | .collect _ w _ => n ≤ w.drawn
  | .watch _ w _ => n ≤ w.drawn
  | .ended _ _ _ => True
theorem G_after {n : Nat} {es : Array Event} {s : GStep} (h : G n s) : G n (GStep.after es s) := by cases s <;> exact h

theorem endWith_G {n : Nat} (w : World) (fd : Nat) (t : ByteArray) (o : Outcome) : G n (endWith w fd t o) := by
  unfold endWith
  dsimp only
  split
  · split <;> trivial
  · trivial
  · trivial
theorem dieOf_G {n : Nat} {fr : Frame} {ahead : List ByteArray} {m : String} {b : Bool} {w : World} (h : n ≤ w.drawn) : G n (dieOf fr ahead m b w) := h
theorem endThrow_G {n : Nat} {fr : Frame} {m : String} {w : World} (h : n ≤ w.drawn) : G n (endThrow fr m w) := h
theorem endPrinting_G {n : Nat} {p : Program} {fr : Frame} {v : Value} {w : World} (h : n ≤ w.drawn) : G n (endPrinting p fr v w) := by
  unfold endPrinting
  dsimp only
  split
  · exact h
  · trivial
theorem endFatal_G {n : Nat} {p : Program} {fr : Frame} {cs : List Frame} {d : Option Dying} {m : String} {w : World} (h : n ≤ w.drawn) : G n (endFatal p fr cs d m w) := by
  unfold endFatal
  dsimp only
  split
  · rename_i e
    exact run_e e h
  · trivial
  · trivial
theorem writeOn_G {n : Nat} {p : Program} {fr : Frame} {d : Dying} {f : Fatal} {w : World} (h : n ≤ w.drawn) : G n (writeOn p fr d f w) := by
  unfold writeOn
  dsimp only
  split
  · trivial
  · split
    · rename_i e
      first | exact runT_e e h | exact runT_h e h
    · rename_i e
      first | exact runT_e e h | exact runT_h e h
    · trivial
    · trivial
theorem die_G {n : Nat} {p : Program} {fr : Frame} {d : Dying} {w : World} (h : n ≤ w.drawn) : G n (die p fr d w) := by
  unfold die
  split
  · exact writeOn_G h
  · split
    · split
      · exact h
      · exact endWith_G _ _ _ _
    · dsimp only
      split
      · exact h
      · split
        · rename_i e
          exact run_e e h
        · trivial
      · rename_i t recv name hpt
        have hr := runT_n (p := p) (s := invoke (.fn (.method name) #[]) #[.iface t recv]) (es := #[]) h
        generalize (invoke (.fn (.method name) #[]) #[.iface t recv]).runT p w #[] = r at hr ⊢
        obtain ⟨r, es⟩ := r
        refine G_after ?_
        dsimp only at hr ⊢
        split
        · exact hr
        · exact hr
        · trivial
        · exact endPrinting_G hr
        · trivial
      · trivial
theorem doReturn_G {n : Nat} {p : Program} {main : Bool} {fr : Frame} {cs : List Frame} {d : Option Dying} {v : Value} {w : World} (h : n ≤ w.drawn) : G n (doReturn p main fr cs d v w) := by
  unfold doReturn
  repeat' split
  all_goals first | exact h | trivial
theorem callDeferred_G {n : Nat} {p : Program} {fr : Frame} {cs : List Frame} {dy : Option Dying} {d : Deferred} {w : World} (h : n ≤ w.drawn) : G n (callDeferred p fr cs dy d w) := by
  unfold callDeferred
  have hr := runT_n (p := p) (s := invoke d.target d.args) (es := #[]) h
  generalize (invoke d.target d.args).runT p w #[] = r at hr ⊢
  obtain ⟨r, es⟩ := r
  dsimp only at hr ⊢
  repeat' split
  all_goals first
    | trivial
    | exact G_after hr
    | exact G_after (endFatal_G hr)
    | exact G_after (endThrow_G hr)
    | (exfalso; injections; done)
    | (exfalso; rename_i e; cases e; done)
    | (exfalso; rename_i e _; cases e; done)
    | (exfalso; rename_i e _ _; cases e; done)
    | (injections; subst_vars; first | exact G_after hr | exact G_after (endFatal_G hr) | exact G_after (endThrow_G hr))
theorem unwind_G {n : Nat} {p : Program} {main : Bool} {fr : Frame} {cs : List Frame} {dy : Option Dying} {w : World} (h : n ≤ w.drawn) : G n (unwind p main fr cs dy w) := by
  unfold unwind
  split
  · rename_i block _ _ _
    have hr := runT_n (p := p) (s := Instr.takeDeferred block) (es := #[]) h
    generalize (Instr.takeDeferred block).runT p w #[] = r at hr ⊢
    obtain ⟨r, es⟩ := r
    dsimp only at hr ⊢
    refine G_after ?_
    split
    · exact hr
    · trivial
  · exact callDeferred_G h
  · split
    · trivial
    · split
      · trivial
      · split
        · exact h
        · split
          · split
            · exact h
            · split
              · rename_i e
                exact run_e e h
              · trivial
              · trivial
          · split
            · exact endPrinting_G h
            · trivial
    · split
      · exact doReturn_G h
      · rename_i fn _
        have hr := runT_n (p := p) (s := results fn fr.tmps) (es := #[]) h
        generalize (results fn fr.tmps).runT p w #[] = r at hr ⊢
        obtain ⟨r, es⟩ := r
        dsimp only at hr ⊢
        refine G_after ?_
        split
        · exact doReturn_G hr
        · trivial
        · trivial
end Go.Proofs.YtecbpohkbniadaaGreat.Drawn
