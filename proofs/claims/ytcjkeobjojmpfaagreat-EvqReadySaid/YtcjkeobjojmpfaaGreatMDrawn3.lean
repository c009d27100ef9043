import Derived.Calls
import Derived.RunT
import Derived.Below
import Derived.Sort.Grow
import Derived.Deep.Draws
section
/-
  NO STEP TAKES A DRAW BACK: the tape's place only grows. A general text, of no program.
-/
namespace Go.Proofs.YtcjkeobjojmpfaaGreat.Drawn
open Go

def rw' {α : Type} : Result α → World
  | .ok _ w => w
  | .halt _ w => w

theorem ask_dr {α : Type} (a : Ask α) : ∀ w : World, w.drawn ≤ (w.ask a).2.drawn := by
  induction a with
  | done a => intro w; exact Nat.le_refl _
  | ask what range k ih =>
    intro w
    unfold World.ask
    dsimp only
    split
    · exact ih _ w
    · exact Nat.le_trans (Nat.le_succ _) (ih _ { w with drawn := w.drawn + 1 })
theorem sys_dr (w : World) (c : Sys) : w.drawn ≤ (w.sys c).2.drawn := by
  unfold World.sys
  have h := ask_dr (Kernel.perform c w.os) w
  split
  · exact Nat.le_refl _
  · rename_i e
    rw [e] at h
    exact h
theorem freeze_dr (w : World) (a : Addr) (n : Nat) : (w.freeze a n).drawn = w.drawn := by unfold World.freeze; split <;> rfl
theorem setCell_dr (w : World) (a : Addr) (v : Value) : (w.setCell a v).drawn = w.drawn := rfl
theorem viewStore_dr {p : Program} {w w' : World} {at_ k : Addr} {u : TypeId} {v : Value} {b : Bool} {l : List Addr} (h : w.viewStore p at_ u k v b = .ok (w', l)) : w'.drawn = w.drawn := by
  unfold World.viewStore at h
  simp only [bind, Except.bind, pure, Except.pure] at h
  repeat' split at h
  all_goals first | cases h; rfl | cases h
theorem farStore_dr {p : Program} {w w' : World} {a : Addr} {v : Value} {b : Bool} {l : List Addr} (h : w.farStore p a v b = .ok (w', l)) : w'.drawn = w.drawn := by
  unfold World.farStore at h
  split at h
  · split at h
    · rename_i r hr
      cases h
      exact viewStore_dr hr
    · cases h
  · cases h
theorem run_dr {α : Type} (p : Program) (s : Sem α) : ∀ w : World, w.drawn ≤ (rw' (s.run p w)).drawn := by
  induction s with
  | pure a => intro w; exact Nat.le_refl _
  | load m a k ih =>
    intro w
    unfold Sem.run
    split
    · exact ih _ w
    · split
      · exact ih _ w
      · exact Nat.le_refl _
  | store m a v k ih =>
    intro w
    cases v
    all_goals unfold Sem.run
    all_goals first
      | exact Nat.le_refl _
      | (split
         · split
           · exact Nat.le_refl _
           · exact ih (w.setCell _ _)
         · split
           · rename_i hf
             exact Nat.le_trans (Nat.le_of_eq (farStore_dr hf).symm) (ih _)
           · exact Nat.le_refl _)
  | new o k ih => intro w; exact ih _ { w with heap := w.heap.push o }
  | shape r k ih => intro w; exact ih _ w
  | freeze a n k ih => intro w; unfold Sem.run; have := ih (w.freeze a n); rwa [freeze_dr] at this
  | frozen a k ih => intro w; exact ih _ w
  | getObj r k ih =>
    intro w
    unfold Sem.run
    split
    · exact Nat.le_refl _
    · exact ih _ w
    · exact Nat.le_refl _
  | setObj r o k ih =>
    intro w
    unfold Sem.run
    split
    · exact Nat.le_refl _
    · exact ih { w with heap := w.heap.setIfInBounds r o }
    · exact Nat.le_refl _
  | choose q k ih =>
    intro w
    unfold Sem.run
    split
    · exact ih _ w
    · exact Nat.le_trans (Nat.le_succ _) (ih _ { w with drawn := w.drawn + 1 })
  | sys c k ih => intro w; exact Nat.le_trans (sys_dr w c) (ih _ _)
  | program k ih => intro w; exact ih _ w
  | mark m k ih => intro w; exact ih w
  | halt h => intro w; exact Nat.le_refl _
theorem run_n {α : Type} {p : Program} {s : Sem α} {w : World} {n : Nat} (h : n ≤ w.drawn) : n ≤ (rw' (s.run p w)).drawn := Nat.le_trans h (run_dr p s w)
theorem runT_n {α : Type} {p : Program} {s : Sem α} {w : World} {es : Array Event} {n : Nat} (h : n ≤ w.drawn) : n ≤ (rw' (s.runT p w es).1).drawn := by rw [Sem.runT_fst]; exact run_n h

theorem run_e {α : Type} {p : Program} {s : Sem α} {w w' : World} {v : α} {n : Nat} (e : s.run p w = .ok v w') (h : n ≤ w.drawn) : n ≤ w'.drawn := by
  have := run_n (p := p) (s := s) h
  rw [e] at this
  exact this
theorem runT_e {α : Type} {p : Program} {s : Sem α} {w w' : World} {es es' : Array Event} {v : α} {n : Nat} (e : s.runT p w es = (.ok v w', es')) (h : n ≤ w.drawn) : n ≤ w'.drawn := by
  have := runT_n (p := p) (s := s) (es := es) h
  rw [e] at this
  exact this
theorem runT_h {α : Type} {p : Program} {s : Sem α} {w w' : World} {es es' : Array Event} {x : Halt} {n : Nat} (e : s.runT p w es = (.halt x w', es')) (h : n ≤ w.drawn) : n ≤ w'.drawn := by
  have := runT_n (p := p) (s := s) (es := es) h
  rw [e] at this
  exact this
/-- A goroutine's step: it ends the program, or the place is no less. -/
def G (n : Nat) : GStep → Prop
  | .go _ w _ => n ≤ w.drawn
  | .comm _ _ _ _ w _ => n ≤ w.drawn
  | .spawn _ _ w _ => n ≤ w.drawn
  | .count _ w _ => n ≤ w.drawn
  | .timer _ _ w _ => n ≤ w.drawn
  | .alone _ _ w _ => n ≤ w.drawn
  | .newcoro _ _ _ w _ => n ≤ w.drawn
  | .coroswitch _ _ _ w _ => n ≤ w.drawn
  | .collect _ w _ => n ≤ w.drawn
  | .watch _ w _ => n ≤ w.drawn
  | .ended _ _ _ => True
theorem G_after {n : Nat} {es : Array Event} {s : GStep} (h : G n s) : G n (GStep.after es s) := by cases s <;> exact h

theorem endWith_G {n : Nat} (w : World) (fd : Nat) (t : ByteArray) (o : Outcome) : G n (endWith w fd t o) := by
  unfold endWith
  dsimp only
  split
  · split <;> trivial
  · trivial
  · trivial
theorem dieOf_G {n : Nat} {fr : Frame} {ahead : List ByteArray} {m : String} {b : Bool} {w : World} (h : n ≤ w.drawn) : G n (dieOf fr ahead m b w) := h
theorem endThrow_G {n : Nat} {fr : Frame} {m : String} {w : World} (h : n ≤ w.drawn) : G n (endThrow fr m w) := h
theorem endPrinting_G {n : Nat} {p : Program} {fr : Frame} {v : Value} {w : World} (h : n ≤ w.drawn) : G n (endPrinting p fr v w) := by
  unfold endPrinting
  dsimp only
  split
  · exact h
  · trivial
theorem endFatal_G {n : Nat} {p : Program} {fr : Frame} {cs : List Frame} {d : Option Dying} {m : String} {w : World} (h : n ≤ w.drawn) : G n (endFatal p fr cs d m w) := by
  unfold endFatal
  dsimp only
  split
  · rename_i e
    exact run_e e h
  · trivial
  · trivial
theorem writeOn_G {n : Nat} {p : Program} {fr : Frame} {d : Dying} {f : Fatal} {w : World} (h : n ≤ w.drawn) : G n (writeOn p fr d f w) := by
  unfold writeOn
  dsimp only
  split
  · trivial
  · split
    · rename_i e
      first | exact runT_e e h | exact runT_h e h
    · rename_i e
      first | exact runT_e e h | exact runT_h e h
    · trivial
    · trivial
theorem die_G {n : Nat} {p : Program} {fr : Frame} {d : Dying} {w : World} (h : n ≤ w.drawn) : G n (die p fr d w) := by
  unfold die
  split
  · exact writeOn_G h
  · split
    · split
      · exact h
      · exact endWith_G _ _ _ _
    · dsimp only
      split
      · exact h
      · split
        · rename_i e
          exact run_e e h
        · trivial
      · rename_i t recv name hpt
        have hr := runT_n (p := p) (s := invoke (.fn (.method name) #[]) #[.iface t recv]) (es := #[]) h
        generalize (invoke (.fn (.method name) #[]) #[.iface t recv]).runT p w #[] = r at hr ⊢
        obtain ⟨r, es⟩ := r
        refine G_after ?_
        dsimp only at hr ⊢
        split
        · exact hr
        · exact hr
        · trivial
        · exact endPrinting_G hr
        · trivial
      · trivial
theorem doReturn_G {n : Nat} {p : Program} {main : Bool} {fr : Frame} {cs : List Frame} {d : Option Dying} {v : Value} {w : World} (h : n ≤ w.drawn) : G n (doReturn p main fr cs d v w) := by
  unfold doReturn
  repeat' split
  all_goals first | exact h | trivial
theorem callDeferred_G {n : Nat} {p : Program} {fr : Frame} {cs : List Frame} {dy : Option Dying} {d : Deferred} {w : World} (h : n ≤ w.drawn) : G n (callDeferred p fr cs dy d w) := by
  unfold callDeferred
  have hr := runT_n (p := p) (s := invoke d.target d.args) (es := #[]) h
  generalize (invoke d.target d.args).runT p w #[] = r at hr ⊢
  obtain ⟨r, es⟩ := r
  dsimp only at hr ⊢
  repeat' split
  all_goals first
    | trivial
    | exact G_after hr
    | exact G_after (endFatal_G hr)
    | exact G_after (endThrow_G hr)
    | (exfalso; injections; done)
    | (exfalso; rename_i e; cases e; done)
    | (exfalso; rename_i e _; cases e; done)
    | (exfalso; rename_i e _ _; cases e; done)
    | (injections; subst_vars; first | exact G_after hr | exact G_after (endFatal_G hr) | exact G_after (endThrow_G hr))
theorem unwind_G {n : Nat} {p : Program} {main : Bool} {fr : Frame} {cs : List Frame} {dy : Option Dying} {w : World} (h : n ≤ w.drawn) : G n (unwind p main fr cs dy w) := by
  unfold unwind
  split
  · rename_i block _ _ _
    have hr := runT_n (p := p) (s := Instr.takeDeferred block) (es := #[]) h
    generalize (Instr.takeDeferred block).runT p w #[] = r at hr ⊢
    obtain ⟨r, es⟩ := r
    dsimp only at hr ⊢
    refine G_after ?_
    split
    · exact hr
    · trivial
  · exact callDeferred_G h
  · split
    · trivial
    · split
      · trivial
      · split
        · exact h
        · split
          · split
            · exact h
            · split
              · rename_i e
                exact run_e e h
              · trivial
              · trivial
          · split
            · exact endPrinting_G h
            · trivial
    · split
      · exact doReturn_G h
      · rename_i fn _
        have hr := runT_n (p := p) (s := results fn fr.tmps) (es := #[]) h
        generalize (results fn fr.tmps).runT p w #[] = r at hr ⊢
        obtain ⟨r, es⟩ := r
        dsimp only at hr ⊢
        refine G_after ?_
        split
        · exact doReturn_G hr
        · trivial
        · trivial
end Go.Proofs.YtcjkeobjojmpfaaGreat.Drawn
end

section
/-
  NO STEP TAKES A DRAW BACK, on: the step of a goroutine.
-/
namespace Go.Proofs.YtcjkeobjojmpfaaGreat.Drawn
open Go

theorem early_G {n : Nat} {p : Program} {fr : Frame} {cs : List Frame} {dy : Option Dying} {g : Nat} {w : World} (h : n ≤ w.drawn) : G n (early p fr cs dy g w) := by
  unfold early
  dsimp only
  repeat' split
  all_goals first
    | trivial
    | exact h
    | (have t := run_e ‹Sem.run p _ w = Result.ok _ _› h; exact t)
theorem apply_G {n : Nat} {p : Program} {b : Bool} {fr : Frame} {cs : List Frame} {dy : Option Dying} {s : Sem Next} {w : World} (h : n ≤ w.drawn) : G n (stepG.apply p b fr cs dy s w) := by
  unfold stepG.apply
  have hr : n ≤ (rw' (if b then s.runT p w #[] else (s.run p w, #[])).1).drawn := by
    split
    · exact runT_n h
    · exact run_n h
  generalize (if b then s.runT p w #[] else (s.run p w, #[])) = r at hr ⊢
  obtain ⟨r, es⟩ := r
  dsimp only at hr ⊢
  refine G_after ?_
  clear h
  split
  all_goals first
    | trivial
    | exact hr
    | exact endFatal_G hr
    | exact endThrow_G hr
    | exact early_G hr
    | (split <;> first | trivial | exact hr | (split <;> first | trivial | exact hr | exact endThrow_G hr))
theorem oper_G {n : Nat} {p : Program} {b : Bool} {fr : Frame} {cs : List Frame} {dy : Option Dying} {w : World} (h : n ≤ w.drawn) : G n (stepG.oper p b fr cs dy w) := by
  unfold stepG.oper
  split
  · trivial
  · split
    · exact apply_G h
    · exact apply_G h
theorem runT_f {α : Type} {p : Program} {s : Sem α} {w w' : World} {es : Array Event} {v : α} {n : Nat} (e : (s.runT p w es).fst = .ok v w') (h : n ≤ w.drawn) : n ≤ w'.drawn := by
  have := runT_n (p := p) (s := s) (es := es) h
  rw [e] at this
  exact this
theorem runT_fh {α : Type} {p : Program} {s : Sem α} {w w' : World} {es : Array Event} {x : Halt} {n : Nat} (e : (s.runT p w es).fst = .halt x w') (h : n ≤ w.drawn) : n ≤ w'.drawn := by
  have := runT_n (p := p) (s := s) (es := es) h
  rw [e] at this
  exact this
theorem exec_G {n : Nat} {p : Program} {main b : Bool} {fr : Frame} {cs : List Frame} {dy : Option Dying} {w : World} (h : n ≤ w.drawn) : G n (stepG.exec p main b fr cs dy w) := by
  unfold stepG.exec
  dsimp only
  split
  all_goals first
    | trivial
    | exact h
    | exact apply_G h
    | skip
  · split
    · split <;> first | exact h | trivial
    · refine G_after ?_
      split
      · rename_i e; exact doReturn_G (runT_f e h)
      · trivial
  · split
    · split <;> first | exact h | trivial
    · refine G_after ?_
      split
      · rename_i e; exact doReturn_G (runT_f e h)
      · trivial
  · split
    · exact h
    · trivial
  · rename_i id k _
    cases exitTo id k with
    | some t => exact h
    | none =>
      dsimp only [Option.elim]
      split
      · split <;> first | exact h | trivial
      · refine G_after ?_
        split
        · rename_i e; exact doReturn_G (runT_f e h)
        · trivial
  · rename_i l k _
    cases gotoIn l k with
    | some t => exact h
    | none =>
      dsimp only [Option.elim]
      split
      · split <;> first | exact h | trivial
      · refine G_after ?_
        split
        · rename_i e; exact doReturn_G (runT_f e h)
        · trivial
  · refine G_after ?_
    split
    · rename_i e; exact apply_G (runT_f e h)
    · trivial
  · refine G_after ?_
    split
    · rename_i e; exact runT_f e h
    · rename_i e; exact runT_fh e h
    · trivial
  · rename_i row args _ _
    cases Extern.next row with
    | none => trivial
    | some e => exact apply_G h
  · split
    · exact h
    · split
      · rename_i e; exact run_e e h
      · trivial
  · split
    · exact oper_G h
    · exact h
theorem stepG_G {n : Nat} {p : Program} {main b : Bool} {g : Goroutine} {w : World} (h : n ≤ w.drawn) : G n (stepG p main g w b) := by
  unfold stepG
  dsimp only
  split
  · exact die_G h
  · exact exec_G h
  · exact unwind_G h
end Go.Proofs.YtcjkeobjojmpfaaGreat.Drawn
end

section
/-
  NO STEP TAKES A DRAW BACK, on: the step of a machine, and a call.
-/
namespace Go.Proofs.YtcjkeobjojmpfaaGreat.Drawn
open Go Go.RowKit

theorem G_go {n : Nat} {s : GStep} {g : Goroutine} {w : World} {es : Array Event} (e : s = .go g w es) (h : G n s) : n ≤ w.drawn := by subst e; exact h
/-- A machine's step: it ends the program, or the place is no less. -/
def S (n : Nat) : Stepped → Prop
  | .next m => n ≤ m.world.drawn
  | .ended _ _ => True

theorem comm_S {n : Nat} {p : Program} {rest : Rest} {gs : Array Goroutine} {i : Nat} {g : Goroutine} {cs : Array CommCase} {b : Bool} {sh : CommShape} {w : World} (h : n ≤ w.drawn) : S n (communicate p rest gs i g cs b sh w).1 := by
  unfold communicate
  dsimp only
  split
  · trivial
  · split
    · split
      · split
        · rename_i e
          unfold waitingAt at e
          split at e
          · split at e <;> cases e
            exact h
          · cases e; exact h
        · trivial
      · exact h
    · split
      · trivial
      · rename_i e
        have h1 := run_e e h
        clear e
        split
        · split
          · rename_i e2
            have h2 := run_n (p := p) (s := (runtimePanic (.plain "send on closed channel") : Sem Unit)) h1
            rw [e2] at h2
            exact h2
          · trivial
        · exact h1
        · exact h1
        · split
          · exact h1
          · split
            · rename_i e2
              have h2 := run_e e2 h1
              exact h2
            · trivial
        · exact h1
        · exact h1
        · trivial
theorem look_S {n : Nat} {p : Program} {gs : Array Goroutine} {rest : Rest} {w : World} (h : n ≤ w.drawn) : S n (look p gs rest w) := by
  unfold look
  split
  · dsimp only
    split
    · trivial
    · split
      · trivial
      · split
        · rename_i e
          have h1 := run_e e h
          exact h1
        · trivial
        · trivial
  · trivial
theorem drain_dr (w : World) (c : Nat) : (drain w c).2.drawn = w.drawn := by
  unfold drain
  split <;> rfl
theorem retime_dr (m : Machine) (k : Nat) (t : Timer) (a b : Nat) : (retime m k t a b).2.world.drawn = m.world.drawn := by
  unfold retime
  dsimp only
  split
  · exact drain_dr _ _
  · rfl
theorem named_dr {m m0 : Machine} {var : Addr} {f : Nat → Timer → Value × Machine} (hf : ∀ k t, (f k t).2.world.drawn = m0.world.drawn) {v : Value} {m' : Machine} (h : timerOp.named m var f = .ok (v, m')) : m'.world.drawn = m0.world.drawn := by
  unfold timerOp.named at h
  split at h
  · rename_i k _
    have := hf k (m.rest.timers.getD k default)
    cases hk : f k (m.rest.timers.getD k default) with
    | mk a b =>
      rw [hk] at h this
      cases h
      exact this
  · cases h
theorem opened_dr {m m' : Machine} {var : Addr} (h : timerOp.opened m var = some m') : m'.world.drawn = m.world.drawn := by
  unfold timerOp.opened at h
  split at h
  · split at h <;> cases h
    rfl
  · cases h; rfl
theorem timerOp_dr {m m' : Machine} {op : TimerOp} {v : Value} (h : timerOp m op = .ok (v, m')) : m'.world.drawn = m.world.drawn := by
  unfold timerOp at h
  split at h
  · split at h
    · cases h; rfl
    · split at h
      · split at h
        · cases h
        · cases h; rfl
      · cases h
  · exact named_dr (m0 := m) (fun k t => retime_dr _ _ _ _ _) h
  · split at h
    · rename_i m1 ho
      exact named_dr (m0 := m) (fun k t => (retime_dr m1 k t _ _).trans (opened_dr ho)) h
    · cases h
  · cases h; rfl
theorem runT_S {n : Nat} {p : Program} {m : Machine} {i : Nat} {b : Bool} (h : n ≤ m.world.drawn) : S n (runT p m i b).1 := by
  unfold runT
  dsimp only
  generalize hg : m.gs.swapAt! i { (default : Goroutine) with status := .finished } = q
  obtain ⟨g, gs⟩ := q
  dsimp only
  have hs := stepG_G (p := p) (main := i == 0) (b := b) (g := g) h
  generalize stepG p (i == 0) g m.world b = st at hs
  cases st with
  | ended o w es => trivial
  | comm g cs bl sh w es => exact comm_S hs
  | go g w es => exact hs
  | spawn g c w es => exact hs
  | count g w es =>
    dsimp only
    split
    · trivial
    · exact hs
  | alone g on w es => exact hs
  | collect g w es => exact look_S hs
  | watch g w es => exact hs
  | newcoro g c d w es => exact hs
  | coroswitch g c e w es =>
    dsimp only
    split
    · exact hs
    · split
      · rename_i e2
        exact G_go e2 (endThrow_G hs)
      · trivial
    · trivial
  | timer g op w es =>
    dsimp only
    split
    · rename_i e2
      have h2 := timerOp_dr e2
      show n ≤ _
      rw [h2]
      exact hs
    · split
      · rename_i e2
        exact G_go e2 (endThrow_G hs)
      · trivial
    · trivial
    · trivial
theorem serve_S {n : Nat} {p : Program} {m : Machine} {k : Nat} (h : n ≤ m.world.drawn) : S n (serve p m k) := by
  unfold serve
  split
  · trivial
  · exact h
  · dsimp only
    split
    · trivial
    · exact h
/-- A move. -/
def M (n : Nat) : Move → Prop
  | .goroutine m _ => n ≤ m.world.drawn
  | .machine s _ => S n s
theorem advance_dr (m : Machine) (t : Nat) : (m.advanceTo t).world.drawn = m.world.drawn := rfl
theorem pick_M {n : Nat} {p : Program} {rs : List Nat} {m : Machine} (h : n ≤ m.world.drawn) : M n (match (choose (.sched rs.length)).run p m.world with
      | .halt _ w => .machine (.ended (.stuck "sched" "") w)
      | .ok k world =>
        if rs.length ≤ 1 then .goroutine { m with world } (rs.getD k 0) else
        match (choose (.extern "sched.slice" 65536)).run p world with
        | .halt _ w => .machine (.ended (.stuck "sched.slice" "") w)
        | .ok n world => .goroutine { m with world, rest := { m.rest with slice := if n = 0 then none else some (rs.getD k 0, n) } } (rs.getD k 0)) := by
  split
  · trivial
  · rename_i e
    have h1 := run_e e h
    split
    · exact h1
    · split
      · trivial
      · rename_i e2
        exact run_e e2 h1
theorem askOn_M {n : Nat} {p : Program} {m : Machine} (h : n ≤ m.world.drawn) : M n (askOn p m) := by
  unfold askOn
  dsimp only
  generalize (if (due m.rest.timers m.world.os.mono).isEmpty then pure 0 else choose _ : Sem Nat) = q
  split
  · trivial
  · rename_i e
    have h1 := run_e e h
    clear e h
    split
    · exact serve_S h1
    · split
      · split
        · exact h1
        · split
          · exact h1
          · split
            · trivial
            · trivial
      · split
        · exact pick_M (m := { m with world := _ }) h1
        · split
          · trivial
          · rename_i e2
            exact pick_M (m := { m with world := _ }) (run_e e2 h1)
          · rename_i e2
            have h2 := run_e e2 h1
            exact h2
          · rename_i e2
            have h2 := run_e e2 h1
            exact pick_M (m := Machine.advanceTo { m with world := _ } _) h2
theorem ask_M {n : Nat} {p : Program} {m : Machine} (h : n ≤ m.world.drawn) : M n (ask p m) := by
  unfold ask
  split
  · split
    · trivial
    · rename_i e
      have h1 := run_e e h
      have h2 := look_S (p := p) (gs := m.gs) (rest := m.rest) h1
      split
      · rename_i e2
        rw [e2] at h2
        exact askOn_M h2
      · rename_i e2 _
        first | exact h2 | (split <;> exact h2)
    · rename_i e
      have h1 := run_e e h
      exact askOn_M h1
  · exact askOn_M h
theorem move_M {n : Nat} {p : Program} {m : Machine} (h : n ≤ m.world.drawn) : M n (move p m) := by
  unfold move
  split
  · split
    · exact h
    · trivial
  · split
    · split
      · exact h
      · exact ask_M h
    · exact ask_M h
theorem step_S {n : Nat} {p : Program} {m : Machine} (h : n ≤ m.world.drawn) : S n (step p m) := by
  unfold step stepT
  have hm := move_M (p := p) h
  generalize move p m = mv at hm
  cases mv with
  | goroutine m i => exact runT_S hm
  | machine s ops => exact hm
theorem runN_S {p : Program} : ∀ (k : Nat) {n : Nat} {m : Machine}, n ≤ m.world.drawn → S n (runN p k m)
  | 0, _, _, h => h
  | k + 1, n, m, h => by
    have hs := step_S (p := p) h
    unfold runN
    split
    · rename_i e
      rw [e] at hs
      exact runN_S k hs
    · exact hs
theorem steps_dr {P : Program} {m m' : Machine} (h : Steps P m m') : m.world.drawn ≤ m'.world.drawn := by
  obtain ⟨k, hk⟩ := h
  have := runN_S (p := P) k (Nat.le_refl m.world.drawn)
  rw [hk] at this
  exact this
/-- A CALL THAT RETURNS HAS TAKEN NO DRAW BACK. -/
theorem calls_dr {P : Program} {f : FuncId} {args : Array Value} {w : World} {R : Ending → World → Prop} (h : Calls P f args w R) : Calls P f args w fun e w' => R e w' ∧ ((∃ v, e = .returned v) → w.drawn ≤ w'.drawn) := by
  intro cs
  obtain ⟨e, w', fr, hR, hc, hf, hl⟩ := h cs
  refine ⟨e, w', fr, ⟨hR, ?_⟩, hc, hf, hl⟩
  rintro ⟨v, rfl⟩
  exact steps_dr (m := lone (Frame.enter P f args .normal) cs w) (m' := lone fr cs w') hc
/-- WHAT LIES BELOW IS AS IT WAS: the world is the old one, further on the tape, with more blocks. -/
theorem below_grow {w w' : World} (h : Below w.heap.size w w') (hd : w.drawn ≤ w'.drawn) : ∃ q os, w' = Go.Sort.grow (w.drewN q) os := by
  refine ⟨w'.drawn - w.drawn, w'.heap.extract w.heap.size w'.heap.size, ?_⟩
  obtain ⟨heap, tape, drawn, os, out⟩ := w
  obtain ⟨heap', tape', drawn', os', out'⟩ := w'
  obtain ⟨h1, h2, h3, h4, h5⟩ := h
  simp only at h1 h2 h3 h4 h5 hd
  subst h1 h2 h3
  have e : heap' = heap ++ heap'.extract heap.size heap'.size := by
    apply Array.ext
    · simp; omega
    · intro i hi hi2
      by_cases hlt : i < heap.size
      · rw [Array.getElem_append_left hlt]
        have := h5 i hlt
        rw [Array.getElem?_eq_getElem hi, Array.getElem?_eq_getElem hlt] at this
        exact Option.some.inj this
      · rw [Array.getElem_append_right (by omega)]
        rw [Array.getElem_extract]
        congr 1
        omega
  have e2 : drawn + (drawn' - drawn) = drawn' := by omega
  show _ = ({ heap := heap ++ heap'.extract heap.size heap'.size, tape := tape', drawn := drawn + (drawn' - drawn), os := os', output := out' } : World)
  rw [← e, e2]
theorem calls_grow {P : Program} {f : FuncId} {args : Array Value} {w : World} {v : Value} (h : Calls P f args w fun e w' => e = .returned v ∧ Below w.heap.size w w') : Calls P f args w fun e w' => e = .returned v ∧ ∃ q os, w' = Go.Sort.grow (w.drewN q) os :=
  (calls_dr h).mono fun _ _ ⟨⟨he, hb⟩, hd⟩ => ⟨he, below_grow hb (hd ⟨v, he⟩)⟩
end Go.Proofs.YtcjkeobjojmpfaaGreat.Drawn
end
