/-
  NO STEP TAKES A DRAW BACK, on: the step of a machine, and a call.
-/
import Derived.Test.YtecbpohkbniadaaGreatDrawn2
import Derived.Below
import Derived.Sort.Grow
import Derived.Deep.Draws
namespace Go.Proofs.YtecbpohkbniadaaGreat.Drawn
open Go Go.RowKit

theorem G_go {n : Nat} {s : GStep} {g : Goroutine} {w : World} {es : Array Event} (e : s = .go g w es) (h : G n s) : n ≤ w.drawn := by subst e; exact h
/-- A machine's step: it ends the program, or the place is no less. -/
def S (n : Nat) : Stepped → Prop
  | .next m => n ≤ m.world.drawn
  | .ended _ _ => True

theorem comm_S {n : Nat} {p : Program} {rest : Rest} {gs : Array Goroutine} {i : Nat} {g : Goroutine} {cs : Array CommCase} {b : Bool} {sh : CommShape} {w : World} (h : n ≤ w.drawn) : S n (communicate p rest gs i g cs b sh w).1 := by
  unfold communicate
  dsimp only
  split
  · trivial
  · split
    · split
      · split
        · rename_i e
          unfold waitingAt at e
          split at e
          · split at e <;> cases e
            exact h
          · cases e; exact h
        · trivial
      · exact h
    · split
      · trivial
      · rename_i e
        have h1 := run_e e h
        clear e
        split
        · split
          · rename_i e2
            have h2 := run_n (p := p) (s := (runtimePanic (.plain "send on closed channel") : Sem Unit)) h1
            rw [e2] at h2
            exact h2
          · trivial
        · exact h1
        · exact h1
        · split
          · exact h1
          · split
            · rename_i e2
              have h2 := run_e e2 h1
              exact h2
            · trivial
        · exact h1
        · exact h1
        · trivial
theorem look_S {n : Nat} {p : Program} {gs : Array Goroutine} {rest : Rest} {w : World} (h : n ≤ w.drawn) : S n (look p gs rest w) := by
  unfold look
  split
  · dsimp only
    split
    · trivial
    · split
      · trivial
      · split
        · rename_i e
          have h1 := run_e e h
          exact h1
        · trivial
        · trivial
  · trivial
theorem drain_dr (w : World) (c : Nat) : (drain w c).2.drawn = w.drawn := by
  unfold drain
  split <;> rfl
theorem retime_dr (m : Machine) (k : Nat) (t : Timer) (a b : Nat) : (retime m k t a b).2.world.drawn = m.world.drawn := by
  unfold retime
  dsimp only
  split
  · exact drain_dr _ _
  · rfl
theorem named_dr {m m0 : Machine} {var : Addr} {f : Nat → Timer → Value × Machine} (hf : ∀ k t, (f k t).2.world.drawn = m0.world.drawn) {v : Value} {m' : Machine} (h : timerOp.named m var f = .ok (v, m')) : m'.world.drawn = m0.world.drawn := by
  unfold timerOp.named at h
  split at h
  · rename_i k _
    have := hf k (m.rest.timers.getD k default)
    cases hk : f k (m.rest.timers.getD k default) with
    | mk a b =>
      rw [hk] at h this
      cases h
      exact this
  · cases h
theorem opened_dr {m m' : Machine} {var : Addr} (h : timerOp.opened m var = some m') : m'.world.drawn = m.world.drawn := by
  unfold timerOp.opened at h
  split at h
  · split at h <;> cases h
    rfl
  · cases h; rfl
theorem timerOp_dr {m m' : Machine} {op : TimerOp} {v : Value} (h : timerOp m op = .ok (v, m')) : m'.world.drawn = m.world.drawn := by
  unfold timerOp at h
  split at h
  · split at h
    · cases h; rfl
    · split at h
      · split at h
        · cases h
        · cases h; rfl
      · cases h
  · exact named_dr (m0 := m) (fun k t => retime_dr _ _ _ _ _) h
  · split at h
    · rename_i m1 ho
      exact named_dr (m0 := m) (fun k t => (retime_dr m1 k t _ _).trans (opened_dr ho)) h
    · cases h
  · cases h; rfl
theorem runT_S {n : Nat} {p : Program} {m : Machine} {i : Nat} {b : Bool} (h : n ≤ m.world.drawn) : S n (runT p m i b).1 := by
  unfold runT
  dsimp only
  generalize hg : m.gs.swapAt! i { (default : Goroutine) with status := .finished } = q
  obtain ⟨g, gs⟩ := q
  dsimp only
  have hs := stepG_G (p := p) (main := i == 0) (b := b) (g := g) h
  generalize stepG p (i == 0) g m.world b = st at hs
  cases st with
  | ended o w es => trivial
  | comm g cs bl sh w es => exact comm_S hs
  | go g w es => exact hs
  | spawn g c w es => exact hs
  | count g w es =>
    dsimp only
    split
    · trivial
    · exact hs
  | alone g on w es => exact hs
  | collect g w es => exact look_S hs
  | watch g w es => exact hs
  | newcoro g c d w es => exact hs
  | coroswitch g c e w es =>
    dsimp only
    split
    · exact hs
    · split
      · rename_i e2
        exact G_go e2 (endThrow_G hs)
      · trivial
    · trivial
  | timer g op w es =>
    dsimp only
    split
    · rename_i e2
      have h2 := timerOp_dr e2
      show n ≤ _
      rw [h2]
      exact hs
    · split
      · rename_i e2
        exact G_go e2 (endThrow_G hs)
      · trivial
    · trivial
    · trivial
theorem serve_S {n : Nat} {p : Program} {m : Machine} {k : Nat} (h : n ≤ m.world.drawn) : S n (serve p m k) := by
  unfold serve
  split
  · trivial
  · exact h
  · dsimp only
    split
    · trivial
    · exact h
/-- A move. -/
def M (n : Nat) : Move → Prop
  | .goroutine m _ => n ≤ m.world.drawn
  | .machine s _ => S n s
theorem advance_dr (m : Machine) (t : Nat) : (m.advanceTo t).world.drawn = m.world.drawn := rfl
theorem pick_M {n : Nat} {p : Program} {rs : List Nat} {m : Machine} (h : n ≤ m.world.drawn) : M n (match (choose (.sched rs.length)).run p m.world with
      | .halt _ w => .machine (.ended (.stuck "sched" "") w)
      | .ok k world =>
        if rs.length ≤ 1 then .goroutine { m with world } (rs.getD k 0) else
        match (choose (.extern "sched.slice" 65536)).run p world with
        | .halt _ w => .machine (.ended (.stuck "sched.slice" "") w)
        | .ok n world => .goroutine { m with world, rest := { m.rest with slice := if n = 0 then none else some (rs.getD k 0, n) } } (rs.getD k 0)) := by
  split
  · trivial
  · rename_i e
    have h1 := run_e e h
    split
    · exact h1
    · split
      · trivial
      · rename_i e2
        exact run_e e2 h1
theorem askOn_M {n : Nat} {p : Program} {m : Machine} (h : n ≤ m.world.drawn) : M n (askOn p m) := by
  unfold askOn
  dsimp only
  generalize (if (due m.rest.timers m.world.os.mono).isEmpty then pure 0 else choose _ : Sem Nat) = q
  split
  · trivial
  · rename_i e
    have h1 := run_e e h
    clear e h
    split
    · exact serve_S h1
    · split
      · split
        · exact h1
        · split
          · exact h1
          · split
            · trivial
            · trivial
      · split
        · exact pick_M (m := { m with world := _ }) h1
        · split
          · trivial
          · rename_i e2
            exact pick_M (m := { m with world := _ }) (run_e e2 h1)
          · rename_i e2
            have h2 := run_e e2 h1
            exact h2
          · rename_i e2
            have h2 := run_e e2 h1
            exact pick_M (m := Machine.advanceTo { m with world := _ } _) h2
theorem ask_M {n : Nat} {p : Program} {m : Machine} (h : n ≤ m.world.drawn) : M n (ask p m) := by
  unfold ask
  split
  · split
    · trivial
    · rename_i e
      have h1 := run_e e h
      have h2 := look_S (p := p) (gs := m.gs) (rest := m.rest) h1
      split
      · rename_i e2
        rw [e2] at h2
        exact askOn_M h2
      · rename_i e2 _
        first | exact h2 | (split <;> exact h2)
    · rename_i e
      have h1 := run_e e h
      exact askOn_M h1
  · exact askOn_M h
theorem move_M {n : Nat} {p : Program} {m : Machine} (h : n ≤ m.world.drawn) : M n (move p m) := by
  unfold move
  split
  · split
    · exact h
    · trivial
  · split
    · split
      · exact h
      · exact ask_M h
    · exact ask_M h
theorem step_S {n : Nat} {p : Program} {m : Machine} (h : n ≤ m.world.drawn) : S n (step p m) := by
  unfold step stepT
  have hm := move_M (p := p) h
  generalize move p m = mv at hm
  cases mv with
  | goroutine m i => exact runT_S hm
  | machine s ops => exact hm
theorem runN_S {p : Program} : ∀ (k : Nat) {n : Nat} {m : Machine}, n ≤ m.world.drawn → S n (runN p k m)
  | 0, _, _, h => h
  | k + 1, n, m, h => by
    have hs := step_S (p := p) h
    unfold runN
    split
    · rename_i e
      rw [e] at hs
      exact runN_S k hs
    · exact hs
theorem steps_dr {P : Program} {m m' : Machine} (h : Steps P m m') : m.world.drawn ≤ m'.world.drawn := by
  obtain ⟨k, hk⟩ := h
  have := runN_S (p := P) k (Nat.le_refl m.world.drawn)
  rw [hk] at this
  exact this
/-- A CALL THAT RETURNS HAS TAKEN NO DRAW BACK. -/
theorem calls_dr {P : Program} {f : FuncId} {args : Array Value} {w : World} {R : Ending → World → Prop} (h : Calls P f args w R) : Calls P f args w fun e w' => R e w' ∧ ((∃ v, e = .returned v) → w.drawn ≤ w'.drawn) := by
  intro cs
  obtain ⟨e, w', fr, hR, hc, hf, hl⟩ := h cs
  refine ⟨e, w', fr, ⟨hR, ?_⟩, hc, hf, hl⟩
  rintro ⟨v, rfl⟩
  exact steps_dr (m := lone (Frame.enter P f args .normal) cs w) (m' := lone fr cs w') hc
/-- WHAT LIES BELOW IS AS IT WAS: the world is the old one, further on the tape, with more blocks. -/
theorem below_grow {w w' : World} (h : Below w.heap.size w w') (hd : w.drawn ≤ w'.drawn) : ∃ q os, w' = Go.Sort.grow (w.drewN q) os := by
  refine ⟨w'.drawn - w.drawn, w'.heap.extract w.heap.size w'.heap.size, ?_⟩
  obtain ⟨heap, tape, drawn, os, out⟩ := w
  obtain ⟨heap', tape', drawn', os', out'⟩ := w'
  obtain ⟨h1, h2, h3, h4, h5⟩ := h
  simp only at h1 h2 h3 h4 h5 hd
  subst h1 h2 h3
  have e : heap' = heap ++ heap'.extract heap.size heap'.size := by
    apply Array.ext
    · simp; omega
    · intro i hi hi2
      by_cases hlt : i < heap.size
      · rw [Array.getElem_append_left hlt]
        have := h5 i hlt
        rw [Array.getElem?_eq_getElem hi, Array.getElem?_eq_getElem hlt] at this
        exact Option.some.inj this
      · rw [Array.getElem_append_right (by omega)]
        rw [Array.getElem_extract]
        congr 1
        omega
  have e2 : drawn + (drawn' - drawn) = drawn' := by omega
  show _ = ({ heap := heap ++ heap'.extract heap.size heap'.size, tape := tape', drawn := drawn + (drawn' - drawn), os := os', output := out' } : World)
  rw [← e, e2]
theorem calls_grow {P : Program} {f : FuncId} {args : Array Value} {w : World} {v : Value} (h : Calls P f args w fun e w' => e = .returned v ∧ Below w.heap.size w w') : Calls P f args w fun e w' => e = .returned v ∧ ∃ q os, w' = Go.Sort.grow (w.drewN q) os :=
  (calls_dr h).mono fun _ _ ⟨⟨he, hb⟩, hd⟩ => ⟨he, below_grow hb (hd ⟨v, he⟩)⟩
end Go.Proofs.YtecbpohkbniadaaGreat.Drawn
