import Derived.RangeFuncNested
import Derived.RangeFuncBox
import Derived.RangeFuncLeaves
import Derived.RangeFuncBound
import Derived.RangeFuncCalls
import Derived.Test.YtcjkeobjojmpfaaGreatMSlotsM
import Derived.Laws.StructEq
import Derived.BigQuiet
import Derived.BigRegion
import Derived.Deep.QuietTactic
import Derived.Deep.Cut
import Derived.Deep.DeepCutAuto
import Derived.Laws.OwnMore
import Derived.Shelf.Abstract
import Derived.OwnWalkIn
import Derived.TacticsInMore
import Derived.LoopNIn
import Derived.LoopIn
import Derived.WalkMore
import Derived.Test.YtcjkeobjojmpfaaGreatMEvqD
section
/-
  A LAW (as in RangeKept; what the iterator reads may depend on how far it is) for a range over an iterator whose yields are known one by one, and that reads, between them, what the rounds keep; a round may leave the loop, and the loop's variables may be laid anew in each round.
-/
namespace Go.Proofs.YtcjkeobjojmpfaaGreat
open Go Go.RowKit

variable {F : Fence} {n : Nat} {P : Program}

/-- AN ITERATOR that yields encs 0, encs 1 .. up to N, until a round says that it is enough. -/
def SeqKeptK (F : Fence) (n : Nat) (P : Program) (g : Nat) (lb : Array Value) (encs : Nat → Array Value) (N : Nat) (St : Nat → World → Prop) : Prop :=
  ∀ (l : Nat) (J Jx : Nat → World → Prop) (W : World), (∀ k A B, J k A → A.grownBy B none → J k B) → (∀ k A B, Jx k A → A.grownBy B none → Jx k B) → (∀ k W, J k W → St k W) →
    (∀ k W1, k < N → J k W1 → YieldAt F (n - 1) P l (encs k) W1 fun e W' => (e = .returned (.bool true) ∧ J (k + 1) W') ∨ (e = .returned (.bool false) ∧ Jx k W')) →
    J 0 W →
    CallsIn F n P g (#[.func (.yield l) #[] #[]] ++ lb) W fun e W' => (∃ v, e = .returned v) ∧ (J N W' ∨ ∃ k, k < N ∧ Jx k W')

/-- How a round ends. -/
def keptPostK (B : Nat) (I : Nat → World → Prop) (Ix : Code → Nat → World → Prop) (k : Nat) (W : World) : Exit → Act → World → Prop
  | .normal, _, W' => KeepsFrom B W W' ∧ I (k + 1) W'
  | .ret, _, W' => KeepsFrom B W W' ∧ Ix .ret k W'
  | .exit id, _, W' => KeepsFrom B W W' ∧ Ix (.exit id) k W'
  | _, _, _ => False

theorem wpIn_rangeKeptK {g : Operand} {ps : Array Tmp} {assign body : Code} {Q : Exit → Act → World → Prop} {a : Act} {w : World}
    (hro : F.round = none) (h1 : 1 ≤ n) {gf : Nat} {lb : Array Value} (hg : a.eval g = .func (.func gf) #[] lb) (hFg : F.fn gf) (eg : ∀ args w, (callFunc gf args).run P w = .ok (.enter gf args) w)
    {encs : Nat → Array Value} {N : Nat} {St : Nat → World → Prop} (hseq : SeqKeptK F (n - 1) P gf lb encs N St)
    (hps : ∀ k, (encs k).size = ps.size)
    (I : Nat → World → Prop) (Ix : Code → Nat → World → Prop) (hSt : ∀ k W, I k W → St k W) (hI : OwnFrom w.heap.size I) (hIx : ∀ c, OwnFrom w.heap.size (Ix c)) (h0 : I 0 w)
    (Ax : Nat → Act → World → Prop) (hAx : ∀ k a', OwnFrom w.heap.size (fun (_ : Unit) W => Ax k a' W))
    (hassign : ∀ (l k : Nat) (W : World) (K : Act → World → Prop), k < N → I k W → (∀ a' W', KeepsFrom w.heap.size W W' → I k W' → Ax k a' W' → K a' W') →
      assign.wpIn (F.inRound l) (n - 1 - 1) P (Exit.then K (fun _ _ _ => False)) { tmps := (ps.zip (encs k)).foldl (fun t (p, v) => t.setIfInBounds p v) a.tmps, defers := [] } W)
    (hbody : ∀ (l k : Nat) (a' : Act) (W : World), k < N → I k W → Ax k a' W → body.wpIn (F.inRound l) (n - 1 - 1) P (keptPostK w.heap.size I Ix k W) a' W)
    (hdone : ∀ (D : Nat) (W : World), w.heap.size ≤ D → I N W → W.heap[D]? = some (.deferred (some [])) → Q .normal { a with defers := { target := .collected D, args := #[] } :: a.defers } W)
    (hstop : ∀ (D : Nat) (c : Code) (k : Nat) (W : World), w.heap.size ≤ D → k < N → Ix c k W → W.heap[D]? = some (.deferred (some [])) → c.wpIn F n P Q { a with defers := { target := .collected D, args := #[] } :: a.defers } W) :
    (Code.rangeFunc g ps assign body).wpIn F n P Q a w := by
  refine wpIn_rangeFunc fun fn hfn => ?_
  rw [hro]
  obtain ⟨L, hL⟩ : ∃ L, L = w.heap.size := ⟨_, rfl⟩
  obtain ⟨rec, hrec⟩ : ∃ rec : LoopState → Option Code → Loop, rec = fun st pe => { state := st, pending := pe, fn, tmps := a.tmps, params := ps, assign, body, defers := w.heap.size } := ⟨_, rfl⟩
  obtain ⟨W1, hW1⟩ : ∃ W1, W1 = (w.alloc (.deferred (some []))).alloc (.loop (rec .ready none)) := ⟨_, rfl⟩
  have hrdy : W1.heap[L + 1]? = some (.loop (rec .ready none)) := by
    have := World.alloc_heap_new (w.alloc (.deferred (some []))) (.loop (rec .ready none))
    rwa [World.size_alloc, ← hW1, ← hL] at this
  have hdef : W1.heap[L]? = some (.deferred (some [])) := by
    rw [hW1, hL]; exact (Below.heap_alloc _ _ _ (by simp)).trans (World.alloc_heap_new w _)
  have hstart : I 0 W1 := by rw [hW1]; exact hI.alloc _ (hI.alloc _ h0)
  have hkeep : ∀ {A B : World} {k : Nat} {o : Obj}, A.grownBy B none → A.heap[k]? = some o → B.heap[k]? = some o := fun hgr hk => (hgr.block _ (Array.getElem?_eq_some_iff.1 hk).1 (by simp)).trans hk
  refine ⟨L + 1, [{ target := .collected L, args := #[] }], W1, { target := .fn (.func gf) lb, args := #[.func (.yield (L + 1)) #[] #[]] }, W1, gf, #[.func (.yield (L + 1)) #[] #[]] ++ lb, W1, ?_, ?_, ?_, ?_, fun _ => h1, ?_⟩
  · rw [hW1, hrec, hL]; exact run_enterLoop_outer _ _ _ _ _
  · simp only [resolve, hg]
    simp [go_sem]
  · intro f' hf'
    simp [Target.leads] at hf'
    subst hf'
    exact hFg
  · simp [invoke, go_sem, eg]
  · refine (hseq (L + 1) (fun k W => I k W ∧ W.heap[L + 1]? = some (.loop (rec .ready none)) ∧ W.heap[L]? = some (.deferred (some [])))
      (fun k W => ∃ c, Ix c k W ∧ W.heap[L + 1]? = some (.loop (rec .done (some c))) ∧ W.heap[L]? = some (.deferred (some []))) W1
      (fun k A B hs hgr => ⟨hI k A B none hs.1 hgr (fun r e => by cases e), hkeep hgr hs.2.1, hkeep hgr hs.2.2⟩)
      (fun k A B hs hgr => by obtain ⟨c, h1, h2, h3⟩ := hs; exact ⟨c, hIx c k A B none h1 hgr (fun r e => by cases e), hkeep hgr h2, hkeep hgr h3⟩) (fun k W h => hSt k W h.1) ?_ ⟨hstart, hrdy, hdef⟩).mono ?_
    · rintro k W hkN ⟨hi, hl, hk⟩
      have hy := run_yield (P := P) (args := encs k) hl (by rw [hrec]; exact hps k)
      rw [hrec] at hy
      refine ⟨fn, _, assign, body, hy, roundIn_of_wpIn hfn (hassign _ k W _ hkN hi ?_)⟩
      clear hy
      intro a' Wa hkf hia hax
      have hla := hkf.same _ _ (by omega) hl rfl
      have hka := hkf.same _ _ (by omega) hk rfl
      have hlt : L + 1 < Wa.heap.size := (Array.getElem?_eq_some_iff.1 hla).1
      refine ⟨_, run_beginRound hla (by rw [hrec]), ?_⟩
      obtain ⟨V, hV⟩ : ∃ V, V = Wa.putObj (L + 1) (.loop { rec .ready none with state := .busy }) := ⟨_, rfl⟩
      have hl2 : V.heap[L + 1]? = some (.loop { rec .ready none with state := .busy }) := by rw [hV]; exact World.putObj_heap_same hlt
      have hk2 : V.heap[L]? = some (.deferred (some [])) := by rw [hV]; exact (World.putObj_heap_other (by omega)).trans hka
      have hi2 : I k V := by rw [hV]; exact hI.putObj _ hia (by omega) hla rfl
      have hx2 : Ax k a' V := by rw [hV]; exact (hAx k a').putObj (s := ()) _ hax (by omega) hla rfl
      rw [← hV]
      refine wpIn_mono (hbody _ k a' V hkN hi2 hx2) ?_
      have fin : ∀ (jump : Option Code) (W3 : World), KeepsFrom w.heap.size V W3 →
          (Instr.endRound (L + 1) jump).run P W3 = .ok (.bool jump.isNone) (W3.putObj (L + 1) (.loop (rec (if jump.isNone then .ready else .done) jump))) ∧
          (∃ o, W3.heap[L + 1]? = some o ∧ o.isCells = false) ∧
          (W3.putObj (L + 1) (.loop (rec (if jump.isNone then .ready else .done) jump))).heap[L + 1]? = some (.loop (rec (if jump.isNone then .ready else .done) jump)) ∧
          (W3.putObj (L + 1) (.loop (rec (if jump.isNone then .ready else .done) jump))).heap[L]? = some (.deferred (some [])) := fun jump W3 hk3 => by
        have hl3 := hk3.same _ _ (by omega) hl2 rfl
        have hd3 := hk3.same _ _ (by omega) hk2 rfl
        have hr := run_endRound (P := P) jump hl3
        have hlt3 : L + 1 < W3.heap.size := (Array.getElem?_eq_some_iff.1 hl3).1
        rw [hrec] at hr ⊢
        exact ⟨hr, ⟨_, hl3, rfl⟩, World.putObj_heap_same hlt3, (World.putObj_heap_other (by omega)).trans hd3⟩
      rintro e a3 W3 hp
      cases e with
      | normal =>
        obtain ⟨hk3, hi3⟩ := hp
        obtain ⟨hr, ⟨o, ho, hc⟩, hl4, hk4⟩ := fin none W3 hk3
        exact ⟨_, _, hr, .inl ⟨rfl, hI.putObj _ hi3 (by omega) ho hc, hl4, hk4⟩⟩
      | ret =>
        obtain ⟨hk3, hi3⟩ := hp
        obtain ⟨hr, ⟨o, ho, hc⟩, hl4, hk4⟩ := fin (some .ret) W3 hk3
        exact ⟨_, _, hr, .inr ⟨rfl, .ret, (hIx _).putObj _ hi3 (by omega) ho hc, hl4, hk4⟩⟩
      | exit id =>
        obtain ⟨hk3, hi3⟩ := hp
        obtain ⟨hr, ⟨o, ho, hc⟩, hl4, hk4⟩ := fin (some (.exit id)) W3 hk3
        exact ⟨_, _, hr, .inr ⟨rfl, .exit id, (hIx _).putObj _ hi3 (by omega) ho hc, hl4, hk4⟩⟩
      | goto t => exact hp.elim
      | panic ch => exact hp.elim
      | outgrown => exact hp.elim
    · rintro e W2 ⟨⟨v, rfl⟩, (⟨hi, hl, hk⟩ | ⟨k, hkN, c, hi, hl, hk⟩)⟩
      · have hr := run_endLoop (P := P) hl (by rw [hrec]; simp)
        rw [hrec] at hr
        exact ⟨none, _, hr, hdone L _ (by omega) (hI.putObj _ hi (by omega) hl rfl) ((World.putObj_heap_other (by omega)).trans hk)⟩
      · have hr := run_endLoop (P := P) hl (by rw [hrec]; simp)
        rw [hrec] at hr
        exact ⟨some c, _, hr, hstop L c k _ (by omega) hkN ((hIx c).putObj _ hi (by omega) hl rfl) ((World.putObj_heap_other (by omega)).trans hk)⟩
end Go.Proofs.YtcjkeobjojmpfaaGreat
end

section
/-
  CONTRACTS of slots' is, there, Live, Look, Counts, link.
-/
namespace Go.Proofs.YtcjkeobjojmpfaaGreat.Sl
open Go.RowKit

theorem refFields : Tryz.prog.underlying 94 = some (.struct (Tryz.prog.fieldsOf 94)) := by kernel_rfl
theorem refHeld : Tryz.prog.stoodInHeld 94 = false := by kernel_rfl
theorem equalR (a1 a2 b1 b2 : Int) (w : World) : (Op.equalIn 10000 94 (.agg #[.int .i64 a1, .int .i64 a2]) (.agg #[.int .i64 b1, .int .i64 b2])).run Tryz.prog w = .ok (decide ((a1, a2) = (b1, b2))) w := by
  rw [run_equalIn_struct (P := Tryz.prog) w 9999 94 _ _ refFields refHeld]
  by_cases h1 : a1 = b1
  · by_cases h2 : a2 = b2
    · subst h1 h2
      simp [Op.eqFields, go_sem, Program.fieldsOf, Tryz.underlying94]
    · subst h1
      simp [Op.eqFields, go_sem, Program.fieldsOf, Tryz.underlying94, h2]
  · simp [Op.eqFields, go_sem, Program.fieldsOf, Tryz.underlying94, h1]
theorem eqlR (a1 a2 b1 b2 : Int) (w : World) : (binOp .eql 94 (.agg #[.int .i64 a1, .int .i64 a2]) (.agg #[.int .i64 b1, .int .i64 b2])).run Tryz.prog w = .ok (.bool (decide ((a1, a2) = (b1, b2)))) w := by
  rw [run_eql_struct, equalR]; rfl
theorem neqR (a1 a2 b1 b2 : Int) (w : World) : (binOp .neq 94 (.agg #[.int .i64 a1, .int .i64 a2]) (.agg #[.int .i64 b1, .int .i64 b2])).run Tryz.prog w = .ok (.bool (!decide ((a1, a2) = (b1, b2)))) w := by
  rw [run_neq_struct, equalR]; rfl

set_option maxHeartbeats 1000000 in
theorem is_calls {w : World} {q g n k t wo : Nat} {f : Int} (s : w.heap[q]? = some (ownS g n k f t wo)) :
    Calls Tryz.prog 79 #[.pointer (some ⟨q, 0, none⟩)] w fun e w' => e = .returned (.bool true) ∧ w = w' := by
  obtain ⟨-, -, -, -, -, c5, -⟩ := ownS_cells s
  clear s
  go_enter Tryz.func79, Tryz.ntmps79
  go_wp2
  go_ret
  exact ⟨rfl, rfl⟩
set_option maxHeartbeats 1000000 in
theorem there_yes {w : World} {q g n k t wo : Nat} {f : Int} (s : w.heap[q]? = some (ownS g n k f t wo)) (p : Nat) (hp : p < n) :
    Calls Tryz.prog 113 #[.pointer (some ⟨q, 0, none⟩), .int .i64 (p : Int)] w fun e w' => e = .returned (.bool true) ∧ w = w' := by
  obtain ⟨c0, -⟩ := ownS_cells s
  have HI := Lib.hid (is_calls s)
  have h1 : (p : Int) ≥ 0 := by omega
  have h2 : (p : Int) < (n : Int) := by omega
  clear s
  go_enter Tryz.func113, Tryz.ntmps113
  go_wp2_with (first | (go_at_call 79; refine HI.out.mono ?_; rintro e w' ⟨rfl, rfl⟩) | fail)
  go_ret
  exact ⟨rfl, rfl⟩
set_option maxHeartbeats 1000000 in
theorem there_no {w : World} {q g n k t wo : Nat} {f : Int} (s : w.heap[q]? = some (ownS g n k f t wo)) (p : Int) (hp : p < 0 ∨ (n : Int) ≤ p) :
    Calls Tryz.prog 113 #[.pointer (some ⟨q, 0, none⟩), .int .i64 p] w fun e w' => e = .returned (.bool false) ∧ w = w' := by
  obtain ⟨c0, -⟩ := ownS_cells s
  have HI := Lib.hid (is_calls s)
  clear s
  rcases hp with hp | hp
  · have h1 : ¬ p ≥ 0 := by omega
    go_enter Tryz.func113, Tryz.ntmps113
    go_wp2_with (first | (go_at_call 79; refine HI.out.mono ?_; rintro e w' ⟨rfl, rfl⟩) | fail)
    go_ret
    exact ⟨rfl, rfl⟩
  · have h1 : p ≥ 0 := by omega
    have h2 : ¬ p < (n : Int) := by omega
    go_enter Tryz.func113, Tryz.ntmps113
    go_wp2_with (first | (go_at_call 79; refine HI.out.mono ?_; rintro e w' ⟨rfl, rfl⟩) | fail)
    go_ret
    exact ⟨by simp [h2], rfl⟩
/-- Whether a reference is live. -/
def liveT (n : Nat) (S : Tb) (P L : Int) : Bool := decide (0 ≤ P) && decide (P < n) && S.tk P.toNat && decide ((S.life P.toNat : Int) = L)
theorem liveT_nat {n : Nat} {S : Tb} {p : Nat} (hp : p < n) (L : Int) : liveT n S (p : Int) L = (S.tk p && decide ((S.life p : Int) = L)) := by
  unfold liveT
  have h1 : (0 : Int) ≤ (p : Int) := by omega
  have h2 : (p : Int) < (n : Int) := by omega
  simp [h1, h2]
theorem liveT_out {n : Nat} {S : Tb} {P : Int} (hp : P < 0 ∨ (n : Int) ≤ P) (L : Int) : liveT n S P L = false := by
  unfold liveT
  rcases hp with h | h
  · have : ¬ (0 : Int) ≤ P := by omega
    simp [this]
  · have : ¬ P < (n : Int) := by omega
    simp [this]
theorem blk_drew {w : World} {b : Nat} {o : Option Obj} (h : w.heap[b]? = o) : w.drew.heap[b]? = o := h
theorem below_drN {B : Nat} {a w : World} (h : Below B a w) (m : Nat) : Below B a (w.drewN m) := h.trans ⟨rfl, rfl, rfl, Nat.le_refl _, fun _ _ => rfl⟩
section
variable {w : World} {q g n k : Nat} {S : Tb}
theorem below_ref (w : World) (P L : Int) : Below w.heap.size w (w.alloc (.cells #[.int .i64 P, .int .i64 L] 94)) := (Below.refl _ w).alloc (Nat.le_refl _) _
set_option maxHeartbeats 2000000 in
theorem live_calls (h : TA w q g n k S) (P L : Int) :
    Calls Tryz.prog 90 #[.pointer (some ⟨q, 0, none⟩), .agg #[.int .i64 P, .int .i64 L]] w fun e w' => e = .returned (.bool (liveT n S P L)) ∧ Below w.heap.size w w' := by
  have mixed : Tryz.prog.follows .mixedOrders = true := by kernel_rfl
  have h1 := h.below (below_ref w P L)
  obtain ⟨nx, f, h1⟩ := h1.ex
  obtain ⟨c0, -⟩ := ownS_cells h1.own
  by_cases hp : P < 0 ∨ (n : Int) ≤ P
  · rw [liveT_out hp]
    have HT := Lib.hid (fun m => there_no (w := (w.alloc (.cells #[.int .i64 P, .int .i64 L] 94)).drewN m) h1.own P hp)
    clear h h1 hp
    go_enter Tryz.func90, Tryz.ntmps90
    go_upto_region 1 with fail
    go_quiet ((go_at_call 113; exact (HT.out _).mono fun e w' h => ⟨h.1, _, h.2.symm⟩))
    go_wp2_with fail
    go_ret
    exact ⟨rfl, below_drN (below_ref w P L) _⟩
  · obtain ⟨p, rfl⟩ : ∃ p : Nat, P = (p : Int) := ⟨P.toNat, by omega⟩
    have hp1 : p < n := by omega
    have HT := Lib.hid (fun m => there_yes (w := (w.alloc (.cells #[.int .i64 (p : Int), .int .i64 L] 94)).drewN m) h1.own p hp1)
    obtain ⟨x0, x1, x2, x3⟩ := h1.row.cell p hp1
    rw [liveT_nat hp1]
    have hpos := h1.ok.pos p hp1
    have hp2 : (p : Int) < (n : Int) := by omega
    unfold lpN at x0
    cases ht : S.tk p with
    | false =>
      rw [ht] at x2
      clear h h1 hp x3 hp1 hpos ht
      go_enter Tryz.func90, Tryz.ntmps90
      go_upto_region 1 with fail
      go_quiet ((go_at_call 113; exact (HT.out _).mono fun e w' h => ⟨h.1, _, h.2.symm⟩))
      go_wp2_with fail
      go_ret
      exact ⟨rfl, below_drN (below_ref w p L) _⟩
    | true =>
      have hl1 := hpos ht
      rw [ht] at x2
      rw [if_neg (by omega)] at x0
      have hE := eqlR p (S.life p) p L
      have hD : decide (((p : Int), (S.life p : Int)) = ((p : Int), L)) = decide ((S.life p : Int) = L) := by simp
      rw [hD] at hE
      clear h h1 hp x3 hp1 hpos ht hD hl1
      generalize (S.life p : Int) = LL at *
      go_enter Tryz.func90, Tryz.ntmps90
      go_upto_region 1 with fail
      go_quiet ((go_at_call 113; exact (HT.out _).mono fun e w' h => ⟨h.1, _, h.2.symm⟩))
      go_wp2_with fail
      go_ret
      exact ⟨by simp, below_drN (below_ref w p L) _⟩
set_option maxHeartbeats 4000000 in
/-- link, of a place that is in no list. -/
theorem link_raw {t wo : Nat} {f : Int} {nx : Nat → Int} (h1 : w.heap[q]? = some (ownS g n k f t wo)) (h2 : SRow w g n S nx) (hne : q ≠ g) (p : Nat) (hp : p < n) :
    Calls Tryz.prog 76 #[.pointer (some ⟨q, 0, none⟩), .int .i64 (p : Int)] w fun e w' => e = .returned (.tuple #[]) ∧ w'.heap[q]? = some (ownS g n k (p : Int) t wo) ∧ SRow w' g n S (fun r => if r = p then f else nx r) ∧ Off (Q2 q g) w w' := by
  have mixed : Tryz.prog.follows .mixedOrders = true := by kernel_rfl
  obtain ⟨c0, c1, -, -, -, -, cf⟩ := ownS_cells h1
  obtain ⟨-, -, -, x3⟩ := h2.cell p hp
  have gf := h2.frozen
  have hp2 : (p : Int) < (n : Int) := by omega
  have H1 := Lib.hid h1
  have H2 := Lib.hid h2
  have HP := Lib.hid hp
  clear h1 h2 hp
  go_enter Tryz.func76, Tryz.ntmps76
  go_wp2_with fail
  go_region
  all_goals
    go_wp2_with fail
    refine bodyPost_end (results_none rfl _ _ _) rfl ?_
    have hq := (heap_setO w (p * 4 + 3) (.int .i64 f) hne).trans H1.out
    exact ⟨rfl, blk_drew (ownS_first hq p), ((H2.out.next HP.out f).keep (heap_setO _ _ _ (Ne.symm hne))).keep rfl, (((Off.refl _ _).set (.inl (.inr rfl)) _ _).set (.inl (.inl rfl)) _ _).drew⟩
end
end Go.Proofs.YtcjkeobjojmpfaaGreat.Sl
end

section
/-
  CONTRACTS of slices.Backward at spots, and of slots' New.
-/
namespace Go.Proofs.YtcjkeobjojmpfaaGreat.Sl
open Go.RowKit

attribute [local go_sem] Oper.semAt_some

theorem info_spot : (Tryz.prog.info? 136).map (fun i => (i.zero, i.size, i.bytes)) = some (some (.agg #[.int .i64 0, .int .i64 0, .bool false, .int .i64 0]), 4, 32) := by kernel_rfl
theorem made4 (a b c d : Value) (N j : Nat) (h : j < N) : (madeCells #[a, b, c, d] N)[j]? = some (#[a, b, c, d][j % 4]!) := by
  unfold madeCells
  rw [Array.getElem?_map, Array.getElem?_range, if_pos h]
  rfl
theorem make_spots (n : Nat) (hn : n ≤ 1024) (w : World) : ∃ w', (Instr.makeSlice 129 (.int .i64 (n : Int)) (.int .i64 (n : Int))).run Tryz.prog w = .ok (.slice (some ⟨w.heap.size, 0, none⟩) n n) w' ∧ SRow w' w.heap.size n (newT n) (fun _ => 0) ∧ Below w.heap.size w w' := by
  obtain ⟨i0, hi, hz0, hz1, hz2⟩ := info_parts info_spot
  obtain ⟨w', hr, h2, h3⟩ := run_make_full (P := Tryz.prog) w w.heap.size 129 136 i0 _ 4 Tryz.underlying129 hi hz0 hz1 .i64 .i64 n (by rw [hz2]; omega) (by unfold maxLen; omega) (Nat.le_refl _)
  refine ⟨w', hr, ?_, ⟨h3.os, h3.tape, h3.output, h3.size, fun k hk => h3.block k hk (by simp)⟩⟩
  obtain ⟨_, ⟨e, _⟩ | ⟨g, cap, cur, e, _, hg, hn2, hm, hs, ht⟩⟩ := h2
  · cases e
  · cases e
    refine ⟨⟨cur, hg, hs⟩, fun p hp => ?_⟩
    have cc : ∀ j, j < n * 4 → w'.cell? ⟨w.heap.size, j, none⟩ = some (#[Value.int .i64 0, .int .i64 0, .bool false, .int .i64 0][j % 4]!) := fun j hj => by
      have h1 : w'.cell? ⟨w.heap.size, j, none⟩ = cur[j]? := by simp [World.cell?, hg]
      have h4 : (cur.toList.take (n * 4))[j]? = (madeCells #[Value.int .i64 0, .int .i64 0, .bool false, .int .i64 0] (n * 4)).toList[j]? := by rw [ht]; rfl
      rw [List.getElem?_take_of_lt hj, Array.getElem?_toList, Array.getElem?_toList, made4 _ _ _ _ _ _ hj] at h4
      rw [h1, h4]
    rw [cc _ (by omega), cc _ (by omega), cc _ (by omega), cc _ (by omega)]
    rw [show p * 4 % 4 = 0 by omega, show (p * 4 + 1) % 4 = 1 by omega, show (p * 4 + 2) % 4 = 2 by omega, show (p * 4 + 3) % 4 = 3 by omega]
    exact ⟨rfl, rfl, rfl, rfl⟩
set_option maxHeartbeats 1000000 in
theorem bwdS_calls (a : Option Addr) (m c : Nat) (w : World) :
    Calls Tryz.prog 75 #[.slice a m c] w fun e w' => e = .returned (.func (.func 103) #[] #[.pointer (some ⟨w.heap.size, 0, none⟩)]) ∧ w' = w.alloc (.cells #[.slice a m c] 129) := by
  go_enter Tryz.func75, Tryz.ntmps75
  go_wp2
  go_ret
  exact ⟨rfl, rfl⟩
/-- What the iterator reads, k places from the end. -/
def BwdS (Bt g n : Nat) (k : Nat) (W : World) : Prop := Boxed W Bt 129 (.slice (some ⟨g, 0, none⟩) n n) ∧ ∀ p, p + k + 1 = n → W.cell? ⟨g, p * 4, none⟩ = some (.int .i64 0) ∧ W.cell? ⟨g, p * 4 + 1, none⟩ = some (.int .i64 0) ∧ W.cell? ⟨g, p * 4 + 2, none⟩ = some (.bool false) ∧ W.cell? ⟨g, p * 4 + 3, none⟩ = some (.int .i64 0)
set_option maxRecDepth 100000 in
set_option maxHeartbeats 2000000 in
theorem bwdS_kept (r : Nat) (hr : 1 ≤ r) (Bt g n : Nat) (hn : n ≤ 1024) :
    SeqKeptK Fence.wide r Tryz.prog 103 #[.pointer (some ⟨Bt, 0, none⟩)] (fun k => #[.int .i64 ((n - 1 - k : Nat) : Int), .agg #[.int .i64 0, .int .i64 0, .bool false, .int .i64 0]]) n (BwdS Bt g n) := by
  intro l J Jx W hJA hJx hSt hY h0
  have hY0 := Lib.hid hY
  have hJ0 := Lib.hid hJA
  have hS0 := Lib.hid hSt
  have HJ00 := Lib.hid h0
  obtain ⟨k1, -⟩ := hSt 0 W h0
  have c1 := k1.cell
  have hw1 : IntKind.i64.wrap ((n : Int) - 1) = (n : Int) - 1 := by rw [IntKind.wrap_i64]; omega
  clear hY hJA hJx hSt h0 k1
  refine callsIn_of_wp Tryz.func103 rfl trivial ?_ rfl
  simp only [Tryz.ntmps103, List.size_toArray, List.length_cons, List.length_nil, Nat.reduceAdd, Nat.reduceSub, Array.replicate_succ, Array.replicate_zero, List.push_toArray, List.append_toArray, List.nil_append, List.cons_append]
  gi_wp2
  gi_loopw [3] (fun jv wr => ∃ k : Nat, k ≤ n ∧ jv = .int .i64 ((n : Int) - 1 - (k : Int)) ∧ J k wr) (fun jv _ => (intOf jv + 1).toNat)
  case atStart => exact ⟨0, Nat.zero_le _, by simp, HJ00.out⟩
  case round =>
    obtain ⟨k, hk, rfl, hJ⟩ := hrel
    have HJ := Lib.hid hJ
    obtain ⟨k1, k2⟩ := hS0.out k wr hJ
    have c2 := k1.cell
    clear hJ k1 c1
    by_cases hlt : k < n
    · obtain ⟨p, hp⟩ : ∃ p : Nat, p + k + 1 = n := ⟨n - 1 - k, by omega⟩
      have e0 : (n : Int) - 1 - (k : Int) = (p : Int) := by omega
      have e0' : n - 1 - k = p := by omega
      obtain ⟨x0, x1, x2, x3⟩ := k2 p hp
      have e1 : (p : Int) < (n : Int) := by omega
      have e2 : (p : Int) ≥ 0 := by omega
      have hw2 : IntKind.i64.wrap ((p : Int) - 1) = (p : Int) - 1 := by rw [IntKind.wrap_i64]; omega
      obtain ⟨fn, tmps, assign, body, hy, hR⟩ := hY0.out k _ hlt HJ.out
      rw [e0'] at hy
      have HR := Lib.hid hR
      have HN := Lib.hid hp
      rw [e0]
      clear hR k2 e0 e0' hp
      gi_wp2_with fail
      refine HR.out.mono ?_
      rintro e W3 (⟨rfl, hJ3⟩ | ⟨rfl, hJx3⟩)
      · have HJ3 := Lib.hid hJ3
        clear hJ3
        gi_wp2
        go_roundw
        case rel => exact ⟨k + 1, hlt, by have := HN.out; congr 1; omega, HJ3.out⟩
        case measure => simp [intOf]
      · gi_wp2
        refine bodyPost_ret (results_none rfl _ _ _) rfl ?_
        exact ⟨⟨_, rfl⟩, .inr ⟨k, hlt, hJx3⟩⟩
    · obtain rfl : k = n := by omega
      have e2 : ¬ (k : Int) - 1 - (k : Int) ≥ 0 := by omega
      clear k2 hlt
      gi_wp2
      refine bodyPost_end (results_none rfl _ _ _) rfl ?_
      exact ⟨⟨_, rfl⟩, .inl HJ.out⟩

theorem SRow.congr {w : World} {g n : Nat} {S : Tb} {nx ny : Nat → Int} (h : SRow w g n S nx) (e : ∀ p, p < n → ny p = nx p) : SRow w g n S ny :=
  ⟨h.blk, fun p hp => by rw [e p hp]; exact h.cell p hp⟩
theorem TA.cells {w w' : World} {q g n k : Nat} {S : Tb} (h : TA w q g n k S) (hc : KeepsCells w w') : TA w' q g n k S := by
  obtain ⟨nx, f, h⟩ := h.ex
  obtain ⟨cur, hcu, _⟩ := h.row.blk
  exact ⟨nx, f, h.keep ((hc _ _ h.own rfl).trans h.own.symm) ((hc _ _ hcu rfl).trans hcu.symm)⟩
theorem cells_two {w : World} {q g n k t wo : Nat} {f : Int} {S : Tb} {nx : Nat → Int} (h1 : w.heap[q]? = some (ownS g n k f t wo)) (h2 : SRow w g n S nx) : ∀ (j : Nat) (o : Obj), Q2 q g j → w.heap[j]? = some o → o.isCells = true := by
  rintro j o (rfl | rfl) ho
  · rw [h1] at ho; cases ho; rfl
  · obtain ⟨cur, hcu, _⟩ := h2.blk
    rw [hcu] at ho; cases ho; rfl
/-- How New's loop stands after k rounds. -/
structure NewAt (w W : World) (q g n lv : Nat) (sb bt : Nat) (k : Nat) : Prop where
  own : W.heap[q]? = some (ownS g n lv (if k = 0 then -1 else ((n - k : Nat) : Int)) 0 0)
  row : SRow W g n (newT n) (fun p => if n - k ≤ p then (if p + 1 < n then ((p + 1 : Nat) : Int) else -1) else 0)
  sbx : Boxed W sb 85 (.pointer (some ⟨q, 0, none⟩))
  btx : Boxed W bt 129 (.slice (some ⟨g, 0, none⟩) n n)
  bel : Below w.heap.size w W
theorem NewAt.own' {w W : World} {q g n lv sb bt : Nat} (h1 : 1 ≤ lv) (h : NewAt w W q g n lv sb bt n) : W.heap[q]? = some (ownS g n lv (if n = 0 then -1 else 0) (cnt n (newT n).tk) (cnt n (wornF lv (newT n)))) := by
  have e1 : cnt n (newT n).tk = 0 := cnt_none n _ fun _ _ => rfl
  have e2 : cnt n (wornF lv (newT n)) = 0 := cnt_none n _ fun p _ => by
    show (!false && decide (0 = lv)) = false
    have : ¬ 0 = lv := by omega
    simp [this]
  rw [e1, e2]
  have := h.own
  rw [Nat.sub_self] at this
  exact this
theorem NewAt.links {w W : World} {q g n lv sb bt : Nat} (_ : NewAt w W q g n lv sb bt n) : Links (fun p => if n - n ≤ p then (if p + 1 < n then ((p + 1 : Nat) : Int) else -1) else 0) (if n = 0 then -1 else 0) (newT n).free := by
  have h := links_range n n (Nat.le_refl _) (fun p => if n - n ≤ p then (if p + 1 < n then ((p + 1 : Nat) : Int) else -1) else 0) (fun p _ _ => by rw [if_pos (by omega)])
  rw [Nat.sub_self, List.drop_zero] at h
  show Links _ _ (List.range n)
  simpa using h
theorem NewAt.keep {w W W' : World} {q g n lv sb bt k : Nat} (h : NewAt w W q g n lv sb bt k) (hc : KeepsCells W W') (hb : Below w.heap.size w W') : NewAt w W' q g n lv sb bt k := by
  obtain ⟨cur, hcu, _⟩ := h.row.blk
  exact ⟨hc _ _ h.own rfl, h.row.keep ((hc _ _ hcu rfl).trans hcu.symm), hc _ _ h.sbx rfl, hc _ _ h.btx rfl, hb⟩
set_option maxRecDepth 100000 in
set_option maxHeartbeats 4000000 in
theorem new_in (r : Nat) (hr : 5 ≤ r) (n lv : Nat) (hn : n ≤ 1024) (h1 : 1 ≤ lv) (h2 : lv ≤ 4294967296) (w : World) :
    CallsIn Fence.wide r Tryz.prog 57 #[.int .i64 (n : Int), .int .i64 (lv : Int)] w fun e w' => ∃ q g, e = .returned (.tuple #[.pointer (some ⟨q, 0, none⟩), .int .i64 0]) ∧ TA w' q g n lv (newT n) ∧ Below w.heap.size w w' ∧ w.heap.size ≤ q ∧ w.heap.size ≤ g := by
  have e1 : ¬ (n : Int) < 0 := by omega
  have e2 : ¬ (n : Int) > 1024 := by omega
  have e3 : ¬ (lv : Int) < 1 := by omega
  have e4 : ¬ (lv : Int) > 4294967296 := by omega
  obtain ⟨w1, hmk, hrow1, hb1⟩ := make_spots n hn w
  have HR1 := Lib.hid hrow1
  have HB1 := Lib.hid hb1
  have HN := Lib.hid hn
  have HL := Lib.hid (And.intro h1 h2)
  clear hrow1 hb1 hn h1 h2
  refine callsIn_of_wp_marks Tryz.func57 rfl trivial ?_ rfl
  simp only [Tryz.ntmps57, List.size_toArray, List.length_cons, List.length_nil, Nat.reduceAdd, Nat.reduceSub, Array.replicate_succ, Array.replicate_zero, List.push_toArray, List.append_toArray, List.nil_append, List.cons_append]
  gi_wp2_with fail
  refine ⟨trivial, (by intro _; omega), ((callsIn_wide (n := r - 1)).2 (bwdS_calls _ _ _ _)).mono ?_⟩
  rintro e w3 ⟨rfl, rfl⟩
  have hq : w1.heap.size ≠ w.heap.size := by have := HR1.out.lt; omega
  have hs : w.heap.size ≤ w1.heap.size := HB1.out.size
  obtain ⟨W0, hW0⟩ : ∃ W0, W0 = ((w1.alloc (.cells #[.slice (some ⟨w.heap.size, 0, none⟩) n n, .int .i64 (-1), .int .i64 (lv : Int), .int .i64 0, .int .i64 0, .bool true] 131)).alloc (.cells #[.pointer (some ⟨w1.heap.size, 0, none⟩)] 85)).alloc (.cells #[.slice (some ⟨w.heap.size, 0, none⟩) n n] 129) := ⟨_, rfl⟩
  have hsz : W0.heap.size = w1.heap.size + 1 + 1 + 1 := by rw [hW0]; simp
  have hb0 : Below w1.heap.size w1 W0 := by
    rw [hW0]
    exact (((Below.refl _ _).alloc (Nat.le_refl _) _).alloc (by simp) _).alloc (by simp; omega) _
  have h0 : NewAt w W0 w1.heap.size w.heap.size n lv (w1.heap.size + 1) (w1.heap.size + 1 + 1) 0 := by
    have x1 : W0.heap[w1.heap.size]? = some (ownS w.heap.size n lv (-1) 0 0) := by
      rw [hW0]
      exact (Below.heap_alloc _ _ _ (by simp; omega)).trans ((Below.heap_alloc _ _ _ (by simp)).trans (World.alloc_heap_new w1 _))
    refine ⟨x1, ?_, ?_, ?_, HB1.out.trans (hb0.mono hs)⟩
    · have := HR1.out.keep (hb0.block _ HR1.out.lt)
      refine ⟨this.blk, fun p hp => ?_⟩
      have c := this.cell p hp
      rw [if_neg (by omega)]
      exact c
    · rw [hW0]
      have := (Boxed.new (w1.alloc (.cells #[.slice (some ⟨w.heap.size, 0, none⟩) n n, .int .i64 (-1), .int .i64 (lv : Int), .int .i64 0, .int .i64 0, .bool true] 131)) 85 (.pointer (some ⟨w1.heap.size, 0, none⟩))).alloc (.cells #[.slice (some ⟨w.heap.size, 0, none⟩) n n] 129)
      simpa only [World.size_alloc] using this
    · rw [hW0]
      have := Boxed.new ((w1.alloc (.cells #[.slice (some ⟨w.heap.size, 0, none⟩) n n, .int .i64 (-1), .int .i64 (lv : Int), .int .i64 0, .int .i64 0, .bool true] 131)).alloc (.cells #[.pointer (some ⟨w1.heap.size, 0, none⟩)] 85)) 129 (.slice (some ⟨w.heap.size, 0, none⟩) n n)
      simpa only [World.size_alloc] using this
  have H0 := Lib.hid h0
  have HS := Lib.hid hsz
  have HQ := Lib.hid hq
  gi_wp2_with fail
  rw [← hW0]
  clear hW0 h0 hsz hb0 hmk hq
  refine wpIn_rangeKeptK (encs := fun k => #[.int .i64 ((n - 1 - k : Nat) : Int), .agg #[.int .i64 0, .int .i64 0, .bool false, .int .i64 0]]) (N := n) (St := BwdS (w1.heap.size + 1 + 1) w.heap.size n) rfl (by omega) (gf := 103) (lb := #[.pointer (some ⟨w1.heap.size + 1 + 1, 0, none⟩)]) rfl trivial (enters_of Tryz.func103 (by kernel_rfl) rfl)
    (bwdS_kept (r - 1) (by omega) (w1.heap.size + 1 + 1) w.heap.size n HN.out)
    (fun _ => rfl)
    (fun k W => NewAt w W w1.heap.size w.heap.size n lv (w1.heap.size + 1) (w1.heap.size + 1 + 1) k)
    (fun _ _ _ => False)
    (fun k W h => ⟨h.btx, fun p hp => by
      obtain ⟨a0, a1, a2, a3⟩ := h.row.cell p (by omega)
      rw [if_neg (by omega)] at a3
      exact ⟨a0, a1, a2, a3⟩⟩)
    (ownFrom_cells _ (fun k W W' hI hc hb => hI.keep hc (hI.bel.trans (hb.mono (by rw [HS.out]; omega)))) (fun k W hI => by rw [HS.out]; exact hI.btx.lt))
    (fun c => ownFrom_pure _ _)
    H0.out
    (fun k a' _ => a' = { tmps := #[.int .i64 (n : Int), .int .i64 (lv : Int), undef, undef, .pointer none, .int .i64 0, .pointer (some ⟨w1.heap.size + 1, 0, none⟩), .int .i64 ((n - 1 - k : Nat) : Int), .int .i64 (n : Int), .bool false, .bool false, .int .i64 (n : Int), .bool false, .bool false, .bool false, .int .i64 (lv : Int), .bool false, .bool false, .bool false, .int .i64 (lv : Int), .bool false, .bool false, .int .i64 (n : Int), .slice (some ⟨w.heap.size, 0, none⟩) n n, .int .i64 (lv : Int), .agg #[.slice (some ⟨w.heap.size, 0, none⟩) n n, .int .i64 (-1), .int .i64 (lv : Int), .int .i64 0, .int .i64 0, .bool true], .pointer (some ⟨w1.heap.size, 0, none⟩), .pointer (some ⟨w1.heap.size, 0, none⟩), .pointer (some ⟨w1.heap.size, 0, none⟩), .pointer (some ⟨w1.heap.size, 0, none⟩), .slice (some ⟨w.heap.size, 0, none⟩) n n, .func (.func 103) #[] #[.pointer (some ⟨w1.heap.size + 1 + 1, 0, none⟩)], .int .i64 ((n - 1 - k : Nat) : Int), .agg #[.int .i64 0, .int .i64 0, .bool false, .int .i64 0], undef, undef, undef, undef], defers := [] })
    (fun k a' => ownFrom_pure _ _) ?assign ?body ?done ?stop
  case assign =>
    intro l k W K hk hI hK
    gi_wp2
    exact hK _ _ (KeepsFrom.refl _ _) hI rfl
  case body =>
    rintro l k a' W hk hI rfl
    have HI := Lib.hid hI
    have cb := hI.sbx.cell
    obtain ⟨p, hp⟩ : ∃ p : Nat, n - 1 - k = p := ⟨_, rfl⟩
    have HP := Lib.hid hp
    have HLk := Lib.hid (link_raw hI.own hI.row HQ.out p (by omega))
    rw [hp]
    clear hI hp
    gi_wp2_with fail
    refine ⟨trivial, (by intro _; omega), (CallsIn.inRound l (callsIn_wide.2 HLk.out)).mono ?_⟩
    rintro e W2 ⟨rfl, g1, g2, g3⟩
    have G1 := Lib.hid g1; have G2 := Lib.hid g2; have G3 := Lib.hid g3
    clear g1 g2 g3
    gi_wp2_with fail
    have hI := HI.out
    have hp := HP.out
    have hsw := HS.out
    have hq2 := HQ.out
    refine ⟨keepsFrom_off G3.out (cells_two hI.own hI.row), ?_, (G2.out).congr fun r hr => ?_, ?_, ?_, hI.bel.trans (G3.out.below (by rintro j (rfl | rfl) <;> omega) hI.bel.size)⟩
    · rw [if_neg (by omega), show n - (k + 1) = p by omega]
      exact G1.out
    · by_cases e : r = p
      · rw [if_pos e, if_pos (by omega)]
        by_cases e2 : k = 0
        · rw [if_pos e2, if_neg (by omega)]
        · rw [if_neg e2, if_pos (by omega), show n - k = r + 1 by omega]
      · rw [if_neg e]
        by_cases e3 : n - k ≤ r
        · rw [if_pos e3, if_pos (by omega)]
        · rw [if_neg e3, if_neg (by omega)]
    · exact (G3.out.block _ hI.sbx.lt (by rintro (e | e) <;> omega)).trans hI.sbx
    · exact (G3.out.block _ hI.btx.lt (by rintro (e | e) <;> omega)).trans hI.btx
  case done =>
    intro D W hD hI hK
    have HI := Lib.hid hI; have HK := Lib.hid hK; have HDD := Lib.hid hD
    have cb := hI.sbx.cell
    clear hI hK hD
    gi_wp2_with fail
    have hsw := HS.out
    have hD0 := HDD.out
    have hG := grownBy_putObj' W D (.deferred none)
    have hKC : KeepsCells W (W.putObj D (.deferred none)) := KeepsCells.of_grown hG (fun r e => by cases e; exact ⟨_, HK.out, rfl⟩)
    have hOff : Off (fun j => j = D) W (W.putObj D (.deferred none)) := Off.of_grown hG (fun j e => by cases e; rfl)
    have hI := HI.out
    refine ⟨by simp, .inl ⟨_, _, rfl, run_takeDeferred HK.out, ?_⟩⟩
    refine ⟨.tuple #[.pointer (some ⟨w1.heap.size, 0, none⟩), .int .i64 0], by simp [results, Tryz.f57, go_sem], w1.heap.size, w.heap.size, rfl, TA.cells ⟨_, _, hI.own' HL.out.1, hI.row, hI.links, TOk.new n HL.out.1, HQ.out, HN.out, HL.out⟩ hKC, hI.bel.trans (hOff.below (by rintro j rfl; omega) hI.bel.size), hs, Nat.le_refl _⟩
  case stop =>
    rintro D c k W hD hk h hK
    exact h.elim
theorem new_calls (n lv : Nat) (hn : n ≤ 1024) (h1 : 1 ≤ lv) (h2 : lv ≤ 4294967296) (w : World) :
    Calls Tryz.prog 57 #[.int .i64 (n : Int), .int .i64 (lv : Int)] w fun e w' => ∃ q g, e = .returned (.tuple #[.pointer (some ⟨q, 0, none⟩), .int .i64 0]) ∧ TA w' q g n lv (newT n) ∧ Below w.heap.size w w' ∧ w.heap.size ≤ q ∧ w.heap.size ≤ g :=
  (callsIn_wide (n := 5)).1 (new_in 5 (by omega) n lv hn h1 h2 w)
set_option maxHeartbeats 1000000 in
theorem new_no (p lv : Int) (h : p < 0 ∨ 1024 < p ∨ lv < 1 ∨ 4294967296 < lv) (w : World) :
    Calls Tryz.prog 57 #[.int .i64 p, .int .i64 lv] w fun e w' => e = .returned (.tuple #[.pointer none, .int .i64 2]) ∧ w = w' := by
  by_cases c1 : p < 0
  · go_enter Tryz.func57, Tryz.ntmps57
    go_wp2_with fail
    go_ret2
    exact ⟨rfl, rfl⟩
  · by_cases c2 : p > 1024
    · go_enter Tryz.func57, Tryz.ntmps57
      go_wp2_with fail
      go_ret2
      exact ⟨rfl, rfl⟩
    · by_cases c3 : lv < 1
      · go_enter Tryz.func57, Tryz.ntmps57
        go_wp2_with fail
        go_ret2
        exact ⟨rfl, rfl⟩
      · have c4 : lv > 4294967296 := by omega
        go_enter Tryz.func57, Tryz.ntmps57
        go_wp2_with fail
        go_ret2
        exact ⟨rfl, rfl⟩
end Go.Proofs.YtcjkeobjojmpfaaGreat.Sl
end
