import Derived.Below
import Derived.RangeFuncNested
import Derived.RangeFuncBox
import Derived.RangeFuncLeaves
import Derived.RangeFuncBound
import Derived.RangeFuncCalls
import Derived.Test.YtcjkeobjojmpfaaGreatMHeapMem
import Derived.Test.YtcjkeobjojmpfaaGreatMEvqB
import Derived.Test.YtcjkeobjojmpfaaGreatMHeapO
import Derived.Maps.OwnIn
section
/-
  A LAW for a range over an iterator that lays a block of its own (a guest among the caller's) before its first yield, and reads it between the rounds; a round may leave the loop.
-/
namespace Go.Proofs.YtcjkeobjojmpfaaGreat
open Go Go.RowKit

variable {F : Fence} {n : Nat} {P : Program}

/-- AN ITERATOR that lays a block z, with o in it, and then yields encs 0, encs 1 .. up to N, until a round says that it is enough. -/
def SeqKeptG (F : Fence) (n : Nat) (P : Program) (g : Nat) (lb : Array Value) (encs : Nat → Array Value) (N : Nat) (St : World → Prop) : Prop :=
  ∀ (l : Nat) (J0 : World → Prop) (J Jx : Nat → Obj → Nat → World → Prop) (W : World), (∀ A B, J0 A → A.grownBy B none → J0 B) → (∀ z o k A B, J z o k A → A.grownBy B none → J z o k B) → (∀ z o k A B, Jx z o k A → A.grownBy B none → Jx z o k B) →
    (∀ W, J0 W → St W) → (∀ z o k W, J z o k W → St W ∧ W.heap[z]? = some o) →
    (∀ W W' z o, J0 W → Below W.heap.size W W' → W.heap.size ≤ z → W'.heap[z]? = some o → o.isCells = true → J z o 0 W') →
    (∀ z o k W1, k < N → J z o k W1 → YieldAt F (n - 1) P l (encs k) W1 fun e W' => (e = .returned (.bool true) ∧ J z o (k + 1) W') ∨ (e = .returned (.bool false) ∧ Jx z o k W')) →
    J0 W →
    CallsIn F n P g (#[.func (.yield l) #[] #[]] ++ lb) W fun e W' => (∃ v, e = .returned v) ∧ ∃ z o, (J z o N W' ∨ ∃ k, k < N ∧ Jx z o k W')

/-- How a round ends. -/
def keptPostG (B : Nat) (I : Nat → World → Prop) (Ix : Code → Nat → World → Prop) (k : Nat) (W : World) : Exit → Act → World → Prop
  | .normal, _, W' => KeepsFrom B W W' ∧ I (k + 1) W'
  | .ret, _, W' => KeepsFrom B W W' ∧ Ix .ret k W'
  | .exit id, _, W' => KeepsFrom B W W' ∧ Ix (.exit id) k W'
  | _, _, _ => False

theorem wpIn_rangeKeptG {g : Operand} {ps : Array Tmp} {assign body : Code} {Q : Exit → Act → World → Prop} {a : Act} {w : World}
    (hro : F.round = none) (h1 : 1 ≤ n) {gf : Nat} {lb : Array Value} (hg : a.eval g = .func (.func gf) #[] lb) (hFg : F.fn gf) (eg : ∀ args w, (callFunc gf args).run P w = .ok (.enter gf args) w)
    {encs : Nat → Array Value} {N : Nat} {St : World → Prop} (hseq : SeqKeptG F (n - 1) P gf lb encs N St)
    (hps : ∀ k, (encs k).size = ps.size)
    (I0 : World → Prop) (I : Nat → Obj → Nat → World → Prop) (Ix : Nat → Obj → Code → Nat → World → Prop) (hSt0 : ∀ W, I0 W → St W) (hSt : ∀ z o k W, I z o k W → St W ∧ W.heap[z]? = some o)
    (hI0 : OwnFrom w.heap.size (fun (_ : Unit) W => I0 W)) (hI : ∀ z o, OwnFrom w.heap.size (I z o)) (hIx : ∀ z o c, OwnFrom w.heap.size (Ix z o c)) (h0 : I0 w)
    (hguest : ∀ W W' z o, I0 W → Below W.heap.size W W' → W.heap.size ≤ z → W'.heap[z]? = some o → o.isCells = true → I z o 0 W')
    (Ax : Nat → Act → World → Prop) (hAx : ∀ k a', OwnFrom w.heap.size (fun (_ : Unit) W => Ax k a' W))
    (hassign : ∀ (l : Nat) (z : Nat) (o : Obj) (k : Nat) (W : World) (K : Act → World → Prop), k < N → I z o k W → (∀ a' W', KeepsFrom w.heap.size W W' → I z o k W' → Ax k a' W' → K a' W') →
      assign.wpIn (F.inRound l) (n - 1 - 1) P (Exit.then K (fun _ _ _ => False)) { tmps := (ps.zip (encs k)).foldl (fun t (p, v) => t.setIfInBounds p v) a.tmps, defers := [] } W)
    (hbody : ∀ (l : Nat) (z : Nat) (o : Obj) (k : Nat) (a' : Act) (W : World), k < N → I z o k W → Ax k a' W → body.wpIn (F.inRound l) (n - 1 - 1) P (keptPostG w.heap.size (I z o) (Ix z o) k W) a' W)
    (hdone : ∀ (z : Nat) (o : Obj) (D : Nat) (W : World), w.heap.size ≤ D → I z o N W → W.heap[D]? = some (.deferred (some [])) → Q .normal { a with defers := { target := .collected D, args := #[] } :: a.defers } W)
    (hstop : ∀ (z : Nat) (o : Obj) (D : Nat) (c : Code) (k : Nat) (W : World), w.heap.size ≤ D → k < N → Ix z o c k W → W.heap[D]? = some (.deferred (some [])) → c.wpIn F n P Q { a with defers := { target := .collected D, args := #[] } :: a.defers } W) :
    (Code.rangeFunc g ps assign body).wpIn F n P Q a w := by
  refine wpIn_rangeFunc fun fn hfn => ?_
  rw [hro]
  obtain ⟨L, hL⟩ : ∃ L, L = w.heap.size := ⟨_, rfl⟩
  obtain ⟨rec, hrec⟩ : ∃ rec : LoopState → Option Code → Loop, rec = fun st pe => { state := st, pending := pe, fn, tmps := a.tmps, params := ps, assign, body, defers := w.heap.size } := ⟨_, rfl⟩
  obtain ⟨W1, hW1⟩ : ∃ W1, W1 = (w.alloc (.deferred (some []))).alloc (.loop (rec .ready none)) := ⟨_, rfl⟩
  have hrdy : W1.heap[L + 1]? = some (.loop (rec .ready none)) := by
    have := World.alloc_heap_new (w.alloc (.deferred (some []))) (.loop (rec .ready none))
    rwa [World.size_alloc, ← hW1, ← hL] at this
  have hdef : W1.heap[L]? = some (.deferred (some [])) := by
    rw [hW1, hL]; exact (Below.heap_alloc _ _ _ (by simp)).trans (World.alloc_heap_new w _)
  have hstart : I0 W1 := by rw [hW1]; exact hI0.alloc (s := ()) _ (hI0.alloc (s := ()) _ h0)
  have hkeep : ∀ {A B : World} {k : Nat} {o : Obj}, A.grownBy B none → A.heap[k]? = some o → B.heap[k]? = some o := fun hgr hk => (hgr.block _ (Array.getElem?_eq_some_iff.1 hk).1 (by simp)).trans hk
  refine ⟨L + 1, [{ target := .collected L, args := #[] }], W1, { target := .fn (.func gf) lb, args := #[.func (.yield (L + 1)) #[] #[]] }, W1, gf, #[.func (.yield (L + 1)) #[] #[]] ++ lb, W1, ?_, ?_, ?_, ?_, fun _ => h1, ?_⟩
  · rw [hW1, hrec, hL]; exact run_enterLoop_outer _ _ _ _ _
  · simp only [resolve, hg]
    simp [go_sem]
  · intro f' hf'
    simp [Target.leads] at hf'
    subst hf'
    exact hFg
  · simp [invoke, go_sem, eg]
  · refine (hseq (L + 1) (fun W => I0 W ∧ W.heap[L + 1]? = some (.loop (rec .ready none)) ∧ W.heap[L]? = some (.deferred (some [])))
      (fun z o k W => I z o k W ∧ W.heap[L + 1]? = some (.loop (rec .ready none)) ∧ W.heap[L]? = some (.deferred (some [])))
      (fun z o k W => ∃ c, Ix z o c k W ∧ W.heap[L + 1]? = some (.loop (rec .done (some c))) ∧ W.heap[L]? = some (.deferred (some []))) W1
      (fun A B hs hgr => ⟨hI0 () A B none hs.1 hgr (fun r e => by cases e), hkeep hgr hs.2.1, hkeep hgr hs.2.2⟩)
      (fun z o k A B hs hgr => ⟨hI z o k A B none hs.1 hgr (fun r e => by cases e), hkeep hgr hs.2.1, hkeep hgr hs.2.2⟩)
      (fun z o k A B hs hgr => by obtain ⟨c, h1, h2, h3⟩ := hs; exact ⟨c, hIx z o c k A B none h1 hgr (fun r e => by cases e), hkeep hgr h2, hkeep hgr h3⟩) (fun W h => hSt0 W h.1) (fun z o k W h => hSt z o k W h.1)
      (fun W W' z o h hb hz ho hc => ⟨hguest W W' z o h.1 hb hz ho hc, (hb.block _ (Array.getElem?_eq_some_iff.1 h.2.1).1).trans h.2.1, (hb.block _ (Array.getElem?_eq_some_iff.1 h.2.2).1).trans h.2.2⟩) ?_ ⟨hstart, hrdy, hdef⟩).mono ?_
    · rintro z o k W hkN ⟨hi, hl, hk⟩
      have hy := run_yield (P := P) (args := encs k) hl (by rw [hrec]; exact hps k)
      rw [hrec] at hy
      refine ⟨fn, _, assign, body, hy, roundIn_of_wpIn hfn (hassign _ z o k W _ hkN hi ?_)⟩
      clear hy
      intro a' Wa hkf hia hax
      have hla := hkf.same _ _ (by omega) hl rfl
      have hka := hkf.same _ _ (by omega) hk rfl
      have hlt : L + 1 < Wa.heap.size := (Array.getElem?_eq_some_iff.1 hla).1
      refine ⟨_, run_beginRound hla (by rw [hrec]), ?_⟩
      obtain ⟨V, hV⟩ : ∃ V, V = Wa.putObj (L + 1) (.loop { rec .ready none with state := .busy }) := ⟨_, rfl⟩
      have hl2 : V.heap[L + 1]? = some (.loop { rec .ready none with state := .busy }) := by rw [hV]; exact World.putObj_heap_same hlt
      have hk2 : V.heap[L]? = some (.deferred (some [])) := by rw [hV]; exact (World.putObj_heap_other (by omega)).trans hka
      have hi2 : I z o k V := by rw [hV]; exact (hI z o).putObj _ hia (by omega) hla rfl
      have hx2 : Ax k a' V := by rw [hV]; exact (hAx k a').putObj (s := ()) _ hax (by omega) hla rfl
      rw [← hV]
      refine wpIn_mono (hbody _ z o k a' V hkN hi2 hx2) ?_
      have fin : ∀ (jump : Option Code) (W3 : World), KeepsFrom w.heap.size V W3 →
          (Instr.endRound (L + 1) jump).run P W3 = .ok (.bool jump.isNone) (W3.putObj (L + 1) (.loop (rec (if jump.isNone then .ready else .done) jump))) ∧
          (∃ o, W3.heap[L + 1]? = some o ∧ o.isCells = false) ∧
          (W3.putObj (L + 1) (.loop (rec (if jump.isNone then .ready else .done) jump))).heap[L + 1]? = some (.loop (rec (if jump.isNone then .ready else .done) jump)) ∧
          (W3.putObj (L + 1) (.loop (rec (if jump.isNone then .ready else .done) jump))).heap[L]? = some (.deferred (some [])) := fun jump W3 hk3 => by
        have hl3 := hk3.same _ _ (by omega) hl2 rfl
        have hd3 := hk3.same _ _ (by omega) hk2 rfl
        have hr := run_endRound (P := P) jump hl3
        have hlt3 : L + 1 < W3.heap.size := (Array.getElem?_eq_some_iff.1 hl3).1
        rw [hrec] at hr ⊢
        exact ⟨hr, ⟨_, hl3, rfl⟩, World.putObj_heap_same hlt3, (World.putObj_heap_other (by omega)).trans hd3⟩
      rintro e a3 W3 hp
      cases e with
      | normal =>
        obtain ⟨hk3, hi3⟩ := hp
        obtain ⟨hr, ⟨o', ho, hc⟩, hl4, hk4⟩ := fin none W3 hk3
        exact ⟨_, _, hr, .inl ⟨rfl, (hI z o).putObj _ hi3 (by omega) ho hc, hl4, hk4⟩⟩
      | ret =>
        obtain ⟨hk3, hi3⟩ := hp
        obtain ⟨hr, ⟨o', ho, hc⟩, hl4, hk4⟩ := fin (some .ret) W3 hk3
        exact ⟨_, _, hr, .inr ⟨rfl, .ret, (hIx z o _).putObj _ hi3 (by omega) ho hc, hl4, hk4⟩⟩
      | exit id =>
        obtain ⟨hk3, hi3⟩ := hp
        obtain ⟨hr, ⟨o', ho, hc⟩, hl4, hk4⟩ := fin (some (.exit id)) W3 hk3
        exact ⟨_, _, hr, .inr ⟨rfl, .exit id, (hIx z o _).putObj _ hi3 (by omega) ho hc, hl4, hk4⟩⟩
      | goto t => exact hp.elim
      | panic ch => exact hp.elim
      | outgrown => exact hp.elim
    · rintro e W2 ⟨⟨v, rfl⟩, z, o, (⟨hi, hl, hk⟩ | ⟨k, hkN, c, hi, hl, hk⟩)⟩
      · have hr := run_endLoop (P := P) hl (by rw [hrec]; simp)
        rw [hrec] at hr
        exact ⟨none, _, hr, hdone z o L _ (by omega) ((hI z o).putObj _ hi (by omega) hl rfl) ((World.putObj_heap_other (by omega)).trans hk)⟩
      · have hr := run_endLoop (P := P) hl (by rw [hrec]; simp)
        rw [hrec] at hr
        exact ⟨some c, _, hr, hstop z o L c k _ (by omega) hkN ((hIx z o c).putObj _ hi (by omega) hl rfl) ((World.putObj_heap_other (by omega)).trans hk)⟩
end Go.Proofs.YtcjkeobjojmpfaaGreat
end

section
/-
  WHAT A CHANGE THAT LEAVES ALL CELLS LEAVES: laws for ranges over iterators.
-/
namespace Go.Proofs.YtcjkeobjojmpfaaGreat
open Go Go.RowKit

/-- EACH BLOCK OF CELLS stays as it is. -/
def KeepsCells (W W' : World) : Prop := ∀ (k : Nat) (o : Obj), W.heap[k]? = some o → o.isCells = true → W'.heap[k]? = some o
theorem KeepsCells.of_grown {W W' : World} {row : Option Nat} (h : W.grownBy W' row) (hr : ∀ r, row = some r → ∃ o : Obj, W.heap[r]? = some o ∧ o.isCells = false) : KeepsCells W W' := fun k o hk ho => by
  refine (h.block k (Array.getElem?_eq_some_iff.1 hk).1 (fun e => ?_)).trans hk
  obtain ⟨o2, e2, e3⟩ := hr k e.symm
  rw [hk] at e2
  cases e2
  rw [ho] at e3
  cases e3
theorem ownFrom_cells {β : Type} {B : Nat} (I : β → World → Prop) (h : ∀ s W W', I s W → KeepsCells W W' → Below B W W' → I s W') (hB : ∀ s W, I s W → B ≤ W.heap.size) : OwnFrom B I := by
  intro s W W' row hs hg hr
  refine h s W W' hs (KeepsCells.of_grown hg fun r e => (hr r e).2) ⟨hg.os, hg.tape, hg.output, hg.size, fun k hk => ?_⟩
  refine hg.block k (Nat.lt_of_lt_of_le hk (hB s W hs)) (fun e => ?_)
  have := (hr k e.symm).1
  omega
/-- What turns blocks of cells alone keeps all others. -/
theorem keepsFrom_off {F : Nat → Prop} {B : Nat} {W W' : World} (h : Off F W W') (hF : ∀ (k : Nat) (o : Obj), F k → W.heap[k]? = some o → o.isCells = true) : KeepsFrom B W W' :=
  ⟨h.size, fun k o _ hk ho => (h.block k (Array.getElem?_eq_some_iff.1 hk).1 (fun hf => by rw [hF k o hf hk] at ho; cases ho)).trans hk⟩
end Go.Proofs.YtcjkeobjojmpfaaGreat
end

section
/-
  CONTRACTS of evq's sorted, and of its iterator.
-/
namespace Go.Proofs.YtcjkeobjojmpfaaGreat
open Go.RowKit Go.Shelf

attribute [local go_sem] Oper.semAt_some

set_option maxHeartbeats 1000000 in
theorem sorted_calls (q : Nat) (w : World) :
    Calls Tryz.prog 47 #[.pointer (some ⟨q, 0, none⟩)] w fun e w' => e = .returned (.func (.func 66) #[] #[.pointer (some ⟨w.heap.size, 0, none⟩)]) ∧ w' = w.alloc (.cells #[.pointer (some ⟨q, 0, none⟩)] 26) := by
  go_enter Tryz.func47, Tryz.ntmps47
  go_wp2
  go_ret
  exact ⟨rfl, rfl⟩
/-- What the iterator reads. -/
def SrtSt (Bt q : Nat) (p : Qp) (cap U : Nat) (ev : Nat → Ev) (M : Mp) (S : Tb) (f : Int → Int → Option (Nat × Nat)) (W : World) : Prop := Boxed W Bt 26 (.pointer (some ⟨q, 0, none⟩)) ∧ QB W q p cap U ev M S f
theorem lsQ_at {cap : Nat} {ev : Nat → Ev} {M : Mp} {k : Nat} (hk : k < (ordM cap M).length) : vn (lsQ cap ev M) k = ev (en (ordM cap M) k).2 := by
  have h1 := en_get hk
  have h2 : (lsQ cap ev M)[k]? = some (ev (en (ordM cap M) k).2) := by unfold lsQ; rw [List.getElem?_map, h1]; rfl
  have h3 := vn_get (l := lsQ cap ev M) (i := k) (by rw [lsQ_len]; exact hk)
  rw [h3] at h2
  exact Option.some.inj h2
set_option maxRecDepth 100000 in
set_option maxHeartbeats 4000000 in
theorem sorted1_kept (n : Nat) (hn : 5 ≤ n) (Bt q : Nat) (p : Qp) (cap U : Nat) (ev : Nat → Ev) (M : Mp) (S : Tb) (f : Int → Int → Option (Nat × Nat)) (hcap : cap ≤ 256) :
    SeqKeptG Fence.wide n Tryz.prog 66 #[.pointer (some ⟨Bt, 0, none⟩)] (fun k => #[vV (vn (lsQ cap ev M) k)]) (lsQ cap ev M).length (SrtSt Bt q p cap U ev M S f) := by
  intro l J0 J Jx W hJ0 hJ hJx hSt0 hSt hG hY h0
  have HY := Lib.hid hY
  have HJ := Lib.hid hJ
  have HSt := Lib.hid hSt
  have HG := Lib.hid (fun W' z o => hG W W' z o h0)
  obtain ⟨k1, k2⟩ := hSt0 W h0
  have c1 := k1.cell
  have HI := Lib.hid (isQ_calls k2.own)
  have HO := Lib.hid (heapOrder_calls k2.hp)
  have HQ := Lib.hid k2
  obtain ⟨c0, q1, -, -, -, -⟩ := ownQ_cells k2.own
  have hle := k2.st.le_cap
  obtain ⟨m, hm⟩ : ∃ m, (lsQ cap ev M).length = m := ⟨_, rfl⟩
  have HM := Lib.hid hm
  have hm2 : (ordM cap M).length = m := by rw [← lsQ_len cap ev M]; exact hm
  have HM2 := Lib.hid hm2
  have hmi : (m : Int) ≤ 256 := by omega
  clear hY hJ0 hJ hJx hSt0 hSt hG h0 k1 k2
  refine callsIn_of_wp Tryz.func66 rfl trivial ?_ rfl
  simp only [Tryz.ntmps66, List.size_toArray, List.length_cons, List.length_nil, Nat.reduceAdd, Nat.reduceSub, Array.replicate_succ, Array.replicate_zero, List.push_toArray, List.append_toArray, List.nil_append, List.cons_append]
  rw [HM2.out] at HO
  rw [HM.out]
  clear hm hm2 hle
  gi_wp2_with fail
  refine ⟨trivial, (by intro _; omega), (callsIn_wide.2 HI.out).mono ?_⟩
  rintro e w2 ⟨rfl, rfl⟩
  gi_wp2_with fail
  refine ⟨trivial, (by intro _; omega), (callsIn_wide.2 HO.out).mono ?_⟩
  rintro e W2 ⟨g, c, rfl, h5, h6, h7⟩
  obtain ⟨cur, hcur⟩ := h5.blk
  have HJ0 := Lib.hid (HG.out W2 g _ h7 h6 hcur rfl)
  have HCur := Lib.hid (show ∀ k, k < m → cur[k]? = some (.int .i64 ((en (ordM cap M) k).2 : Int)) from fun k hk => by
    have e1 := h5.cell k (by rw [plc_len, HM2.out]; exact hk)
    rw [plc_get _ _ (by rw [HM2.out]; exact hk)] at e1
    rw [← e1]
    simp [World.cell?, hcur])
  clear h5 h6 h7 hcur HG HI HO HQ c0 q1 c1
  gi_wp2_with fail
  gi_loopw [14] (fun jv wr => ∃ k : Nat, k ≤ m ∧ jv = .int .i64 (k : Int) ∧ J g (.cells cur 3 (0, 0)) k wr) (fun jv _ => m - (intOf jv).toNat)
  case atStart => exact ⟨0, Nat.zero_le _, by simp, HJ0.out⟩
  case round =>
    obtain ⟨k, hk, rfl, hJk⟩ := hrel
    have HJk := Lib.hid hJk
    obtain ⟨⟨k1, k2⟩, k3⟩ := HSt.out _ _ k wr hJk
    have c3 := k1.cell
    clear hJk k1
    by_cases hlt : k < m
    · have e1 : (k : Int) < (m : Int) := by omega
      have hpl := HCur.out k hlt
      obtain ⟨i, hi⟩ : ∃ i, (en (ordM cap M) k).2 = i := ⟨_, rfl⟩
      have hic : i < cap := by rw [← hi]; exact ((k2.st.ord_mem _).1 (en_mem (by rw [HM2.out]; exact hlt))).1
      rw [hi] at hpl
      have hpc : wr.cell? ⟨g, k, none⟩ = some (.int .i64 (i : Int)) := by rw [← hpl]; simp [World.cell?, k3]
      obtain ⟨d0, y0, y1, y2, y3, y4⟩ := k2.reads hic
      have hic2 : (i : Int) < (cap : Int) := by omega
      obtain ⟨fn, tmps, assign, body, hy, hR⟩ := HY.out _ _ k wr (by rw [HM.out]; exact hlt) HJk.out
      have HR := Lib.hid hR
      have hev : vn (lsQ cap ev M) k = ev i := by rw [lsQ_at (by rw [HM2.out]; exact hlt), hi]
      rw [hev] at hy
      unfold vV at hy
      clear hR k2 k3 hpl hi hev hic
      generalize (ev i).1.1 = vt, (ev i).1.2.1 = vs, (ev i).1.2.2 = vq, (ev i).2.1 = vo, (ev i).2.2 = vv at *
      gi_wp2_with fail
      refine ⟨fun _ => by omega, HR.out.mono ?_⟩
      rintro e W3 (⟨rfl, hJ3⟩ | ⟨rfl, hJx3⟩)
      · have HJ3 := Lib.hid hJ3
        clear hJ3
        gi_wp2
        go_roundw
        case rel => exact ⟨k + 1, hlt, by go_num, HJ3.out⟩
        case measure => simp [intOf]; omega
      · gi_wp2
        refine bodyPost_ret (results_none rfl _ _ _) rfl ?_
        exact ⟨⟨_, rfl⟩, _, _, .inr ⟨k, hlt, hJx3⟩⟩
    · obtain rfl : k = m := by omega
      clear k2 k3 hlt
      gi_wp2
      refine bodyPost_end (results_none rfl _ _ _) rfl ?_
      exact ⟨⟨_, rfl⟩, _, _, .inl HJk.out⟩
end Go.Proofs.YtcjkeobjojmpfaaGreat
end

section
/-
  A LIST OF EVENTS that grows in a box, beside a guest's block.
-/
namespace Go.Proofs.YtcjkeobjojmpfaaGreat
open Go.RowKit Go.Shelf

/-- THE BOX lb HOLDS A LIST OF EVENTS, l, in a block of its own from base on; the guest's block z holds o; below base nothing has turned since w. -/
structure GrP (w : World) (lb base : Nat) (l : List Ev) (z : Nat) (o : Obj) (W : World) : Prop where
  ex : ∃ v, Boxed W lb 24 v ∧ W.ownsRow base 33 5 v l.length (cellsV l) ∧ v.ownBlock ≠ some z
  ne : z ≠ lb
  guest : W.heap[z]? = some o
  cells : o.isCells = true
  bel : Below base w W
theorem ownsRow_keep {W W' : World} {base size n : Nat} {e : TypeId} {v : Value} {xs : List Value} (h : W.ownsRow base e size v n xs) (hk : ∀ k, v.ownBlock = some k → W'.heap[k]? = W.heap[k]?) : W'.ownsRow base e size v n xs := by
  obtain ⟨hl, h | ⟨g, cap, cur, rfl, hb, hc, r⟩⟩ := h
  · exact ⟨hl, .inl h⟩
  · exact ⟨hl, .inr ⟨g, cap, cur, rfl, hb, (hk g rfl).trans hc, r⟩⟩
theorem ownsRow_cells {W W' : World} {base size n : Nat} {e : TypeId} {v : Value} {xs : List Value} (h : W.ownsRow base e size v n xs) (hk : KeepsCells W W') : W'.ownsRow base e size v n xs := by
  obtain ⟨hl, h | ⟨g, cap, cur, rfl, hb, hc, r⟩⟩ := h
  · exact ⟨hl, .inl h⟩
  · exact ⟨hl, .inr ⟨g, cap, cur, rfl, hb, hk _ _ hc rfl, r⟩⟩
theorem GrP.keep {w W W' : World} {lb base z : Nat} {l : List Ev} {o : Obj} (h : GrP w lb base l z o W) (hk : KeepsCells W W') (hb : Below base W W') : GrP w lb base l z o W' := by
  obtain ⟨v, v1, v2, v3⟩ := h.ex
  exact ⟨⟨v, hk _ _ v1 rfl, ownsRow_cells v2 hk, v3⟩, h.ne, hk _ _ h.guest h.cells, h.cells, h.bel.trans hb⟩
theorem GrP.below {w W W' : World} {lb base z : Nat} {l : List Ev} {o : Obj} (h : GrP w lb base l z o W) (hb : Below W.heap.size W W') (hbase : base ≤ W.heap.size) : GrP w lb base l z o W' := by
  obtain ⟨v, v1, v2, v3⟩ := h.ex
  exact ⟨⟨v, (hb.block _ v1.lt).trans v1, ownsRow_keep v2 fun k hk => hb.block k (v2.lt k hk).2, v3⟩, h.ne, (hb.block _ (Array.getElem?_eq_some_iff.1 h.guest).1).trans h.guest, h.cells, h.bel.trans (hb.mono hbase)⟩
theorem GrP.size {w W : World} {lb base z : Nat} {l : List Ev} {o : Obj} (h : GrP w lb base l z o W) (hb : base ≤ w.heap.size) : base ≤ W.heap.size := Nat.le_trans hb h.bel.size
theorem GrP.own {β : Type} {w : World} {lb base z : Nat} {l : β → List Ev} {o : Obj} (hb : base ≤ w.heap.size) : OwnFrom base (fun (k : β) W => GrP w lb base (l k) z o W) :=
  ownFrom_cells _ (fun _ _ _ h hk hbl => h.keep hk hbl) (fun _ _ h => h.size hb)
theorem ownFrom_mono {β : Type} {B B' : Nat} {I : β → World → Prop} (h : OwnFrom B I) (hb : B ≤ B') : OwnFrom B' I := fun s W W' row hs hg hr => h s W W' row hs hg fun r e => ⟨Nat.le_trans hb (hr r e).1, (hr r e).2⟩
/-- The list before its first event. -/
structure GrI (w : World) (lb base : Nat) (W : World) : Prop where
  box : Boxed W lb 24 (.slice none 0 0)
  bel : Below base w W
theorem GrI.own {w : World} {lb base : Nat} (hb : base ≤ w.heap.size) : OwnFrom base (fun (_ : Unit) W => GrI w lb base W) :=
  ownFrom_cells _ (fun _ _ _ h hk hbl => ⟨hk _ _ h.box rfl, h.bel.trans hbl⟩) (fun _ _ h => Nat.le_trans hb h.bel.size)
theorem GrI.guest {w W W' : World} {lb base z : Nat} {o : Obj} (h : GrI w lb base W) (hbase : base ≤ w.heap.size) (hb : Below W.heap.size W W') (hz : W.heap.size ≤ z) (ho : W'.heap[z]? = some o) (hc : o.isCells = true) : GrP w lb base [] z o W' :=
  ⟨⟨_, (hb.block _ h.box.lt).trans h.box, World.ownsRow_nil _ _ _ _, by simp [Value.ownBlock]⟩, fun e => by have := h.box.lt; omega, ho, hc, h.bel.trans (hb.mono (Nat.le_trans hbase h.bel.size))⟩
/-- An event appended. -/
theorem GrP.appended {w W w1 : World} {lb base z : Nat} {l : List Ev} {o : Obj} (h : GrP w lb base l z o W) (hbase : base ≤ w.heap.size) (hlb : base ≤ lb) {v v' : Value} (hv : Boxed W lb 24 v) (x : Ev) {tmp : Obj}
    (hown' : w1.ownsRow base 33 5 v' (l.length + 1) (cellsV l ++ encV x)) (hgrow : (W.alloc tmp).grownBy w1 v.ownBlock) (hat : v'.ownBlock = v.ownBlock ∨ v'.ownBlock = some (W.alloc tmp).heap.size) :
    Boxed w1 lb 24 v ∧ GrP w lb base (l ++ [x]) z o (w1.setCell ⟨lb, 0, none⟩ v') ∧ KeepsOthers W (w1.setCell ⟨lb, 0, none⟩ v') := by
  obtain ⟨u, u1, u2, u3⟩ := h.ex
  have e : u = v := by
    have := u1.symm.trans hv
    simpa using this
  subst e
  obtain ⟨a1, a2, a3, a4, a5⟩ := hv.appended (by decide) u2 (h.size hbase) hlb hown' hgrow
  have hz := (Array.getElem?_eq_some_iff.1 h.guest).1
  refine ⟨a1, ⟨⟨v', a2, by rw [List.length_append, cellsV_append]; exact a3, fun e => ?_⟩, h.ne, ?_, h.cells, h.bel.trans a5⟩, a4⟩
  · rcases hat with c | c
    · exact u3 (c.symm.trans e)
    · rw [c] at e
      have := Option.some.inj e
      simp at this
      omega
  · rw [heap_setO _ _ _ h.ne, hgrow.block z (by simp; omega) (fun c => u3 c.symm)]
    exact (Below.heap_alloc _ _ _ hz).trans h.guest
end Go.Proofs.YtcjkeobjojmpfaaGreat
end

section
/-
  CONTRACTS of slices.AppendSeq and Collect at the events of a queue, and of All.
-/
namespace Go.Proofs.YtcjkeobjojmpfaaGreat
open Go.RowKit Go.Shelf

attribute [local go_sem] Oper.semAt_some

theorem vcells_new (w : World) (a b c d e : Value) (ty : TypeId) : ∀ j u, [a, b, c, d, e][j]? = some u → (w.alloc (.cells #[a, b, c, d, e] ty)).cell? ((⟨w.heap.size, 0, none⟩ : Addr).add j) = some u := by
  intro j u hj
  rw [Addr.add_lit, Nat.zero_add]
  have hh : (w.alloc (.cells #[a, b, c, d, e] ty)).heap[w.heap.size]? = some (.cells #[a, b, c, d, e] ty) := World.alloc_heap_new w _
  rw [cell_of_row _ _ j _ _ (0, 0) hh, ← Array.getElem?_toList]
  exact hj
theorem take_vn (t : List Ev) (k : Nat) (h : k < t.length) : t.take (k + 1) = t.take k ++ [vn t k] := by
  rw [List.take_add_one, vn_get h]; rfl
/-- The place where an event is appended to a list in a box. -/
theorem SrtSt.below {Bt q : Nat} {p : Qp} {cap U : Nat} {ev : Nat → Ev} {M : Mp} {S : Tb} {f : Int → Int → Option (Nat × Nat)} {W W' : World} (h : SrtSt Bt q p cap U ev M S f W) (hb : Below W.heap.size W W') : SrtSt Bt q p cap U ev M S f W' :=
  ⟨(hb.block Bt h.1.lt).trans h.1, h.2.below hb⟩
set_option maxRecDepth 100000 in
set_option maxHeartbeats 4000000 in
theorem appendSeqQ_in (r : Nat) (hr : 10 ≤ r) (Bt q : Nat) (p : Qp) (cap U : Nat) (ev : Nat → Ev) (M : Mp) (S : Tb) (f : Int → Int → Option (Nat × Nat)) (w : World) (hV : SrtSt Bt q p cap U ev M S f w) :
    CallsIn Fence.wide r Tryz.prog 65 #[.slice none 0 0, .func (.func 66) #[] #[.pointer (some ⟨Bt, 0, none⟩)]] w fun e W' => ∃ v', e = .returned v' ∧ W'.ownsRow w.heap.size 33 5 v' (lsQ cap ev M).length (cellsV (lsQ cap ev M)) ∧ Below w.heap.size w W' := by
  obtain ⟨i0, hi, hz0, hz1, hz2⟩ := info_parts info_ev
  have hcap := hV.2.lim
  have hle := hV.2.st.le_cap
  obtain ⟨L, hL⟩ : ∃ L, lsQ cap ev M = L := ⟨_, rfl⟩
  have hseq := sorted1_kept (r - 1) (by omega) Bt q p cap U ev M S f hcap
  rw [hL] at hseq hle ⊢
  have HL256 := Lib.hid (show L.length ≤ 256 by omega)
  refine callsIn_of_wp_marks Tryz.func65 rfl trivial ?_ rfl
  simp only [Tryz.ntmps65, List.size_toArray, List.length_cons, List.length_nil, Nat.reduceAdd, Nat.reduceSub, Array.replicate_succ, Array.replicate_zero, List.push_toArray, List.append_toArray, List.nil_append, List.cons_append]
  gi_wp2_with fail
  have b1 := Boxed.new w 24 (.slice none 0 0)
  have hB0 : Below w.heap.size w (w.alloc (.cells #[.slice none 0 0] 24)) := (Below.refl _ w).alloc (Nat.le_refl _) _
  refine wpIn_rangeKeptG (encs := fun k => #[vV (vn L k)]) (N := L.length) (St := SrtSt Bt q p cap U ev M S f) rfl (by omega) (gf := 66) (lb := #[.pointer (some ⟨Bt, 0, none⟩)]) rfl trivial (enters_of Tryz.func66 (by kernel_rfl) rfl)
    hseq
    (fun _ => rfl)
    (fun W => GrI w w.heap.size w.heap.size W)
    (fun z o k W => GrP w w.heap.size w.heap.size (L.take k) z o W)
    (fun _ _ _ _ _ => False)
    (fun W h => hV.below h.bel)
    (fun z o k W h => ⟨hV.below h.bel, h.guest⟩)
    (ownFrom_mono (GrI.own (w := w) (lb := w.heap.size) (base := w.heap.size) (Nat.le_refl _)) (by simp))
    (fun z o => ownFrom_mono (GrP.own (β := Nat) (w := w) (lb := w.heap.size) (base := w.heap.size) (l := fun k => L.take k) (z := z) (o := o) (Nat.le_refl _)) (by simp))
    (fun z o c => ownFrom_pure _ _)
    ⟨b1, hB0⟩
    (fun W W' z o h hb hz ho hc => by rw [List.take_zero]; exact h.guest (Nat.le_refl _) hb hz ho hc)
    (fun k a' W => ∃ pb, a' = { tmps := #[.slice none 0 0, .func (.func 66) #[] #[.pointer (some ⟨Bt, 0, none⟩)], .pointer (some ⟨w.heap.size, 0, none⟩), undef, .slice none 0 0, .pointer (some ⟨pb, 0, none⟩), .func (.func 66) #[] #[.pointer (some ⟨Bt, 0, none⟩)], .agg #[.int .i64 (vn L k).1.1, .int .i64 (vn L k).1.2.1, .int .i64 (vn L k).1.2.2, .int .i64 (vn L k).2.1, .int .i64 (vn L k).2.2], undef, undef, undef, undef, undef], defers := [] } ∧ VB W pb (vn L k))
    (fun k a' => fun s A B row hs hg hr => by obtain ⟨pb, e1, e2⟩ := hs; exact ⟨pb, e1, (hg.block pb e2.lt (fun e => by obtain ⟨_, o, ho, hc⟩ := hr pb e.symm; rw [show A.heap[pb]? = _ from e2] at ho; cases ho; cases hc)).trans e2⟩) ?assign ?body ?done ?stop
  case assign =>
    rintro l z o k W K hk hI hK
    generalize vn L k = E at *
    unfold vV
    gi_wp2
    refine hK _ _ ((KeepsOthers.alloc _ _).from _) (hI.below ((Below.refl _ _).alloc (Nat.le_refl _) _) (hI.size (Nat.le_refl _))) ⟨_, rfl, World.alloc_heap_new W _⟩
  case body =>
    rintro l z o k a' W hk hI ⟨pb, rfl, hpb⟩
    have hlen : (L.take k).length = k := by rw [List.length_take]; omega
    obtain ⟨v, hv, hrow2, -⟩ := hI.ex
    rw [hlen] at hrow2
    have hV0 := Lib.hid hv
    have hR2 := Lib.hid hrow2
    have HI := Lib.hid hI
    have hsz := hI.size (Nat.le_refl _)
    have hIn := Lib.hid hi
    have hZ0 := Lib.hid hz0
    have hZ1 := Lib.hid hz1
    have hZ2 := Lib.hid hz2
    have c3 := hv.cell
    have f3 := hv.frozen
    obtain ⟨p0, p1, p2, p3, p4, -⟩ := hpb.cells
    have HTk := Lib.hid (take_vn L k hk)
    have HLe := Lib.hid hlen
    have hk256 : k ≤ 256 := by have := HL256.out; omega
    generalize vn L k = E at *
    clear hv hrow2 hi hz0 hz1 hz2 b1 hB0 hV hpb hI hseq
    gi_wp2_with (gi_at_builtin; (refine wpListIn_append_own_at _ rfl _ _ 24 rfl w.heap.size 33 i0 (.agg #[.int .i64 0, .int .i64 0, .int .i64 0, .int .i64 0, .int .i64 0]) 5 40 Tryz.underlying24 hIn.out hZ0.out hZ1.out hZ2.out rfl (by decide) _ _ _ rfl (hR2.out.alloc _) ⟨W.heap.size, 0, none⟩ 1 1 (encV E) rfl rfl (vcells_new _ _ _ _ _ _ _) (by intro u hu; simp [encV] at hu; rcases hu with rfl | rfl | rfl | rfl | rfl <;> rfl) (by unfold maxLen; omega) (by omega) (by simp; omega) ?_; intro v' w1 hown' hgrow _ hat; obtain ⟨g', cap', rfl⟩ := ownsRow_succ hown'; obtain ⟨hv1, hv2, hk2⟩ := HI.out.appended (Nat.le_refl _) (Nat.le_refl _) hV0.out E (by rw [HLe.out]; exact hown') hgrow hat; have hc1 := hv1.cell; have hf1 := hv1.frozen; have hV2 := Lib.hid hv2; have hK2 := Lib.hid hk2; clear hgrow hv1 hv2 hk2 hown' hat))
    refine ⟨hK2.out.from _, ?_⟩
    show GrP w w.heap.size w.heap.size (L.take (k + 1)) z o _
    rw [HTk.out]
    exact hV2.out
  case done =>
    rintro z o D W hD hI hK
    obtain ⟨v, hv, hrow2, -⟩ := hI.ex
    have e : ∃ va n vc, v = .slice va n vc := by
      rcases hrow2.2 with ⟨rfl, _⟩ | ⟨g, cap, cur, rfl, _⟩
      · exact ⟨_, _, _, rfl⟩
      · exact ⟨_, _, _, rfl⟩
    obtain ⟨va, vn, vc, rfl⟩ := e
    have hV0 := Lib.hid hv
    have hR2 := Lib.hid hrow2
    have hBB := Lib.hid hI.bel
    have hKK := Lib.hid hK
    have hDD := Lib.hid hD
    have c3 := hv.cell
    clear hv hrow2 hI hK hD hi hz0 hz1 hz2 b1 hB0 hV hseq
    gi_wp2
    refine ⟨by simp, .inl ⟨_, _, rfl, run_takeDeferred hKK.out, ?_⟩⟩
    have hD0 := hDD.out
    simp only [World.size_alloc] at hD0
    refine ⟨.slice va vn vc, by simp [results, Tryz.f65, go_sem], .slice va vn vc, rfl, ?_, hBB.out.trans (belowK_b (w := w) (Nat.le_refl _) _ D _ _ (by omega) hKK.out rfl rfl)⟩
    have h := ownsRow_putObj hR2.out (.deferred none) hKK.out rfl
    rw [List.take_length] at h
    exact h
  case stop =>
    rintro z o D c k W hD hk h hK
    exact h.elim
theorem appendSeqQ_calls (Bt q : Nat) (p : Qp) (cap U : Nat) (ev : Nat → Ev) (M : Mp) (S : Tb) (f : Int → Int → Option (Nat × Nat)) (w : World) (hV : SrtSt Bt q p cap U ev M S f w) :
    Calls Tryz.prog 65 #[.slice none 0 0, .func (.func 66) #[] #[.pointer (some ⟨Bt, 0, none⟩)]] w fun e W' => ∃ v', e = .returned v' ∧ W'.ownsRow w.heap.size 33 5 v' (lsQ cap ev M).length (cellsV (lsQ cap ev M)) ∧ Below w.heap.size w W' :=
  (callsIn_wide (n := 10)).1 (appendSeqQ_in 10 (by omega) Bt q p cap U ev M S f w hV)
set_option maxRecDepth 100000 in
theorem collectQ_calls (Bt q : Nat) (p : Qp) (cap U : Nat) (ev : Nat → Ev) (M : Mp) (S : Tb) (f : Int → Int → Option (Nat × Nat)) (w : World) (hV : SrtSt Bt q p cap U ev M S f w) :
    Calls Tryz.prog 46 #[.func (.func 66) #[] #[.pointer (some ⟨Bt, 0, none⟩)]] w fun e W' => ∃ v, e = .returned v ∧ W'.ownsRow w.heap.size 33 5 v (lsQ cap ev M).length (cellsV (lsQ cap ev M)) ∧ Below w.heap.size w W' := by
  have HA := Lib.hid (appendSeqQ_calls Bt q p cap U ev M S f w hV)
  clear hV
  go_enter Tryz.func46, Tryz.ntmps46
  go_wp2_with fail
  refine HA.out.mono ?_
  rintro e w1 ⟨v, rfl, ho, hb⟩
  have HO := Lib.hid ho
  have HB := Lib.hid hb
  obtain ⟨a1, c1, rfl, -, -⟩ := (LV.of_owns ho).1.shape
  clear ho hb
  go_wp2
  go_ret
  exact ⟨_, rfl, HO.out, HB.out⟩
set_option maxRecDepth 100000 in
/-- All. -/
theorem allQ_calls {w : World} {q : Nat} {G : Nat → Prop} {cap U : Nat} {L : List Ev} (h : QA w q G cap U L) :
    Calls Tryz.prog 14 #[.pointer (some ⟨q, 0, none⟩)] w fun e W' => ∃ v, e = .returned v ∧ W'.ownsRow w.heap.size 33 5 v L.length (cellsV L) ∧ Below w.heap.size w W' := by
  obtain ⟨p, ev, M, S, f, hb, rfl, -⟩ := h.ex
  have hB0 : Below w.heap.size w (w.alloc (.cells #[.pointer (some ⟨q, 0, none⟩)] 26)) := (Below.refl _ w).alloc (Nat.le_refl _) _
  have HS := Lib.hid (sorted_calls q w)
  have HC := Lib.hid (collectQ_calls w.heap.size q p cap U ev M S f (w.alloc (.cells #[.pointer (some ⟨q, 0, none⟩)] 26)) ⟨Boxed.new w _ _, hb.below hB0⟩)
  have HB0 := Lib.hid hB0
  clear h hb hB0
  go_enter Tryz.func14, Tryz.ntmps14
  go_wp2_with (first
    | (go_at_call 47; refine HS.out.mono ?_; rintro e w2 ⟨rfl, rfl⟩)
    | (go_at_call 46; refine HC.out.mono ?_; rintro e w3 ⟨v, rfl, h1, h2⟩; have H1 := Lib.hid h1; have H2 := Lib.hid h2; obtain ⟨a1, c1, rfl, -, -⟩ := (LV.of_owns h1).1.shape; clear h1 h2)
    | fail)
  go_ret
  refine ⟨_, rfl, ?_, HB0.out.trans (H2.out.mono HB0.out.size)⟩
  have h1 := H1.out
  obtain ⟨hl, h2 | ⟨g, cap', cur, e, hb, r⟩⟩ := h1
  · exact ⟨hl, .inl h2⟩
  · exact ⟨hl, .inr ⟨g, cap', cur, e, Nat.le_trans HB0.out.size hb, r⟩⟩
end Go.Proofs.YtcjkeobjojmpfaaGreat
end
