import Derived.Test.YtcjkeobjojmpfaaGreatMEvqN
import Derived.Test.YtcjkeobjojmpfaaGreatMEvqLawP
import Derived.Test.YtcjkeobjojmpfaaGreatMSlotsM
import Derived.Test.YtcjkeobjojmpfaaGreatMHeapH
/-
  HOW A QUEUE LIES IN MEMORY: its own block, its events' row, its heap, its table of places, its map of names.
-/
namespace Go.Proofs.YtcjkeobjojmpfaaGreat
open Go.RowKit

def ownQ (g cap hq sq mb : Nat) : Obj := .cells #[.slice (some ⟨g, 0, none⟩) cap cap, .pointer (some ⟨hq, 0, none⟩), .pointer (some ⟨sq, 0, none⟩), .map (some mb), .bool true] 88 (0, 0)
theorem ownQ_cells {w : World} {q g cap hq sq mb : Nat} (s : w.heap[q]? = some (ownQ g cap hq sq mb)) : w.cell? ⟨q, 0, none⟩ = some (.slice (some ⟨g, 0, none⟩) cap cap) ∧ w.cell? ⟨q, 1, none⟩ = some (.pointer (some ⟨hq, 0, none⟩)) ∧ w.cell? ⟨q, 2, none⟩ = some (.pointer (some ⟨sq, 0, none⟩)) ∧ w.cell? ⟨q, 3, none⟩ = some (.map (some mb)) ∧ w.cell? ⟨q, 4, none⟩ = some (.bool true) ∧ ∀ i, w.frozen? ⟨q, i, none⟩ = false := by
  unfold ownQ at s
  exact ⟨by simp [World.cell?, s], by simp [World.cell?, s], by simp [World.cell?, s], by simp [World.cell?, s], by simp [World.cell?, s], fun i => by simp [World.frozen?, s]⟩
/-- Where a queue's parts lie. -/
structure Qp where
  g : Nat
  hq : Nat
  sq : Nat
  sg : Nat
  mb : Nat
  F : Nat → Prop
/-- All its blocks. -/
def QFoot (q : Nat) (p : Qp) (k : Nat) : Prop := k = q ∨ k = p.g ∨ k = p.sq ∨ k = p.sg ∨ k = p.mb ∨ p.F k
/-- A QUEUE: q its own block. -/
structure QB (w : World) (q : Nat) (p : Qp) (cap U : Nat) (ev : Nat → Ev) (M : Mp) (S : Tb) (f : Int → Int → Option (Nat × Nat)) : Prop where
  own : w.heap[q]? = some (ownQ p.g cap p.hq p.sq p.mb)
  row : VP w p.g cap ev
  hp : HA w p.hq p.F cap M
  tab : Sl.TA w p.sq p.sg cap 4294967296 S
  nam : NM w p.mb (lsQ cap ev M).length f
  st : QS cap U ev M S f
  ne : q ≠ p.g ∧ q ≠ p.sq ∧ q ≠ p.sg ∧ q ≠ p.mb ∧ p.g ≠ p.sq ∧ p.g ≠ p.sg ∧ p.g ≠ p.mb ∧ p.sq ≠ p.mb ∧ p.sg ≠ p.mb
  nF : ∀ k, p.F k → k ≠ q ∧ k ≠ p.g ∧ k ≠ p.sq ∧ k ≠ p.sg ∧ k ≠ p.mb
  lim : cap ≤ 256
section
variable {w w' : World} {q : Nat} {p : Qp} {cap U : Nat} {ev : Nat → Ev} {M : Mp} {S : Tb} {f : Int → Int → Option (Nat × Nat)}
theorem QB.lt (h : QB w q p cap U ev M S f) : ∀ k, QFoot q p k → k < w.heap.size := by
  rintro k (rfl | rfl | rfl | rfl | rfl | e)
  · exact (Array.getElem?_eq_some_iff.1 h.own).1
  · exact h.row.lt
  · exact h.tab.lt.1
  · exact h.tab.lt.2
  · exact h.nam.lt
  · exact h.hp.lt k e
theorem QB.keep (h : QB w q p cap U ev M S f) (e : ∀ k, QFoot q p k → w'.heap[k]? = w.heap[k]?) : QB w' q p cap U ev M S f :=
  ⟨(e q (.inl rfl)).trans h.own, h.row.keep (e _ (.inr (.inl rfl))), h.hp.keep fun k hk => e k (.inr (.inr (.inr (.inr (.inr hk))))), by
    obtain ⟨nx, r, ht⟩ := h.tab.ex
    exact ⟨nx, r, ht.keep (e _ (.inr (.inr (.inl rfl)))) (e _ (.inr (.inr (.inr (.inl rfl)))))⟩, h.nam.keep (e _ (.inr (.inr (.inr (.inr (.inl rfl)))))), h.st, h.ne, h.nF, h.lim⟩
theorem QB.below (h : QB w q p cap U ev M S f) (hb : Below w.heap.size w w') : QB w' q p cap U ev M S f := h.keep fun k hk => hb.block k (h.lt k hk)
end
/-- THE POINTER q IS A QUEUE, with a capacity and the events L, in the blocks G; no place was taken more often than U times. -/
structure QA (w : World) (q : Nat) (G : Nat → Prop) (cap U : Nat) (L : List Ev) : Prop where
  ex : ∃ p ev M S f, QB w q p cap U ev M S f ∧ L = lsQ cap ev M ∧ ∀ k, G k ↔ QFoot q p k
theorem QA.lt {w : World} {q : Nat} {G : Nat → Prop} {cap U : Nat} {L : List Ev} (h : QA w q G cap U L) : ∀ k, G k → k < w.heap.size := by
  obtain ⟨p, ev, M, S, f, hb, _, hG⟩ := h.ex
  exact fun k hk => hb.lt k ((hG k).1 hk)
theorem QA.keep {w w' : World} {q : Nat} {G : Nat → Prop} {cap U : Nat} {L : List Ev} (h : QA w q G cap U L) (e : ∀ k, G k → w'.heap[k]? = w.heap[k]?) : QA w' q G cap U L := by
  obtain ⟨p, ev, M, S, f, hb, h1, hG⟩ := h.ex
  exact ⟨p, ev, M, S, f, hb.keep fun k hk => e k ((hG k).2 hk), h1, hG⟩
theorem QA.below {w w' : World} {q : Nat} {G : Nat → Prop} {cap U : Nat} {L : List Ev} (h : QA w q G cap U L) (hb : Below w.heap.size w w') : QA w' q G cap U L := h.keep fun k hk => hb.block k (h.lt k hk)
theorem QA.off {w w' : World} {q : Nat} {G F : Nat → Prop} {cap U : Nat} {L : List Ev} (h : QA w q G cap U L) (hb : Off F w w') (hd : ∀ k, G k → ¬ F k) : QA w' q G cap U L := h.keep fun k hk => hb.block k (h.lt k hk) (hd k hk)
theorem QS.mono {cap U U' : Nat} {ev : Nat → Ev} {M : Mp} {S : Tb} {f : Int → Int → Option (Nat × Nat)} (h : QS cap U ev M S f) (hU : U ≤ U') : QS cap U' ev M S f := ⟨h.ok, h.keys, h.names, h.right, fun p => Nat.le_trans (h.lives p) hU⟩
theorem QA.mono {w : World} {q : Nat} {G : Nat → Prop} {cap U U' : Nat} {L : List Ev} (h : QA w q G cap U L) (hU : U ≤ U') : QA w q G cap U' L := by
  obtain ⟨p, ev, M, S, f, hb, h1, hG⟩ := h.ex
  exact ⟨p, ev, M, S, f, ⟨hb.own, hb.row, hb.hp, hb.tab, hb.nam, hb.st.mono hU, hb.ne, hb.nF, hb.lim⟩, h1, hG⟩
theorem QS.le_cap {cap U : Nat} {ev : Nat → Ev} {M : Mp} {S : Tb} {f : Int → Int → Option (Nat × Nat)} (h : QS cap U ev M S f) : (lsQ cap ev M).length ≤ cap := by rw [h.len]; exact cnt_le _ _
theorem QS.dist {cap U : Nat} {ev : Nat → Ev} {M : Mp} {S : Tb} {f : Int → Int → Option (Nat × Nat)} (h : QS cap U ev M S f) : DistV (lsQ cap ev M) := by
  refine h.asc.imp_of_mem ?_
  intro a b ha hb hab e
  obtain ⟨p, p1, p2, rfl⟩ := (h.mem a).1 ha
  obtain ⟨p', q1, q2, rfl⟩ := (h.mem b).1 hb
  have := h.uniq p1 p2 q1 q2 e
  subst this
  exact less_irrefl _ hab
/-- What is always so of a queue's events. -/
theorem QA.facts {w : World} {q : Nat} {G : Nat → Prop} {cap U : Nat} {L : List Ev} (h : QA w q G cap U L) : AscV L ∧ DistV L ∧ L.length ≤ cap ∧ cap ≤ 256 ∧ ∀ x ∈ L, RightV x := by
  obtain ⟨p, ev, M, S, f, hb, rfl, hG⟩ := h.ex
  refine ⟨hb.st.asc, hb.st.dist, hb.st.le_cap, hb.lim, fun x hx => ?_⟩
  obtain ⟨p, p1, p2, rfl⟩ := (hb.st.mem x).1 hx
  exact hb.st.right p p1 p2
/-- WHAT A CALL LEAVES OF A QUEUE. -/
structure QStep (w w' : World) (q : Nat) (G : Nat → Prop) (cap U : Nat) (L : List Ev) : Prop where
  ex : ∃ G', QA w' q G' cap U L ∧ Off G w w' ∧ ∀ k, G' k → G k ∨ w.heap.size ≤ k
theorem QStep.same {w w' : World} {q : Nat} {G : Nat → Prop} {cap U : Nat} {L : List Ev} (h : QA w q G cap U L) (hb : Below w.heap.size w w') : QStep w w' q G cap U L :=
  ⟨G, h.below hb, Off.of_below hb, fun _ hk => .inl hk⟩
theorem QStep.trans {a b c : World} {q : Nat} {G G1 : Nat → Prop} {cap U : Nat} {L : List Ev} (h1 : Off G a b) (h2 : ∀ k, G1 k → G k ∨ a.heap.size ≤ k) (h : QStep b c q G1 cap U L) : QStep a c q G cap U L := by
  obtain ⟨G', hq, ho, hk⟩ := h.ex
  refine ⟨G', hq, h1.trans ho fun j hj hG => ?_, fun k hk' => ?_⟩
  · rcases h2 j hG with e | e
    · exact e
    · omega
  · rcases hk k hk' with e | e
    · exact h2 k e
    · exact .inr (Nat.le_trans h1.size e)
end Go.Proofs.YtcjkeobjojmpfaaGreat
