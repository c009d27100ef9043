/-
  CONTRACTS of slots' is, there, Live, Look, Counts, link.
-/
import Derived.Test.YtecbpohkbniadaaGreatSlotsM
import Derived.Laws.StructEq
import Derived.BigQuiet
import Derived.BigRegion
import Derived.Deep.QuietTactic
import Derived.Deep.Cut
import Derived.Deep.DeepCutAuto
namespace Go.Proofs.YtecbpohkbniadaaGreat.Sl
open Go.RowKit

theorem refFields : Tryz.prog.underlying 108 = some (.struct (Tryz.prog.fieldsOf 108)) := by kernel_rfl
theorem refHeld : Tryz.prog.stoodInHeld 108 = false := by kernel_rfl
theorem equalR (a1 a2 b1 b2 : Int) (w : World) : (Op.equalIn 10000 108 (.agg #[.int .i64 a1, .int .i64 a2]) (.agg #[.int .i64 b1, .int .i64 b2])).run Tryz.prog w = .ok (decide ((a1, a2) = (b1, b2))) w := by
  rw [run_equalIn_struct (P := Tryz.prog) w 9999 108 _ _ refFields refHeld]
  by_cases h1 : a1 = b1
  · by_cases h2 : a2 = b2
    · subst h1 h2
      simp [Op.eqFields, go_sem, Program.fieldsOf, Tryz.underlying108]
    · subst h1
      simp [Op.eqFields, go_sem, Program.fieldsOf, Tryz.underlying108, h2]
  · simp [Op.eqFields, go_sem, Program.fieldsOf, Tryz.underlying108, h1]
theorem eqlR (a1 a2 b1 b2 : Int) (w : World) : (binOp .eql 108 (.agg #[.int .i64 a1, .int .i64 a2]) (.agg #[.int .i64 b1, .int .i64 b2])).run Tryz.prog w = .ok (.bool (decide ((a1, a2) = (b1, b2)))) w := by
  rw [run_eql_struct, equalR]; rfl
theorem neqR (a1 a2 b1 b2 : Int) (w : World) : (binOp .neq 108 (.agg #[.int .i64 a1, .int .i64 a2]) (.agg #[.int .i64 b1, .int .i64 b2])).run Tryz.prog w = .ok (.bool (!decide ((a1, a2) = (b1, b2)))) w := by
  rw [run_neq_struct, equalR]; rfl

set_option maxHeartbeats 1000000 in
theorem is_calls {w : World} {q g n k t wo : Nat} {f : Int} (s : w.heap[q]? = some (ownS g n k f t wo)) :
    Calls Tryz.prog 103 #[.pointer (some ⟨q, 0, none⟩)] w fun e w' => e = .returned (.bool true) ∧ w = w' := by
  obtain ⟨-, -, -, -, -, c5, -⟩ := ownS_cells s
  clear s
  go_enter Tryz.func103, Tryz.ntmps103
  go_wp2
  go_ret
  exact ⟨rfl, rfl⟩
set_option maxHeartbeats 1000000 in
theorem there_yes {w : World} {q g n k t wo : Nat} {f : Int} (s : w.heap[q]? = some (ownS g n k f t wo)) (p : Nat) (hp : p < n) :
    Calls Tryz.prog 137 #[.pointer (some ⟨q, 0, none⟩), .int .i64 (p : Int)] w fun e w' => e = .returned (.bool true) ∧ w = w' := by
  obtain ⟨c0, -⟩ := ownS_cells s
  have HI := Lib.hid (is_calls s)
  have h1 : (p : Int) ≥ 0 := by omega
  have h2 : (p : Int) < (n : Int) := by omega
  clear s
  go_enter Tryz.func137, Tryz.ntmps137
  go_wp2_with (first | (go_at_call 103; refine HI.out.mono ?_; rintro e w' ⟨rfl, rfl⟩) | fail)
  go_ret
  exact ⟨rfl, rfl⟩
set_option maxHeartbeats 1000000 in
theorem there_no {w : World} {q g n k t wo : Nat} {f : Int} (s : w.heap[q]? = some (ownS g n k f t wo)) (p : Int) (hp : p < 0 ∨ (n : Int) ≤ p) :
    Calls Tryz.prog 137 #[.pointer (some ⟨q, 0, none⟩), .int .i64 p] w fun e w' => e = .returned (.bool false) ∧ w = w' := by
  obtain ⟨c0, -⟩ := ownS_cells s
  have HI := Lib.hid (is_calls s)
  clear s
  rcases hp with hp | hp
  · have h1 : ¬ p ≥ 0 := by omega
    go_enter Tryz.func137, Tryz.ntmps137
    go_wp2_with (first | (go_at_call 103; refine HI.out.mono ?_; rintro e w' ⟨rfl, rfl⟩) | fail)
    go_ret
    exact ⟨rfl, rfl⟩
  · have h1 : p ≥ 0 := by omega
    have h2 : ¬ p < (n : Int) := by omega
    go_enter Tryz.func137, Tryz.ntmps137
    go_wp2_with (first | (go_at_call 103; refine HI.out.mono ?_; rintro e w' ⟨rfl, rfl⟩) | fail)
    go_ret
    exact ⟨by simp [h2], rfl⟩
/-- Whether a reference is live. -/
def liveT (n : Nat) (S : Tb) (P L : Int) : Bool := decide (0 ≤ P) && decide (P < n) && S.tk P.toNat && decide ((S.life P.toNat : Int) = L)
theorem liveT_nat {n : Nat} {S : Tb} {p : Nat} (hp : p < n) (L : Int) : liveT n S (p : Int) L = (S.tk p && decide ((S.life p : Int) = L)) := by
  unfold liveT
  have h1 : (0 : Int) ≤ (p : Int) := by omega
  have h2 : (p : Int) < (n : Int) := by omega
  simp [h1, h2]
theorem liveT_out {n : Nat} {S : Tb} {P : Int} (hp : P < 0 ∨ (n : Int) ≤ P) (L : Int) : liveT n S P L = false := by
  unfold liveT
  rcases hp with h | h
  · have : ¬ (0 : Int) ≤ P := by omega
    simp [this]
  · have : ¬ P < (n : Int) := by omega
    simp [this]
theorem blk_drew {w : World} {b : Nat} {o : Option Obj} (h : w.heap[b]? = o) : w.drew.heap[b]? = o := h
theorem below_drN {B : Nat} {a w : World} (h : Below B a w) (m : Nat) : Below B a (w.drewN m) := h.trans ⟨rfl, rfl, rfl, Nat.le_refl _, fun _ _ => rfl⟩
section
variable {w : World} {q g n k : Nat} {S : Tb}
theorem below_ref (w : World) (P L : Int) : Below w.heap.size w (w.alloc (.cells #[.int .i64 P, .int .i64 L] 108)) := (Below.refl _ w).alloc (Nat.le_refl _) _
set_option maxHeartbeats 2000000 in
theorem live_calls (h : TA w q g n k S) (P L : Int) :
    Calls Tryz.prog 114 #[.pointer (some ⟨q, 0, none⟩), .agg #[.int .i64 P, .int .i64 L]] w fun e w' => e = .returned (.bool (liveT n S P L)) ∧ Below w.heap.size w w' := by
  have mixed : Tryz.prog.follows .mixedOrders = true := by kernel_rfl
  have h1 := h.below (below_ref w P L)
  obtain ⟨nx, f, h1⟩ := h1.ex
  obtain ⟨c0, -⟩ := ownS_cells h1.own
  by_cases hp : P < 0 ∨ (n : Int) ≤ P
  · rw [liveT_out hp]
    have HT := Lib.hid (fun m => there_no (w := (w.alloc (.cells #[.int .i64 P, .int .i64 L] 108)).drewN m) h1.own P hp)
    clear h h1 hp
    go_enter Tryz.func114, Tryz.ntmps114
    go_upto_region 1 with fail
    go_quiet ((go_at_call 137; exact (HT.out _).mono fun e w' h => ⟨h.1, _, h.2.symm⟩))
    go_wp2_with fail
    go_ret
    exact ⟨rfl, below_drN (below_ref w P L) _⟩
  · obtain ⟨p, rfl⟩ : ∃ p : Nat, P = (p : Int) := ⟨P.toNat, by omega⟩
    have hp1 : p < n := by omega
    have HT := Lib.hid (fun m => there_yes (w := (w.alloc (.cells #[.int .i64 (p : Int), .int .i64 L] 108)).drewN m) h1.own p hp1)
    obtain ⟨x0, x1, x2, x3⟩ := h1.row.cell p hp1
    rw [liveT_nat hp1]
    have hpos := h1.ok.pos p hp1
    have hp2 : (p : Int) < (n : Int) := by omega
    unfold lpN at x0
    cases ht : S.tk p with
    | false =>
      rw [ht] at x2
      clear h h1 hp x3 hp1 hpos ht
      go_enter Tryz.func114, Tryz.ntmps114
      go_upto_region 1 with fail
      go_quiet ((go_at_call 137; exact (HT.out _).mono fun e w' h => ⟨h.1, _, h.2.symm⟩))
      go_wp2_with fail
      go_ret
      exact ⟨rfl, below_drN (below_ref w p L) _⟩
    | true =>
      have hl1 := hpos ht
      rw [ht] at x2
      rw [if_neg (by omega)] at x0
      have hE := eqlR p (S.life p) p L
      have hD : decide (((p : Int), (S.life p : Int)) = ((p : Int), L)) = decide ((S.life p : Int) = L) := by simp
      rw [hD] at hE
      clear h h1 hp x3 hp1 hpos ht hD hl1
      generalize (S.life p : Int) = LL at *
      go_enter Tryz.func114, Tryz.ntmps114
      go_upto_region 1 with fail
      go_quiet ((go_at_call 137; exact (HT.out _).mono fun e w' h => ⟨h.1, _, h.2.symm⟩))
      go_wp2_with fail
      go_ret
      exact ⟨by simp, below_drN (below_ref w p L) _⟩
set_option maxHeartbeats 4000000 in
/-- link, of a place that is in no list. -/
theorem link_raw {t wo : Nat} {f : Int} {nx : Nat → Int} (h1 : w.heap[q]? = some (ownS g n k f t wo)) (h2 : SRow w g n S nx) (hne : q ≠ g) (p : Nat) (hp : p < n) :
    Calls Tryz.prog 96 #[.pointer (some ⟨q, 0, none⟩), .int .i64 (p : Int)] w fun e w' => e = .returned (.tuple #[]) ∧ w'.heap[q]? = some (ownS g n k (p : Int) t wo) ∧ SRow w' g n S (fun r => if r = p then f else nx r) ∧ Off (Q2 q g) w w' := by
  have mixed : Tryz.prog.follows .mixedOrders = true := by kernel_rfl
  obtain ⟨c0, c1, -, -, -, -, cf⟩ := ownS_cells h1
  obtain ⟨-, -, -, x3⟩ := h2.cell p hp
  have gf := h2.frozen
  have hp2 : (p : Int) < (n : Int) := by omega
  have H1 := Lib.hid h1
  have H2 := Lib.hid h2
  have HP := Lib.hid hp
  clear h1 h2 hp
  go_enter Tryz.func96, Tryz.ntmps96
  go_wp2_with fail
  go_region
  all_goals
    go_wp2_with fail
    refine bodyPost_end (results_none rfl _ _ _) rfl ?_
    have hq := (heap_setO w (p * 4 + 3) (.int .i64 f) hne).trans H1.out
    exact ⟨rfl, blk_drew (ownS_first hq p), ((H2.out.next HP.out f).keep (heap_setO _ _ _ (Ne.symm hne))).keep rfl, (((Off.refl _ _).set (.inl (.inr rfl)) _ _).set (.inl (.inl rfl)) _ _).drew⟩
end
end Go.Proofs.YtecbpohkbniadaaGreat.Sl
