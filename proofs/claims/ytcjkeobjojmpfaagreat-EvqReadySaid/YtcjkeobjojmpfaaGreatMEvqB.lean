import Derived.Test.YtcjkeobjojmpfaaGreatMEvqQ
import Derived.Test.YtcjkeobjojmpfaaGreatMHeapI
import Derived.Test.YtcjkeobjojmpfaaGreatMKeyRight
section
/-
  CONTRACTS of evq's is, nameOf, Right, wrong, Least, Find, Len, Room.
-/
namespace Go.Proofs.YtcjkeobjojmpfaaGreat
open Go.RowKit

set_option maxHeartbeats 1000000 in
theorem isQ_calls {w : World} {q g cap hq sq mb : Nat} (s : w.heap[q]? = some (ownQ g cap hq sq mb)) :
    Calls Tryz.prog 42 #[.pointer (some ⟨q, 0, none⟩)] w fun e w' => e = .returned (.bool true) ∧ w = w' := by
  obtain ⟨-, -, -, -, c4, -⟩ := ownQ_cells s
  clear s
  go_enter Tryz.func42, Tryz.ntmps42
  go_wp2
  go_ret
  exact ⟨rfl, rfl⟩
set_option maxHeartbeats 1000000 in
theorem nameOf_calls (x : Ev) (w : World) :
    Calls Tryz.prog 62 #[vV x] w fun e w' => e = .returned (.agg #[.int .i64 x.1.2.1, .int .i64 x.1.2.2]) ∧ Below w.heap.size w w' := by
  unfold vV
  generalize x.1.1 = t, x.1.2.1 = s, x.1.2.2 = n, x.2.1 = o, x.2.2 = v
  go_enter Tryz.func62, Tryz.ntmps62
  go_wp2
  refine bodyPost_ret (v := .agg #[.int .i64 s, .int .i64 n]) (by simp [results, Tryz.f62, go_sem]) rfl ⟨rfl, ?_⟩
  exact ((Below.refl _ _).alloc (Nat.le_refl _) _).alloc (by simp) _
/-- THE BOX b HOLDS AN EVENT. -/
def VB (W : World) (b : Nat) (x : Ev) : Prop := W.heap[b]? = some (.cells #[.int .i64 x.1.1, .int .i64 x.1.2.1, .int .i64 x.1.2.2, .int .i64 x.2.1, .int .i64 x.2.2] 33 (0, 0))
theorem VB.cells {W : World} {b : Nat} {x : Ev} (h : VB W b x) : W.cell? ⟨b, 0, none⟩ = some (.int .i64 x.1.1) ∧ W.cell? ⟨b, 1, none⟩ = some (.int .i64 x.1.2.1) ∧ W.cell? ⟨b, 2, none⟩ = some (.int .i64 x.1.2.2) ∧ W.cell? ⟨b, 3, none⟩ = some (.int .i64 x.2.1) ∧ W.cell? ⟨b, 4, none⟩ = some (.int .i64 x.2.2) ∧ ∀ i, W.frozen? ⟨b, i, none⟩ = false := by
  unfold VB at h
  exact ⟨by simp [World.cell?, h], by simp [World.cell?, h], by simp [World.cell?, h], by simp [World.cell?, h], by simp [World.cell?, h], fun i => by simp [World.frozen?, h]⟩
theorem VB.lt {W : World} {b : Nat} {x : Ev} (h : VB W b x) : b < W.heap.size := (Array.getElem?_eq_some_iff.1 h).1
theorem VB.below {W W' : World} {b : Nat} {x : Ev} (h : VB W b x) (hb : Below W.heap.size W W') : VB W' b x := (hb.block b h.lt).trans h
theorem VB.new (W : World) (x : Ev) : VB (W.alloc (.cells #[.int .i64 x.1.1, .int .i64 x.1.2.1, .int .i64 x.1.2.2, .int .i64 x.2.1, .int .i64 x.2.2] 33)) W.heap.size x := World.alloc_heap_new W _
set_option maxRecDepth 100000 in
set_option maxHeartbeats 4000000 in
theorem rightV_calls (x : Ev) (w : World) :
    Calls Tryz.prog 37 #[vV x] w fun e w' => e = .returned (.bool (decide (RightV x))) ∧ Below w.heap.size w w' := by
  have hB0 : Below w.heap.size w (w.alloc (.cells #[.int .i64 x.1.1, .int .i64 x.1.2.1, .int .i64 x.1.2.2, .int .i64 x.2.1, .int .i64 x.2.2] 33)) := (Below.refl _ w).alloc (Nat.le_refl _) _
  have H0 := Lib.hid (show VB (w.alloc (.cells #[.int .i64 x.1.1, .int .i64 x.1.2.1, .int .i64 x.1.2.2, .int .i64 x.2.1, .int .i64 x.2.2] 33)) w.heap.size x ∧ Below w.heap.size w (w.alloc (.cells #[.int .i64 x.1.1, .int .i64 x.1.2.1, .int .i64 x.1.2.2, .int .i64 x.2.1, .int .i64 x.2.2] 33)) from ⟨VB.new w x, hB0⟩)
  have HR := Lib.hid (fun W (h : VB W w.heap.size x ∧ Below w.heap.size w W) => (rightK_calls x.1 W).mono (R' := fun e w' => e = .returned (.bool (decide (RightK x.1))) ∧ VB w' w.heap.size x ∧ Below w.heap.size w w') (by rintro e w' ⟨h1, h2⟩; exact ⟨h1, h.1.below h2, h.2.trans (h2.mono h.2.size)⟩))
  have HD := Lib.hid (show decide (RightV x) = (decide (RightK x.1) && (decide (1 ≤ x.2.1) && decide (x.2.1 ≤ 16))) by unfold RightV; by_cases h1 : RightK x.1 <;> by_cases h2 : 1 ≤ x.2.1 <;> by_cases h3 : x.2.1 ≤ 16 <;> simp [h1, h2, h3])
  rw [HD.out]
  unfold vV
  clear hB0
  by_cases h1 : RightK x.1
  · rw [show decide (RightK x.1) = true by simp [h1]] at HR ⊢
    by_cases h2 : 1 ≤ x.2.1
    · by_cases h3 : x.2.1 ≤ 16
      · rw [show decide (1 ≤ x.2.1) = true by simp [h2], show decide (x.2.1 ≤ 16) = true by simp [h3]]
        clear h1
        go_enter Tryz.func37, Tryz.ntmps37
        go_wp2_with (first | (go_at_call 60; refine (HR.out _ H0.out).mono ?_; rintro e w2 ⟨rfl, hb2⟩; have HB2 := Lib.hid hb2; obtain ⟨-, -, -, d3, -, -⟩ := hb2.1.cells; clear hb2) | fail)
        go_ret
        exact ⟨by first | rfl | simp [h3], HB2.out.2⟩
      · rw [show decide (1 ≤ x.2.1) = true by simp [h2], show decide (x.2.1 ≤ 16) = false by simp [h3]]
        clear h1
        go_enter Tryz.func37, Tryz.ntmps37
        go_wp2_with (first | (go_at_call 60; refine (HR.out _ H0.out).mono ?_; rintro e w2 ⟨rfl, hb2⟩; have HB2 := Lib.hid hb2; obtain ⟨-, -, -, d3, -, -⟩ := hb2.1.cells; clear hb2) | fail)
        go_ret
        exact ⟨by first | rfl | simp [h3], HB2.out.2⟩
    · rw [show decide (1 ≤ x.2.1) = false by simp [h2]]
      clear h1
      go_enter Tryz.func37, Tryz.ntmps37
      go_wp2_with (first | (go_at_call 60; refine (HR.out _ H0.out).mono ?_; rintro e w2 ⟨rfl, hb2⟩; have HB2 := Lib.hid hb2; obtain ⟨-, -, -, d3, -, -⟩ := hb2.1.cells; clear hb2) | fail)
      go_ret
      exact ⟨rfl, HB2.out.2⟩
  · rw [show decide (RightK x.1) = false by simp [h1]] at HR ⊢
    clear h1
    go_enter Tryz.func37, Tryz.ntmps37
    go_wp2_with (first | (go_at_call 60; refine (HR.out _ H0.out).mono ?_; rintro e w2 ⟨rfl, hb2⟩; have HB2 := Lib.hid hb2; obtain ⟨-, -, -, d3, -, -⟩ := hb2.1.cells; clear hb2) | fail)
    go_ret
    exact ⟨rfl, HB2.out.2⟩
set_option maxHeartbeats 1000000 in
theorem wrongV_calls (x : Ev) (w : World) :
    Calls Tryz.prog 43 #[vV x] w fun e w' => e = .returned (.bool (!decide (RightV x))) ∧ Below w.heap.size w w' := by
  have HR := Lib.hid (rightV_calls x)
  unfold vV at *
  go_enter Tryz.func43, Tryz.ntmps43
  go_wp2_with (first | (go_at_call 37; refine (HR.out _).mono ?_; rintro e w2 ⟨rfl, hb2⟩; have HB2 := Lib.hid hb2; clear hb2) | fail)
  go_ret
  exact ⟨rfl, by first | exact HB2.out | exact ((Below.refl _ w).alloc (Nat.le_refl _) _).trans (HB2.out.mono (by simp))⟩
end Go.Proofs.YtcjkeobjojmpfaaGreat
end

section
/-
  CONTRACTS of evq's Least, Find, Len, Room.
-/
namespace Go.Proofs.YtcjkeobjojmpfaaGreat
open Go.RowKit

/-- A world with a box for an event. -/
abbrev wz (w : World) : World := w.alloc (.cells #[.int .i64 0, .int .i64 0, .int .i64 0, .int .i64 0, .int .i64 0] 33)
theorem below_z (w : World) : Below w.heap.size w (wz w) := (Below.refl _ w).alloc (Nat.le_refl _) _
section
variable {w : World} {q : Nat} {G : Nat → Prop} {cap U : Nat} {L : List Ev}
theorem lsQ_len (cap : Nat) (ev : Nat → Ev) (M : Mp) : (lsQ cap ev M).length = (ordM cap M).length := by unfold lsQ; rw [List.length_map]
theorem VP.cells5 {w : World} {g n : Nat} {ev : Nat → Ev} (h : VP w g n ev) {p : Nat} (hp : p < n) : w.cell? ⟨g, p * 5, none⟩ = some (.int .i64 (ev p).1.1) ∧ w.cell? ⟨g, p * 5 + 1, none⟩ = some (.int .i64 (ev p).1.2.1) ∧ w.cell? ⟨g, p * 5 + 2, none⟩ = some (.int .i64 (ev p).1.2.2) ∧ w.cell? ⟨g, p * 5 + 3, none⟩ = some (.int .i64 (ev p).2.1) ∧ w.cell? ⟨g, p * 5 + 4, none⟩ = some (.int .i64 (ev p).2.2) := h.cell p hp
theorem QB.reads {w : World} {q : Nat} {p : Qp} {cap U : Nat} {ev : Nat → Ev} {M : Mp} {S : Tb} {f : Int → Int → Option (Nat × Nat)} (h : QB w q p cap U ev M S f) {i : Nat} (hi : i < cap) : w.cell? ⟨q, 0, none⟩ = some (.slice (some ⟨p.g, 0, none⟩) cap cap) ∧ w.cell? ⟨p.g, i * 5, none⟩ = some (.int .i64 (ev i).1.1) ∧ w.cell? ⟨p.g, i * 5 + 1, none⟩ = some (.int .i64 (ev i).1.2.1) ∧ w.cell? ⟨p.g, i * 5 + 2, none⟩ = some (.int .i64 (ev i).1.2.2) ∧ w.cell? ⟨p.g, i * 5 + 3, none⟩ = some (.int .i64 (ev i).2.1) ∧ w.cell? ⟨p.g, i * 5 + 4, none⟩ = some (.int .i64 (ev i).2.2) :=
  ⟨(ownQ_cells h.own).1, h.row.cells5 hi⟩
set_option maxHeartbeats 2000000 in
theorem leastQ_yes {x : Ev} {l : List Ev} (h : QA w q G cap U (x :: l)) :
    Calls Tryz.prog 15 #[.pointer (some ⟨q, 0, none⟩)] w fun e w' => e = .returned (.tuple #[vV x, .bool true]) ∧ Below w.heap.size w w' := by
  have h0 := h.below (below_z w)
  obtain ⟨p, ev, M, S, f, hb, hL, -⟩ := h0.ex
  have HI := Lib.hid (isQ_calls hb.own)
  obtain ⟨e, r, hr⟩ : ∃ e r, ordM cap M = e :: r := by
    cases ho : ordM cap M with
    | nil => unfold lsQ at hL; rw [ho] at hL; cases hL
    | cons e r => exact ⟨e, r, rfl⟩
  have hx : ev e.2 = x := by unfold lsQ at hL; rw [hr] at hL; exact (List.cons.inj hL).1.symm
  obtain ⟨he1, he2, he3⟩ := (hb.st.ord_mem e).1 (by rw [hr]; simp)
  have HL := Lib.hid (least_yes hb.hp e.1 e.2 (by rw [hr]; simp) (by rw [hr]; rfl))
  obtain ⟨c0, c1, -, -, -, -⟩ := ownQ_cells hb.own
  obtain ⟨x0, x1, x2, x3, x4⟩ := hb.row.cells5 he1
  rw [hx] at x0 x1 x2 x3 x4
  have hi : (e.2 : Int) < (cap : Int) := by omega
  unfold vV
  generalize x.1.1 = t, x.1.2.1 = s, x.1.2.2 = n, x.2.1 = o, x.2.2 = v at *
  clear h h0 hb hL hr hx he1 he2 he3
  go_enter Tryz.func15, Tryz.ntmps15
  go_wp2_with (first | (go_at_call 42; refine HI.out.mono ?_; rintro e w2 ⟨rfl, rfl⟩) | (go_at_call 48; refine HL.out.mono ?_; rintro e w2 ⟨rfl, rfl⟩) | fail)
  refine bodyPost_ret (v := .tuple #[.agg #[.int .i64 t, .int .i64 s, .int .i64 n, .int .i64 o, .int .i64 v], .bool true]) (by simp [results, Tryz.f15, go_sem]) rfl ⟨rfl, (Below.refl _ w).alloc (Nat.le_refl _) _⟩
set_option maxHeartbeats 2000000 in
theorem leastQ_no (h : QA w q G cap U []) :
    Calls Tryz.prog 15 #[.pointer (some ⟨q, 0, none⟩)] w fun e w' => e = .returned (.tuple #[.agg #[.int .i64 0, .int .i64 0, .int .i64 0, .int .i64 0, .int .i64 0], .bool false]) ∧ Below w.heap.size w w' := by
  have h0 := h.below (below_z w)
  obtain ⟨p, ev, M, S, f, hb, hL, -⟩ := h0.ex
  have HI := Lib.hid (isQ_calls hb.own)
  have HL := Lib.hid (least_no hb.hp (by rw [← lsQ_len cap ev M, ← hL]; rfl))
  obtain ⟨c0, c1, -, -, -, -⟩ := ownQ_cells hb.own
  clear h h0 hb hL
  go_enter Tryz.func15, Tryz.ntmps15
  go_wp2_with (first | (go_at_call 42; refine HI.out.mono ?_; rintro e w2 ⟨rfl, rfl⟩) | (go_at_call 48; refine HL.out.mono ?_; rintro e w2 ⟨rfl, rfl⟩) | fail)
  refine bodyPost_ret (v := .tuple #[.agg #[.int .i64 0, .int .i64 0, .int .i64 0, .int .i64 0, .int .i64 0], .bool false]) (by simp [results, Tryz.f15, go_sem]) rfl ⟨rfl, (Below.refl _ w).alloc (Nat.le_refl _) _⟩
set_option maxRecDepth 100000 in
set_option maxHeartbeats 2000000 in
theorem findQ_yes (h : QA w q G cap U L) {x : Ev} (hx : x ∈ L) (hs : wfI x.1.2.1) (hq : wfI x.1.2.2) :
    Calls Tryz.prog 24 #[.pointer (some ⟨q, 0, none⟩), .int .i64 x.1.2.1, .int .i64 x.1.2.2] w fun e w' => e = .returned (.tuple #[vV x, .bool true]) ∧ Below w.heap.size w w' := by
  have h0 := h.below (below_z w)
  obtain ⟨p, ev, M, S, f, hb, rfl, -⟩ := h0.ex
  have HI := Lib.hid (isQ_calls hb.own)
  obtain ⟨i, hi1, hi2, rfl⟩ := (hb.st.mem x).1 hx
  have hf := (hb.st.names (ev i).1.2.1 (ev i).1.2.2 i (S.life i)).2 ⟨hi1, hi2, rfl, rfl⟩
  have hlk0 := hb.nam.look hs hq
  rw [hf] at hlk0
  have hlk : (Instr.lookup 86 (.map (some p.mb)) (.agg #[.int .i64 (ev i).1.2.1, .int .i64 (ev i).1.2.2]) true).run Tryz.prog (wz w) = .ok (.tuple #[.agg #[.int .i64 (i : Int), .int .i64 (S.life i : Int)], .bool true]) (wz w) := hlk0
  clear hlk0
  obtain ⟨c0, -, -, c3, -, -⟩ := ownQ_cells hb.own
  have hb3 := hb.below ((Below.refl _ (wz w)).alloc (Nat.le_refl _) (.cells #[.int .i64 (i : Int), .int .i64 (S.life i : Int)] 94))
  obtain ⟨d0, y0, y1, y2, y3, y4⟩ := hb3.reads hi1
  obtain ⟨e0, z0, z1, z2, z3, z4⟩ := (show QB ((wz w).alloc (.cells #[.int .i64 (i : Int), .int .i64 (S.life i : Int)] 94)).drew q p cap U ev M S f from hb3.keep fun _ _ => rfl).reads hi1
  have hi : (i : Int) < (cap : Int) := by omega
  unfold vV
  generalize (ev i).1.1 = t, (ev i).1.2.1 = s, (ev i).1.2.2 = n, (ev i).2.1 = o, (ev i).2.2 = v at *
  clear h h0 hb hb3 hx hi1 hi2 hf hs hq
  go_enter Tryz.func24, Tryz.ntmps24
  go_wp2_with (first | (go_at_call 42; refine HI.out.mono ?_; rintro e w2 ⟨rfl, rfl⟩) | fail)
  go_region_law (fail)
  all_goals
    simp [Act.put]
    go_wp2_with fail
    refine bodyPost_ret (v := .tuple #[.agg #[.int .i64 t, .int .i64 s, .int .i64 n, .int .i64 o, .int .i64 v], .bool true]) (by simp [results, Tryz.f24, go_sem]) rfl ⟨rfl, ?_⟩
    exact (((Below.refl _ w).alloc (Nat.le_refl _) _).alloc (by simp) _).drew
set_option maxRecDepth 100000 in
set_option maxHeartbeats 2000000 in
theorem findQ_no (h : QA w q G cap U L) {s n : Int} (hx : ∀ x ∈ L, nmV x ≠ (s, n)) (hs : wfI s) (hq : wfI n) :
    Calls Tryz.prog 24 #[.pointer (some ⟨q, 0, none⟩), .int .i64 s, .int .i64 n] w fun e w' => e = .returned (.tuple #[.agg #[.int .i64 0, .int .i64 0, .int .i64 0, .int .i64 0, .int .i64 0], .bool false]) ∧ Below w.heap.size w w' := by
  have h0 := h.below (below_z w)
  obtain ⟨p, ev, M, S, f, hb, rfl, -⟩ := h0.ex
  have HI := Lib.hid (isQ_calls hb.own)
  have hf := (hb.st.none_iff s n).2 hx
  have hlk0 := hb.nam.look hs hq
  rw [hf] at hlk0
  have hlk : (Instr.lookup 86 (.map (some p.mb)) (.agg #[.int .i64 s, .int .i64 n]) true).run Tryz.prog (wz w) = .ok (.tuple #[.agg #[.int .i64 0, .int .i64 0], .bool false]) (wz w) := hlk0
  clear hlk0
  obtain ⟨c0, -, -, c3, -, -⟩ := ownQ_cells hb.own
  clear h h0 hb hx hf hs hq
  go_enter Tryz.func24, Tryz.ntmps24
  go_wp2_with (first | (go_at_call 42; refine HI.out.mono ?_; rintro e w2 ⟨rfl, rfl⟩) | fail)
  refine bodyPost_ret (v := .tuple #[.agg #[.int .i64 0, .int .i64 0, .int .i64 0, .int .i64 0, .int .i64 0], .bool false]) (by simp [results, Tryz.f24, go_sem]) rfl ⟨rfl, ?_⟩
  exact ((Below.refl _ w).alloc (Nat.le_refl _) _).alloc (by simp) _
set_option maxHeartbeats 2000000 in
theorem lenQ_calls (h : QA w q G cap U L) :
    Calls Tryz.prog 17 #[.pointer (some ⟨q, 0, none⟩)] w fun e w' => e = .returned (.int .i64 (L.length : Int)) ∧ w = w' := by
  obtain ⟨p, ev, M, S, f, hb, rfl, -⟩ := h.ex
  have HI := Lib.hid (isQ_calls hb.own)
  have HNm := Lib.hid hb.nam
  obtain ⟨c0, -, -, c3, -, -⟩ := ownQ_cells hb.own
  generalize (lsQ cap ev M).length = m at *
  clear h hb
  go_enter Tryz.func17, Tryz.ntmps17
  go_wp2_with (first | (go_at_call 42; refine HI.out.mono ?_; rintro e w2 ⟨rfl, rfl⟩) | (at_len; refine wpList_lenN rfl _ rfl _ _ _ rfl HNm.out ?_) | fail)
  go_ret
  exact ⟨rfl, rfl⟩
set_option maxHeartbeats 2000000 in
theorem roomQ_calls (h : QA w q G cap U L) :
    Calls Tryz.prog 23 #[.pointer (some ⟨q, 0, none⟩)] w fun e w' => e = .returned (.int .i64 ((cap - L.length : Nat) : Int)) ∧ Below w.heap.size w w' := by
  have hle := h.facts.2.2.1
  have hcap := h.facts.2.2.2.1
  obtain ⟨p, ev, M, S, f, hb, rfl, -⟩ := h.ex
  have HI := Lib.hid (isQ_calls hb.own)
  have hlen : ∀ n ty, (Builtin.len_ #[86] ty #[.map (some p.mb)]).run Tryz.prog (w.drewN n) = .ok (.int .i64 ((lsQ cap ev M).length : Int)) (w.drewN n) := fun n ty => (hb.nam.keep (w' := w.drewN n) rfl).len ty
  obtain ⟨c0, -, -, c3, -, -⟩ := ownQ_cells hb.own
  generalize (lsQ cap ev M).length = m at *
  clear h hb
  have hsub : IntKind.i64.wrap ((cap : Int) - (m : Int)) = ((cap - m : Nat) : Int) := by rw [IntWalk.i64_in _ (by omega)]; omega
  go_enter Tryz.func23, Tryz.ntmps23
  go_wp2_with (first | (go_at_call 42; refine HI.out.mono ?_; rintro e w2 ⟨rfl, rfl⟩) | fail)
  go_quiet (fail)
  go_wp2
  go_ret
  exact ⟨rfl, rfl, rfl, rfl, Nat.le_refl _, fun _ _ => rfl⟩
end
end Go.Proofs.YtcjkeobjojmpfaaGreat
end
