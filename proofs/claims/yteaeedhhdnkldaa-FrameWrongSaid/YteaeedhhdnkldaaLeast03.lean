/-
  CONTRACT of fermatalaw03.least: bytes that make a frame of a beginning; nothing that was there is written.
-/
import Derived.Test.YteaeedhhdnkldaaFrm03
import Derived.Test.YteaeedhhdnkldaaMade03
import Derived.Laws.OwnMore
namespace Go.Proofs.Yteaeedhhdnkldaa
open Go.RowKit Go.Shelf Pl

/-- make([]byte, n). -/
theorem make8 (n : Nat) (hn : n ≤ 100000) (w : World) : ∃ w', (Instr.makeSlice 22 (.int .i64 n) (.int .i64 n)).run Try.prog w = .ok (.slice (some ⟨w.heap.size, 0, none⟩) n n) w' ∧ Own8 w' w.heap.size (.slice (some ⟨w.heap.size, 0, none⟩) n n) (List.replicate n 0) ∧ Below w.heap.size w w' := by
  obtain ⟨i0, hi, hz0, hz1, hz2⟩ := info_parts info_u8
  obtain ⟨w', hr, h2, h3⟩ := run_make_full (P := Try.prog) w w.heap.size 22 5 i0 (.int .u8 0) 1 Try.underlying22 hi hz0 hz1 .i64 .i64 n (by rw [hz2]; omega) (by unfold maxLen; omega) (Nat.le_refl _)
  refine ⟨w', hr, ?_, (Below.refl _ _).grown h3 (Nat.le_refl _) (fun k e => by cases e)⟩
  have e : (madeCells (Value.int .u8 0).cells (n * 1)).toList = (List.replicate n 0).map B8 := by
    rw [List.map_replicate, Nat.mul_one]
    have hv : (Value.int IntKind.u8 0).cells = #[B8 0] := rfl
    rw [hv]
    unfold madeCells
    have hf : (fun k : Nat => (#[B8 0] : Array Value)[k % (#[B8 0] : Array Value).size]!) = fun _ => B8 0 := by
      funext k
      have : k % (#[B8 0] : Array Value).size = 0 := Nat.mod_one k
      rw [this]
      rfl
    show ((Array.range n).map (fun k : Nat => (#[B8 0] : Array Value)[k % (#[B8 0] : Array Value).size]!)).toList = _
    rw [hf, Array.toList_map, Array.toList_range, List.map_const', List.length_range]
  rw [e] at h2
  unfold Own8
  rw [List.length_replicate]
  exact h2
/-- A byte is written into a row of the call's own. -/
theorem own8_set {w : World} {base g n c i d : Nat} {l : List Nat} (h : Own8 w base (.slice (some ⟨g, 0, none⟩) n c) l) (hi : i < l.length) : Own8 (w.setCell ⟨g, i, none⟩ (B8 d)) base (.slice (some ⟨g, 0, none⟩) n c) (l.set i d) := by
  obtain ⟨hlen, ⟨e, _⟩ | ⟨g2, cap, cur, e, q1, q2, q3, q4, q5, q6⟩⟩ := h
  · simp at e
  simp only [Value.slice.injEq, Option.some.injEq, Addr.mk.injEq, and_true] at e
  obtain ⟨rfl, rfl, rfl⟩ := e
  refine ⟨by simp, .inr ⟨g, c, cur.modify i (fun _ => B8 d), by rw [List.length_set], q1, setCell_cells q2 i (B8 d), by rw [List.length_set]; exact q3, q4, by rw [Array.size_modify]; exact q5, ?_⟩⟩
  rw [List.length_set, Nat.mul_one] at *
  refine List.ext_getElem? fun j => ?_
  have e : (cur.toList.take l.length)[j]? = (l.map B8)[j]? := by rw [q6]
  rw [List.getElem?_take] at e
  rw [List.getElem?_take, List.getElem?_map, List.getElem?_set]
  simp only [Array.getElem?_toList, Array.getElem?_modify, List.getElem?_map] at e ⊢
  by_cases hj : j < l.length
  · rw [if_pos hj] at e ⊢
    by_cases hij : i = j
    · subst hij
      rw [if_pos rfl, if_pos rfl, if_pos hi, e, List.getElem?_eq_getElem hi]
      rfl
    · rw [if_neg hij, if_neg hij, e]
  · rw [if_neg hj, if_neg (by omega), List.getElem?_eq_none (by omega)]
    rfl
theorem own8_cell {w : World} {base g n c i : Nat} {l : List Nat} (h : Own8 w base (.slice (some ⟨g, 0, none⟩) n c) l) (hi : i < l.length) : w.cell? ⟨g, i, none⟩ = some (B8 (gt l i)) ∧ w.frozen? ⟨g, i, none⟩ = false := by
  obtain ⟨hlen, ⟨e, _⟩ | ⟨g2, cap, cur, e, q1, q2, q3, q4, q5, q6⟩⟩ := h
  · simp at e
  simp only [Value.slice.injEq, Option.some.injEq, Addr.mk.injEq, and_true] at e
  obtain ⟨rfl, rfl, rfl⟩ := e
  refine ⟨?_, by simp [World.frozen?, q2]⟩
  rw [cell_of_row w g i cur _ (0, 0) q2]
  have e : (cur.toList.take (l.length * 1))[i]? = (l.map B8)[i]? := by rw [q6]
  rw [List.getElem?_take, if_pos (by omega), List.getElem?_map, List.getElem?_eq_getElem hi] at e
  simp only [Array.getElem?_toList] at e
  rw [e]
  simp [gt, List.getD_eq_getElem?_getD, hi]

set_option maxRecDepth 100000 in
set_option maxHeartbeats 2000000 in
theorem least_calls (v : Value) (p : List Nat) (n : Nat) (w : World) (h : BRow w v p) (h1 : 1 ≤ n) (hn : n ≤ 100000) :
    Calls Try.prog 44 #[v, .int .i64 n] w fun e w' => ∃ v', e = .returned v' ∧ Own8 w' w.heap.size v' (leastL p n) ∧ Below w.heap.size w w' := by
  obtain ⟨w1, hmk, ho1, hb1⟩ := make8 n hn w
  have HO1 := Lib.hid ho1
  have HB1 := Lib.hid hb1
  obtain ⟨c1, f1⟩ := own8_cell ho1 (i := 0) (by rw [List.length_replicate]; omega)
  have hgt : gt (List.replicate n 0) 0 = 0 := by simp [gt, List.getD_eq_getElem?_getD, show 0 < n by omega]
  rw [hgt] at c1
  have c1 : w1.cell? ⟨w.heap.size, 0, none⟩ = some (.int .u8 0) := c1
  clear hgt
  have hll := h.len_le
  have hn0 : (0 : Int) < (n : Int) := by omega
  by_cases hp : p.length = 1
  · obtain ⟨x, hx⟩ : ∃ x, p = [x] := by
      match p, hp with
      | [x], _ => exact ⟨x, rfl⟩
    subst hx
    have hx := h.1 x (by simp)
    obtain ⟨_, ⟨_, _, _, e, _⟩ | ⟨b, off, cap, rfl, hc, hm, hcell⟩⟩ := h
    · cases e
    have hc0 := hcell 0 (by simp)
    simp only [Nat.add_zero, gt, List.getD_cons_zero, List.length_cons, List.length_nil, Nat.zero_add] at hc0 hc
    have hc1 := (hb1.cell (p := ⟨b, off, none⟩) (block_lt_of_cell hc0)).trans hc0
    have hset : ∀ d, List.set (List.replicate n 0) 0 d = d :: List.replicate (n - 1) 0 := fun d => by
      obtain ⟨m, rfl⟩ : ∃ m, n = m + 1 := ⟨n - 1, by omega⟩
      rw [List.replicate_succ]
      rfl
    by_cases e7 : x = 247
    · subst e7
      have hL : leastL [247] n = List.set (List.replicate n 0) 0 247 := by rw [hset]; unfold leastL; rw [if_pos rfl]
      have HF := Lib.hid (own8_set (d := 247) ho1 (i := 0) (by rw [List.length_replicate]; omega))
      have HB := Lib.hid (hb1.setCell (p := ⟨w.heap.size, 0, none⟩) (Nat.le_refl _) (B8 247))
      rw [hL]
      clear hL hset ho1 hb1 hcell hc0
      go_enter Try.func44, Try.ntmps44
      go_wp2
      go_ret
      exact ⟨_, rfl, HF.out, HB.out⟩
    by_cases e8 : x = 248
    · subst e8
      have hL : leastL [248] n = List.set (List.replicate n 0) 0 1 := by rw [hset]; unfold leastL; rw [if_neg (by decide), if_pos rfl]
      have HF := Lib.hid (own8_set (d := 1) ho1 (i := 0) (by rw [List.length_replicate]; omega))
      have HB := Lib.hid (hb1.setCell (p := ⟨w.heap.size, 0, none⟩) (Nat.le_refl _) (B8 1))
      rw [hL]
      clear hL hset ho1 hb1 hcell hc0 e7
      go_enter Try.func44, Try.ntmps44
      go_wp2
      go_ret
      exact ⟨_, rfl, HF.out, HB.out⟩
    · have hL : leastL [x] n = List.replicate n 0 := by unfold leastL; rw [if_neg (by simpa using e7), if_neg (by simpa using e8)]
      have d1 : ((x : Int) == 247) = false := by rw [beq_eq_false_iff_ne]; omega
      have d2 : ((x : Int) == 248) = false := by rw [beq_eq_false_iff_ne]; omega
      rw [hL]
      clear hL hset ho1 hb1 hcell hc0 e7 e8
      go_enter Try.func44, Try.ntmps44
      go_wp2
      go_ret
      exact ⟨_, rfl, HO1.out, HB1.out⟩
  · have hL : leastL p n = List.replicate n 0 := by unfold leastL; rw [if_neg (by rintro rfl; exact hp rfl), if_neg (by rintro rfl; exact hp rfl)]
    have d1 : ((p.length : Int) == 1) = false := by rw [beq_eq_false_iff_ne]; omega
    obtain ⟨a, c, rfl⟩ := h.shape
    rw [hL]
    clear hL ho1 hb1 hp h
    go_enter Try.func44, Try.ntmps44
    go_wp2
    go_ret
    exact ⟨_, rfl, HO1.out, HB1.out⟩
end Go.Proofs.Yteaeedhhdnkldaa
