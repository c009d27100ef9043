/-
  CONTRACT of fermatalaw03.spoil at one list of bytes of the call's own: no other block is written.
-/
import Derived.Test.YtlohggdabpfkhaaRef03c
import Derived.LoopN
namespace Go.Proofs.Ytlohggdabpfkhaa
open Go.RowKit Go.Shelf Pl

/-- From a place on the cells are bytes. -/
def Left8 (w : World) (g cap n k : Nat) : Prop := ∃ cur : Array Value, w.heap[g]? = some (.cells cur 5 (0, 0)) ∧ cur.size = cap ∧ ∀ j, k ≤ j → j < n → ∃ z : Nat, z < 256 ∧ cur[j]? = some (.int .u8 z)
theorem Left8.step {w : World} {g cap n k : Nat} (h : Left8 w g cap n k) (u : Value) : Left8 (w.setCell ⟨g, k, none⟩ u) g cap n (k + 1) := by
  obtain ⟨cur, h1, h2, h3⟩ := h
  refine ⟨_, setCell_cells h1 k u, by simpa using h2, fun j hj hn => ?_⟩
  obtain ⟨z, hz, e⟩ := h3 j (by omega) hn
  exact ⟨z, hz, by rw [Array.getElem?_modify, if_neg (by omega)]; exact e⟩
theorem Left8.cell {w : World} {g cap n k : Nat} (h : Left8 w g cap n k) (hk : k < n) : ∃ z : Nat, z < 256 ∧ w.cell? ⟨g, k, none⟩ = some (.int .u8 z) ∧ w.frozen? ⟨g, k, none⟩ = false := by
  obtain ⟨cur, h1, h2, h3⟩ := h
  obtain ⟨z, hz, e⟩ := h3 k (Nat.le_refl _) hk
  exact ⟨z, hz, by simp [World.cell?, h1, e], by simp [World.frozen?, h1]⟩
theorem left8_of {w : World} {base g cap n : Nat} {l : List Nat} (h : Own8 w base (.slice (some ⟨g, 0, none⟩) n cap) l) (hb : AllB l) : n = l.length ∧ n ≤ cap ∧ cap ≤ maxLen ∧ Left8 w g cap n 0 := by
  obtain ⟨hlen, ⟨e, _⟩ | ⟨g2, cap2, cur, e, q1, q2, q3, q4, q5, q6⟩⟩ := h
  · simp at e
  · simp only [Value.slice.injEq, Option.some.injEq, Addr.mk.injEq, and_true] at e
    obtain ⟨rfl, rfl, rfl⟩ := e
    refine ⟨rfl, q3, q4, cur, q2, by simpa using q5, fun j _ hj => ⟨gt l j, gt_lt hb j, ?_⟩⟩
    have e : (cur.toList.take (l.length * 1))[j]? = (l.map B8)[j]? := by rw [q6]
    rw [List.getElem?_take, if_pos (by omega)] at e
    simp only [Array.getElem?_toList] at e
    rw [e]
    simp [B8, gt, hj]

set_option maxRecDepth 100000 in
set_option maxHeartbeats 2000000 in
theorem spoil1_calls (x : Value) (l : List Nat) (base lb : Nat) (w : World) (ho : Own8 w base x l) (hb : AllB l) (hl : w.heap[lb]? = some (.cells #[x] 23 (0, 0))) :
    Calls Try.prog 79 #[.slice (some ⟨lb, 0, none⟩) 1 1] w fun e w' => (∃ r, e = .returned r) ∧ w.grownBy w' x.ownBlock := by
  have hc : w.cell? ⟨lb, 0, none⟩ = some x := by simp [World.cell?, hl]
  have HG0 := Lib.hid (show w.grownBy w none from ⟨rfl, rfl, rfl, Nat.le_refl _, fun _ _ _ => rfl⟩)
  rcases ho.2 with ⟨rfl, h0⟩ | ⟨g, cap, cur, rfl, -⟩
  · clear hl ho
    go_enter Try.func79, Try.ntmps79
    go_wp2_with fail
    refine wp_loop_rounds 2 ?_
    rw [rounds_succ]
    go_wp2_with fail
    go_loopw [13] (fun i wr => i = .int .i64 0 ∧ wr = w) (fun _ _ => 0)
    case atStart => exact ⟨rfl, rfl⟩
    case round =>
      obtain ⟨rfl, rfl⟩ := hrel
      go_wp2_with fail
      rw [rounds_succ]
      go_wp2
      go_end0
      exact ⟨⟨_, rfl⟩, HG0.out⟩
  · obtain ⟨hn, hnc, hcm, hL⟩ := left8_of ho hb
    have HL := Lib.hid hL
    have hne : lb ≠ g := by
      intro e
      obtain ⟨c2, h1, _⟩ := hL
      rw [← e, hl] at h1
      simp at h1
    have HNe := Lib.hid hne
    have HLb := Lib.hid hl
    unfold maxLen at hcm
    generalize l.length = n at *
    clear hL hl ho hne
    go_enter Try.func79, Try.ntmps79
    go_wp2_with fail
    refine wp_loop_rounds 2 ?_
    rw [rounds_succ]
    go_wp2_with fail
    go_loopw [4, 13] (fun _ i wr => ∃ k : Nat, k ≤ n ∧ i = .int .i64 k ∧ w.grownBy wr (some g) ∧ Left8 wr g cap n k) (fun _ i _ => n - (intOf i).toNat)
    case atStart => exact ⟨0, Nat.zero_le _, rfl, ⟨rfl, rfl, rfl, Nat.le_refl _, fun _ _ _ => rfl⟩, HL.out⟩
    case round =>
      obtain ⟨k, hk, rfl, hg, hL⟩ := hrel
      have HG := Lib.hid hg
      have HL1 := Lib.hid hL
      by_cases hlt : k < n
      · obtain ⟨z, hz, c1, f1⟩ := hL.cell hlt
        clear hg hL
        go_wp2_with fail
        go_roundw
        case rel => exact ⟨k + 1, by omega, by go_num, HG.out.trans (grownBy_setCell _ g k _), HL1.out.step _⟩
        case measure => simp [intOf]; omega
      · obtain rfl : k = n := by omega
        clear hL hg
        go_wp2_with fail
        rw [rounds_succ]
        go_wp2
        go_end0
        exact ⟨⟨_, rfl⟩, HG.out⟩
end Go.Proofs.Ytlohggdabpfkhaa
