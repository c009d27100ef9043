/-
  CONTRACTS of the law's of and at, and of SameInts; rows of the law's Small.
-/
import Derived.Test.YtjnocijfjkbaiaaMadeQ
namespace Go.Proofs.Ytjnocijfjkbaiaa
open Go.RowKit Go.Shelf

/-- An act in small numbers: kind, place, time, source. -/
abbrev Sm := Nat × Nat × Nat × Nat
def SmOk (x : Sm) : Prop := x.1 < 256 ∧ x.2.1 < 256 ∧ x.2.2.1 < 256 ∧ x.2.2.2 < 256
def vS (x : Sm) : Value := .agg #[.int .u8 (x.1 : Int), .int .u8 (x.2.1 : Int), .int .u8 (x.2.2.1 : Int), .int .u8 (x.2.2.2 : Int)]
def smq (l : List Sm) (j : Nat) : Sm := l.getD j (0, 0, 0, 0)
def keyS (x : Sm) : Ky := ((x.2.2.1 : Int) % 8, (x.2.2.2 : Int) % 3, 0)
/-- THE SLICE v OF Small READS AS l. -/
def SmRow (w : World) (v : Value) (l : List Sm) : Prop := (∀ x ∈ l, SmOk x) ∧ ((l = [] ∧ ∃ a c, v = .slice a 0 c ∧ c ≤ maxLen) ∨ ∃ b o c, v = .slice (some ⟨b, o, none⟩) l.length c ∧ b < w.heap.size ∧ l.length ≤ c ∧ c ≤ maxLen ∧
  ∀ j, j < l.length → w.cell? ⟨b, o + j * 4, none⟩ = some (.int .u8 ((smq l j).1 : Int)) ∧ w.cell? ⟨b, o + j * 4 + 1, none⟩ = some (.int .u8 ((smq l j).2.1 : Int)) ∧ w.cell? ⟨b, o + j * 4 + 2, none⟩ = some (.int .u8 ((smq l j).2.2.1 : Int)) ∧ w.cell? ⟨b, o + j * 4 + 3, none⟩ = some (.int .u8 ((smq l j).2.2.2 : Int)))
theorem SmRow.below {w w' : World} {v : Value} {l : List Sm} (h : SmRow w v l) (hb : Below w.heap.size w w') : SmRow w' v l := by
  obtain ⟨h0, h | ⟨b, o, c, rfl, h1, h2, h3, h4⟩⟩ := h
  · exact ⟨h0, .inl h⟩
  · refine ⟨h0, .inr ⟨b, o, c, rfl, Nat.lt_of_lt_of_le h1 hb.size, h2, h3, fun j hj => ?_⟩⟩
    rw [cell_blk (hb.block b h1), cell_blk (hb.block b h1), cell_blk (hb.block b h1), cell_blk (hb.block b h1)]
    exact h4 j hj
theorem SmRow.shape {w : World} {v : Value} {l : List Sm} (h : SmRow w v l) : ∃ a c, v = .slice a l.length c ∧ l.length ≤ c ∧ c ≤ maxLen := by
  obtain ⟨_, ⟨rfl, a, c, rfl, hc⟩ | ⟨b, o, c, rfl, _, h1, h2, _⟩⟩ := h
  · exact ⟨a, c, rfl, Nat.zero_le _, hc⟩
  · exact ⟨_, c, rfl, h1, h2⟩
theorem smq_ok {l : List Sm} (h : ∀ x ∈ l, SmOk x) (j : Nat) (hj : j < l.length) : SmOk (smq l j) := by
  unfold smq
  rw [List.getD_eq_getElem?_getD, List.getElem?_eq_getElem hj]
  exact h _ (List.getElem_mem hj)
set_option maxHeartbeats 1000000 in
theorem of_calls (x : Sm) (hx : SmOk x) (w : World) :
    Calls Try.prog 25 #[.agg #[.int .u8 (x.1 : Int), .int .u8 (x.2.1 : Int), .int .u8 (x.2.2.1 : Int), .int .u8 (x.2.2.2 : Int)]] w fun e w' => e = .returned (.agg #[.int .i64 (keyS x).1, .int .i64 (keyS x).2.1, .int .i64 (keyS x).2.2]) ∧ Below w.heap.size w w' := by
  obtain ⟨a, b, c, d⟩ := x
  obtain ⟨h1, h2, h3, h4⟩ := hx
  dsimp only at h3 h4
  unfold keyS
  dsimp only
  have HB := Lib.hid (fun p q : Int => ((Below.refl w.heap.size w).alloc (Nat.le_refl _) (.cells #[.int .u8 (a : Int), .int .u8 (b : Int), .int .u8 (c : Int), .int .u8 (d : Int)] 61)).alloc (by simp) (.cells #[.int .i64 p, .int .i64 q, .int .i64 0] 27))
  clear h1 h2 h3 h4
  go_enter Try.func25, Try.ntmps25
  go_wp2
  exact bodyPost_ret (v := .agg #[.int .i64 ((c : Int) % 8), .int .i64 ((d : Int) % 3), .int .i64 0]) (by simp [results, Try.results25, go_sem]) rfl ⟨rfl, HB.out _ _⟩
set_option maxHeartbeats 1000000 in
theorem at_calls (t : Int) (w : World) :
    Calls Try.prog 10 #[.int .i64 t] w fun e w' => e = .returned (.agg #[.int .i64 t, .int .i64 0, .int .i64 0]) ∧ Below w.heap.size w w' := by
  go_enter Try.func10, Try.ntmps10
  go_wp2
  exact bodyPost_ret (v := .agg #[.int .i64 t, .int .i64 0, .int .i64 0]) (by simp [results, Try.results10, go_sem]) rfl ⟨rfl, below_key w (t, 0, 0)⟩
set_option maxRecDepth 100000 in
set_option maxHeartbeats 1000000 in
/-- SameInts, of two rows that are the same. -/
theorem same_calls (g c g' c' : Nat) (l : List Int) (w : World) (h : IR w g c l) (h' : IR w g' c' l) :
    Calls Try.prog 26 #[.slice (some ⟨g, 0, none⟩) l.length c, .slice (some ⟨g', 0, none⟩) l.length c'] w fun e w' => e = .returned (.bool true) ∧ Below w.heap.size w w' := by
  have mixed : Try.prog.follows .mixedOrders = true := by kernel_rfl
  have H := Lib.hid h
  have H' := Lib.hid h'
  obtain ⟨m, hm⟩ : ∃ m, l.length = m := ⟨_, rfl⟩
  have HM := Lib.hid hm
  have hc : m ≤ 9223372036854775807 := by have := h.le; unfold maxLen at this; omega
  rw [hm]
  have hci : (m : Int) ≤ 9223372036854775807 := by omega
  clear h h' hm
  go_enter Try.func26, Try.ntmps26
  go_wp2
  go_loopw [5] (fun s5 wr => ∃ k : Nat, k ≤ m ∧ s5 = .int .i64 (k : Int) ∧ Below w.heap.size w wr) (fun s5 _ => m - (intOf s5).toNat)
  case atStart => exact ⟨0, Nat.zero_le _, rfl, Below.refl _ _⟩
  case round =>
    obtain ⟨k, hk, rfl, hB⟩ := hrel
    have HB := Lib.hid hB
    by_cases hlt : k < m
    · have x0 := (H.out.below hB).cell k (by rw [HM.out]; exact hlt)
      have y0 := (H'.out.below hB).cell k (by rw [HM.out]; exact hlt)
      have hk1 : (k : Int) < (m : Int) := by omega
      have hw1 : IntKind.i64.wrap ((k : Int) + 1) = (k : Int) + 1 := by rw [IntKind.wrap_i64]; omega
      generalize l.getD k 0 = z at *
      clear hB
      go_wp2_with fail
      go_quiet (fail)
      go_wp2_with fail
      go_roundw
      case rel => exact ⟨k + 1, hlt, by go_num, HB.out.trans ⟨rfl, rfl, rfl, Nat.le_refl _, fun _ _ => rfl⟩⟩
      case measure => simp [intOf]; omega
    · obtain rfl : k = m := by omega
      go_wp2
      go_ret
      exact ⟨rfl, HB.out⟩
end Go.Proofs.Ytjnocijfjkbaiaa
