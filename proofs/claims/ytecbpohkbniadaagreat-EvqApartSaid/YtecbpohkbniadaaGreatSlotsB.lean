/-
  CONTRACTS of slices.Backward at spots, and of slots' New.
-/
import Derived.Test.YtecbpohkbniadaaGreatSlotsA
import Derived.Test.YtecbpohkbniadaaGreatRangeKeptK
import Derived.Laws.OwnMore
import Derived.Shelf.Abstract
import Derived.OwnWalkIn
import Derived.TacticsInMore
import Derived.LoopNIn
import Derived.LoopIn
import Derived.WalkMore
import Derived.Test.YtecbpohkbniadaaGreatOwnBlk
namespace Go.Proofs.YtecbpohkbniadaaGreat.Sl
open Go.RowKit

attribute [local go_sem] Oper.semAt_some

theorem info_spot : (Tryz.prog.info? 163).map (fun i => (i.zero, i.size, i.bytes)) = some (some (.agg #[.int .i64 0, .int .i64 0, .bool false, .int .i64 0]), 4, 32) := by kernel_rfl
theorem made4 (a b c d : Value) (N j : Nat) (h : j < N) : (madeCells #[a, b, c, d] N)[j]? = some (#[a, b, c, d][j % 4]!) := by
  unfold madeCells
  rw [Array.getElem?_map, Array.getElem?_range, if_pos h]
  rfl
theorem make_spots (n : Nat) (hn : n ≤ 1024) (w : World) : ∃ w', (Instr.makeSlice 156 (.int .i64 (n : Int)) (.int .i64 (n : Int))).run Tryz.prog w = .ok (.slice (some ⟨w.heap.size, 0, none⟩) n n) w' ∧ SRow w' w.heap.size n (newT n) (fun _ => 0) ∧ Below w.heap.size w w' := by
  obtain ⟨i0, hi, hz0, hz1, hz2⟩ := info_parts info_spot
  obtain ⟨w', hr, h2, h3⟩ := run_make_full (P := Tryz.prog) w w.heap.size 156 163 i0 _ 4 Tryz.underlying156 hi hz0 hz1 .i64 .i64 n (by rw [hz2]; omega) (by unfold maxLen; omega) (Nat.le_refl _)
  refine ⟨w', hr, ?_, ⟨h3.os, h3.tape, h3.output, h3.size, fun k hk => h3.block k hk (by simp)⟩⟩
  obtain ⟨_, ⟨e, _⟩ | ⟨g, cap, cur, e, _, hg, hn2, hm, hs, ht⟩⟩ := h2
  · cases e
  · cases e
    refine ⟨⟨cur, hg, hs⟩, fun p hp => ?_⟩
    have cc : ∀ j, j < n * 4 → w'.cell? ⟨w.heap.size, j, none⟩ = some (#[Value.int .i64 0, .int .i64 0, .bool false, .int .i64 0][j % 4]!) := fun j hj => by
      have h1 : w'.cell? ⟨w.heap.size, j, none⟩ = cur[j]? := by simp [World.cell?, hg]
      have h4 : (cur.toList.take (n * 4))[j]? = (madeCells #[Value.int .i64 0, .int .i64 0, .bool false, .int .i64 0] (n * 4)).toList[j]? := by rw [ht]; rfl
      rw [List.getElem?_take_of_lt hj, Array.getElem?_toList, Array.getElem?_toList, made4 _ _ _ _ _ _ hj] at h4
      rw [h1, h4]
    rw [cc _ (by omega), cc _ (by omega), cc _ (by omega), cc _ (by omega)]
    rw [show p * 4 % 4 = 0 by omega, show (p * 4 + 1) % 4 = 1 by omega, show (p * 4 + 2) % 4 = 2 by omega, show (p * 4 + 3) % 4 = 3 by omega]
    exact ⟨rfl, rfl, rfl, rfl⟩
set_option maxHeartbeats 1000000 in
theorem bwdS_calls (a : Option Addr) (m c : Nat) (w : World) :
    Calls Tryz.prog 95 #[.slice a m c] w fun e w' => e = .returned (.func (.func 127) #[] #[.pointer (some ⟨w.heap.size, 0, none⟩)]) ∧ w' = w.alloc (.cells #[.slice a m c] 156) := by
  go_enter Tryz.func95, Tryz.ntmps95
  go_wp2
  go_ret
  exact ⟨rfl, rfl⟩
/-- What the iterator reads, k places from the end. -/
def BwdS (Bt g n : Nat) (k : Nat) (W : World) : Prop := Boxed W Bt 156 (.slice (some ⟨g, 0, none⟩) n n) ∧ ∀ p, p + k + 1 = n → W.cell? ⟨g, p * 4, none⟩ = some (.int .i64 0) ∧ W.cell? ⟨g, p * 4 + 1, none⟩ = some (.int .i64 0) ∧ W.cell? ⟨g, p * 4 + 2, none⟩ = some (.bool false) ∧ W.cell? ⟨g, p * 4 + 3, none⟩ = some (.int .i64 0)
set_option maxRecDepth 100000 in
set_option maxHeartbeats 2000000 in
theorem bwdS_kept (r : Nat) (hr : 1 ≤ r) (Bt g n : Nat) (hn : n ≤ 1024) :
    SeqKeptK Fence.wide r Tryz.prog 127 #[.pointer (some ⟨Bt, 0, none⟩)] (fun k => #[.int .i64 ((n - 1 - k : Nat) : Int), .agg #[.int .i64 0, .int .i64 0, .bool false, .int .i64 0]]) n (BwdS Bt g n) := by
  intro l J Jx W hJA hJx hSt hY h0
  have hY0 := Lib.hid hY
  have hJ0 := Lib.hid hJA
  have hS0 := Lib.hid hSt
  have HJ00 := Lib.hid h0
  obtain ⟨k1, -⟩ := hSt 0 W h0
  have c1 := k1.cell
  have hw1 : IntKind.i64.wrap ((n : Int) - 1) = (n : Int) - 1 := by rw [IntKind.wrap_i64]; omega
  clear hY hJA hJx hSt h0 k1
  refine callsIn_of_wp Tryz.func127 rfl trivial ?_ rfl
  simp only [Tryz.ntmps127, List.size_toArray, List.length_cons, List.length_nil, Nat.reduceAdd, Nat.reduceSub, Array.replicate_succ, Array.replicate_zero, List.push_toArray, List.append_toArray, List.nil_append, List.cons_append]
  gi_wp2
  gi_loopw [3] (fun jv wr => ∃ k : Nat, k ≤ n ∧ jv = .int .i64 ((n : Int) - 1 - (k : Int)) ∧ J k wr) (fun jv _ => (intOf jv + 1).toNat)
  case atStart => exact ⟨0, Nat.zero_le _, by simp, HJ00.out⟩
  case round =>
    obtain ⟨k, hk, rfl, hJ⟩ := hrel
    have HJ := Lib.hid hJ
    obtain ⟨k1, k2⟩ := hS0.out k wr hJ
    have c2 := k1.cell
    clear hJ k1 c1
    by_cases hlt : k < n
    · obtain ⟨p, hp⟩ : ∃ p : Nat, p + k + 1 = n := ⟨n - 1 - k, by omega⟩
      have e0 : (n : Int) - 1 - (k : Int) = (p : Int) := by omega
      have e0' : n - 1 - k = p := by omega
      obtain ⟨x0, x1, x2, x3⟩ := k2 p hp
      have e1 : (p : Int) < (n : Int) := by omega
      have e2 : (p : Int) ≥ 0 := by omega
      have hw2 : IntKind.i64.wrap ((p : Int) - 1) = (p : Int) - 1 := by rw [IntKind.wrap_i64]; omega
      obtain ⟨fn, tmps, assign, body, hy, hR⟩ := hY0.out k _ hlt HJ.out
      rw [e0'] at hy
      have HR := Lib.hid hR
      have HN := Lib.hid hp
      rw [e0]
      clear hR k2 e0 e0' hp
      gi_wp2_with fail
      refine HR.out.mono ?_
      rintro e W3 (⟨rfl, hJ3⟩ | ⟨rfl, hJx3⟩)
      · have HJ3 := Lib.hid hJ3
        clear hJ3
        gi_wp2
        go_roundw
        case rel => exact ⟨k + 1, hlt, by have := HN.out; congr 1; omega, HJ3.out⟩
        case measure => simp [intOf]
      · gi_wp2
        refine bodyPost_ret (results_none rfl _ _ _) rfl ?_
        exact ⟨⟨_, rfl⟩, .inr ⟨k, hlt, hJx3⟩⟩
    · obtain rfl : k = n := by omega
      have e2 : ¬ (k : Int) - 1 - (k : Int) ≥ 0 := by omega
      clear k2 hlt
      gi_wp2
      refine bodyPost_end (results_none rfl _ _ _) rfl ?_
      exact ⟨⟨_, rfl⟩, .inl HJ.out⟩

theorem SRow.congr {w : World} {g n : Nat} {S : Tb} {nx ny : Nat → Int} (h : SRow w g n S nx) (e : ∀ p, p < n → ny p = nx p) : SRow w g n S ny :=
  ⟨h.blk, fun p hp => by rw [e p hp]; exact h.cell p hp⟩
theorem TA.cells {w w' : World} {q g n k : Nat} {S : Tb} (h : TA w q g n k S) (hc : KeepsCells w w') : TA w' q g n k S := by
  obtain ⟨nx, f, h⟩ := h.ex
  obtain ⟨cur, hcu, _⟩ := h.row.blk
  exact ⟨nx, f, h.keep ((hc _ _ h.own rfl).trans h.own.symm) ((hc _ _ hcu rfl).trans hcu.symm)⟩
theorem cells_two {w : World} {q g n k t wo : Nat} {f : Int} {S : Tb} {nx : Nat → Int} (h1 : w.heap[q]? = some (ownS g n k f t wo)) (h2 : SRow w g n S nx) : ∀ (j : Nat) (o : Obj), Q2 q g j → w.heap[j]? = some o → o.isCells = true := by
  rintro j o (rfl | rfl) ho
  · rw [h1] at ho; cases ho; rfl
  · obtain ⟨cur, hcu, _⟩ := h2.blk
    rw [hcu] at ho; cases ho; rfl
/-- How New's loop stands after k rounds. -/
structure NewAt (w W : World) (q g n lv : Nat) (sb bt : Nat) (k : Nat) : Prop where
  own : W.heap[q]? = some (ownS g n lv (if k = 0 then -1 else ((n - k : Nat) : Int)) 0 0)
  row : SRow W g n (newT n) (fun p => if n - k ≤ p then (if p + 1 < n then ((p + 1 : Nat) : Int) else -1) else 0)
  sbx : Boxed W sb 83 (.pointer (some ⟨q, 0, none⟩))
  btx : Boxed W bt 156 (.slice (some ⟨g, 0, none⟩) n n)
  bel : Below w.heap.size w W
theorem NewAt.own' {w W : World} {q g n lv sb bt : Nat} (h1 : 1 ≤ lv) (h : NewAt w W q g n lv sb bt n) : W.heap[q]? = some (ownS g n lv (if n = 0 then -1 else 0) (cnt n (newT n).tk) (cnt n (wornF lv (newT n)))) := by
  have e1 : cnt n (newT n).tk = 0 := cnt_none n _ fun _ _ => rfl
  have e2 : cnt n (wornF lv (newT n)) = 0 := cnt_none n _ fun p _ => by
    show (!false && decide (0 = lv)) = false
    have : ¬ 0 = lv := by omega
    simp [this]
  rw [e1, e2]
  have := h.own
  rw [Nat.sub_self] at this
  exact this
theorem NewAt.links {w W : World} {q g n lv sb bt : Nat} (_ : NewAt w W q g n lv sb bt n) : Links (fun p => if n - n ≤ p then (if p + 1 < n then ((p + 1 : Nat) : Int) else -1) else 0) (if n = 0 then -1 else 0) (newT n).free := by
  have h := links_range n n (Nat.le_refl _) (fun p => if n - n ≤ p then (if p + 1 < n then ((p + 1 : Nat) : Int) else -1) else 0) (fun p _ _ => by rw [if_pos (by omega)])
  rw [Nat.sub_self, List.drop_zero] at h
  show Links _ _ (List.range n)
  simpa using h
theorem NewAt.keep {w W W' : World} {q g n lv sb bt k : Nat} (h : NewAt w W q g n lv sb bt k) (hc : KeepsCells W W') (hb : Below w.heap.size w W') : NewAt w W' q g n lv sb bt k := by
  obtain ⟨cur, hcu, _⟩ := h.row.blk
  exact ⟨hc _ _ h.own rfl, h.row.keep ((hc _ _ hcu rfl).trans hcu.symm), hc _ _ h.sbx rfl, hc _ _ h.btx rfl, hb⟩
set_option maxRecDepth 100000 in
set_option maxHeartbeats 4000000 in
theorem new_in (r : Nat) (hr : 5 ≤ r) (n lv : Nat) (hn : n ≤ 1024) (h1 : 1 ≤ lv) (h2 : lv ≤ 4294967296) (w : World) :
    CallsIn Fence.wide r Tryz.prog 67 #[.int .i64 (n : Int), .int .i64 (lv : Int)] w fun e w' => ∃ q g, e = .returned (.tuple #[.pointer (some ⟨q, 0, none⟩), .int .i64 0]) ∧ TA w' q g n lv (newT n) ∧ Below w.heap.size w w' ∧ w.heap.size ≤ q ∧ w.heap.size ≤ g := by
  have e1 : ¬ (n : Int) < 0 := by omega
  have e2 : ¬ (n : Int) > 1024 := by omega
  have e3 : ¬ (lv : Int) < 1 := by omega
  have e4 : ¬ (lv : Int) > 4294967296 := by omega
  obtain ⟨w1, hmk, hrow1, hb1⟩ := make_spots n hn w
  have HR1 := Lib.hid hrow1
  have HB1 := Lib.hid hb1
  have HN := Lib.hid hn
  have HL := Lib.hid (And.intro h1 h2)
  clear hrow1 hb1 hn h1 h2
  refine callsIn_of_wp_marks Tryz.func67 rfl trivial ?_ rfl
  simp only [Tryz.ntmps67, List.size_toArray, List.length_cons, List.length_nil, Nat.reduceAdd, Nat.reduceSub, Array.replicate_succ, Array.replicate_zero, List.push_toArray, List.append_toArray, List.nil_append, List.cons_append]
  gi_wp2_with fail
  refine ⟨trivial, (by intro _; omega), ((callsIn_wide (n := r - 1)).2 (bwdS_calls _ _ _ _)).mono ?_⟩
  rintro e w3 ⟨rfl, rfl⟩
  have hq : w1.heap.size ≠ w.heap.size := by have := HR1.out.lt; omega
  have hs : w.heap.size ≤ w1.heap.size := HB1.out.size
  obtain ⟨W0, hW0⟩ : ∃ W0, W0 = ((w1.alloc (.cells #[.slice (some ⟨w.heap.size, 0, none⟩) n n, .int .i64 (-1), .int .i64 (lv : Int), .int .i64 0, .int .i64 0, .bool true] 158)).alloc (.cells #[.pointer (some ⟨w1.heap.size, 0, none⟩)] 83)).alloc (.cells #[.slice (some ⟨w.heap.size, 0, none⟩) n n] 156) := ⟨_, rfl⟩
  have hsz : W0.heap.size = w1.heap.size + 1 + 1 + 1 := by rw [hW0]; simp
  have hb0 : Below w1.heap.size w1 W0 := by
    rw [hW0]
    exact (((Below.refl _ _).alloc (Nat.le_refl _) _).alloc (by simp) _).alloc (by simp; omega) _
  have h0 : NewAt w W0 w1.heap.size w.heap.size n lv (w1.heap.size + 1) (w1.heap.size + 1 + 1) 0 := by
    have x1 : W0.heap[w1.heap.size]? = some (ownS w.heap.size n lv (-1) 0 0) := by
      rw [hW0]
      exact (Below.heap_alloc _ _ _ (by simp; omega)).trans ((Below.heap_alloc _ _ _ (by simp)).trans (World.alloc_heap_new w1 _))
    refine ⟨x1, ?_, ?_, ?_, HB1.out.trans (hb0.mono hs)⟩
    · have := HR1.out.keep (hb0.block _ HR1.out.lt)
      refine ⟨this.blk, fun p hp => ?_⟩
      have c := this.cell p hp
      rw [if_neg (by omega)]
      exact c
    · rw [hW0]
      have := (Boxed.new (w1.alloc (.cells #[.slice (some ⟨w.heap.size, 0, none⟩) n n, .int .i64 (-1), .int .i64 (lv : Int), .int .i64 0, .int .i64 0, .bool true] 158)) 83 (.pointer (some ⟨w1.heap.size, 0, none⟩))).alloc (.cells #[.slice (some ⟨w.heap.size, 0, none⟩) n n] 156)
      simpa only [World.size_alloc] using this
    · rw [hW0]
      have := Boxed.new ((w1.alloc (.cells #[.slice (some ⟨w.heap.size, 0, none⟩) n n, .int .i64 (-1), .int .i64 (lv : Int), .int .i64 0, .int .i64 0, .bool true] 158)).alloc (.cells #[.pointer (some ⟨w1.heap.size, 0, none⟩)] 83)) 156 (.slice (some ⟨w.heap.size, 0, none⟩) n n)
      simpa only [World.size_alloc] using this
  have H0 := Lib.hid h0
  have HS := Lib.hid hsz
  have HQ := Lib.hid hq
  gi_wp2_with fail
  rw [← hW0]
  clear hW0 h0 hsz hb0 hmk hq
  refine wpIn_rangeKeptK (encs := fun k => #[.int .i64 ((n - 1 - k : Nat) : Int), .agg #[.int .i64 0, .int .i64 0, .bool false, .int .i64 0]]) (N := n) (St := BwdS (w1.heap.size + 1 + 1) w.heap.size n) rfl (by omega) (gf := 127) (lb := #[.pointer (some ⟨w1.heap.size + 1 + 1, 0, none⟩)]) rfl trivial (enters_of Tryz.func127 (by kernel_rfl) rfl)
    (bwdS_kept (r - 1) (by omega) (w1.heap.size + 1 + 1) w.heap.size n HN.out)
    (fun _ => rfl)
    (fun k W => NewAt w W w1.heap.size w.heap.size n lv (w1.heap.size + 1) (w1.heap.size + 1 + 1) k)
    (fun _ _ _ => False)
    (fun k W h => ⟨h.btx, fun p hp => by
      obtain ⟨a0, a1, a2, a3⟩ := h.row.cell p (by omega)
      rw [if_neg (by omega)] at a3
      exact ⟨a0, a1, a2, a3⟩⟩)
    (ownFrom_cells _ (fun k W W' hI hc hb => hI.keep hc (hI.bel.trans (hb.mono (by rw [HS.out]; omega)))) (fun k W hI => by rw [HS.out]; exact hI.btx.lt))
    (fun c => ownFrom_pure _ _)
    H0.out
    (fun k a' _ => a' = { tmps := #[.int .i64 (n : Int), .int .i64 (lv : Int), undef, undef, .pointer none, .int .i64 0, .pointer (some ⟨w1.heap.size + 1, 0, none⟩), .int .i64 ((n - 1 - k : Nat) : Int), .int .i64 (n : Int), .bool false, .bool false, .int .i64 (n : Int), .bool false, .bool false, .bool false, .int .i64 (lv : Int), .bool false, .bool false, .bool false, .int .i64 (lv : Int), .bool false, .bool false, .int .i64 (n : Int), .slice (some ⟨w.heap.size, 0, none⟩) n n, .int .i64 (lv : Int), .agg #[.slice (some ⟨w.heap.size, 0, none⟩) n n, .int .i64 (-1), .int .i64 (lv : Int), .int .i64 0, .int .i64 0, .bool true], .pointer (some ⟨w1.heap.size, 0, none⟩), .pointer (some ⟨w1.heap.size, 0, none⟩), .pointer (some ⟨w1.heap.size, 0, none⟩), .pointer (some ⟨w1.heap.size, 0, none⟩), .slice (some ⟨w.heap.size, 0, none⟩) n n, .func (.func 127) #[] #[.pointer (some ⟨w1.heap.size + 1 + 1, 0, none⟩)], .int .i64 ((n - 1 - k : Nat) : Int), .agg #[.int .i64 0, .int .i64 0, .bool false, .int .i64 0], undef, undef, undef, undef], defers := [] })
    (fun k a' => ownFrom_pure _ _) ?assign ?body ?done ?stop
  case assign =>
    intro l k W K hk hI hK
    gi_wp2
    exact hK _ _ (KeepsFrom.refl _ _) hI rfl
  case body =>
    rintro l k a' W hk hI rfl
    have HI := Lib.hid hI
    have cb := hI.sbx.cell
    obtain ⟨p, hp⟩ : ∃ p : Nat, n - 1 - k = p := ⟨_, rfl⟩
    have HP := Lib.hid hp
    have HLk := Lib.hid (link_raw hI.own hI.row HQ.out p (by omega))
    rw [hp]
    clear hI hp
    gi_wp2_with fail
    refine ⟨trivial, (by intro _; omega), (CallsIn.inRound l (callsIn_wide.2 HLk.out)).mono ?_⟩
    rintro e W2 ⟨rfl, g1, g2, g3⟩
    have G1 := Lib.hid g1; have G2 := Lib.hid g2; have G3 := Lib.hid g3
    clear g1 g2 g3
    gi_wp2_with fail
    have hI := HI.out
    have hp := HP.out
    have hsw := HS.out
    have hq2 := HQ.out
    refine ⟨keepsFrom_off G3.out (cells_two hI.own hI.row), ?_, (G2.out).congr fun r hr => ?_, ?_, ?_, hI.bel.trans (G3.out.below (by rintro j (rfl | rfl) <;> omega) hI.bel.size)⟩
    · rw [if_neg (by omega), show n - (k + 1) = p by omega]
      exact G1.out
    · by_cases e : r = p
      · rw [if_pos e, if_pos (by omega)]
        by_cases e2 : k = 0
        · rw [if_pos e2, if_neg (by omega)]
        · rw [if_neg e2, if_pos (by omega), show n - k = r + 1 by omega]
      · rw [if_neg e]
        by_cases e3 : n - k ≤ r
        · rw [if_pos e3, if_pos (by omega)]
        · rw [if_neg e3, if_neg (by omega)]
    · exact (G3.out.block _ hI.sbx.lt (by rintro (e | e) <;> omega)).trans hI.sbx
    · exact (G3.out.block _ hI.btx.lt (by rintro (e | e) <;> omega)).trans hI.btx
  case done =>
    intro D W hD hI hK
    have HI := Lib.hid hI; have HK := Lib.hid hK; have HDD := Lib.hid hD
    have cb := hI.sbx.cell
    clear hI hK hD
    gi_wp2_with fail
    have hsw := HS.out
    have hD0 := HDD.out
    have hG := grownBy_putObj' W D (.deferred none)
    have hKC : KeepsCells W (W.putObj D (.deferred none)) := KeepsCells.of_grown hG (fun r e => by cases e; exact ⟨_, HK.out, rfl⟩)
    have hOff : Off (fun j => j = D) W (W.putObj D (.deferred none)) := Off.of_grown hG (fun j e => by cases e; rfl)
    have hI := HI.out
    refine ⟨by simp, .inl ⟨_, _, rfl, run_takeDeferred HK.out, ?_⟩⟩
    refine ⟨.tuple #[.pointer (some ⟨w1.heap.size, 0, none⟩), .int .i64 0], by simp [results, Tryz.f67, go_sem], w1.heap.size, w.heap.size, rfl, TA.cells ⟨_, _, hI.own' HL.out.1, hI.row, hI.links, TOk.new n HL.out.1, HQ.out, HN.out, HL.out⟩ hKC, hI.bel.trans (hOff.below (by rintro j rfl; omega) hI.bel.size), hs, Nat.le_refl _⟩
  case stop =>
    rintro D c k W hD hk h hK
    exact h.elim
theorem new_calls (n lv : Nat) (hn : n ≤ 1024) (h1 : 1 ≤ lv) (h2 : lv ≤ 4294967296) (w : World) :
    Calls Tryz.prog 67 #[.int .i64 (n : Int), .int .i64 (lv : Int)] w fun e w' => ∃ q g, e = .returned (.tuple #[.pointer (some ⟨q, 0, none⟩), .int .i64 0]) ∧ TA w' q g n lv (newT n) ∧ Below w.heap.size w w' ∧ w.heap.size ≤ q ∧ w.heap.size ≤ g :=
  (callsIn_wide (n := 5)).1 (new_in 5 (by omega) n lv hn h1 h2 w)
set_option maxHeartbeats 1000000 in
theorem new_no (p lv : Int) (h : p < 0 ∨ 1024 < p ∨ lv < 1 ∨ 4294967296 < lv) (w : World) :
    Calls Tryz.prog 67 #[.int .i64 p, .int .i64 lv] w fun e w' => e = .returned (.tuple #[.pointer none, .int .i64 2]) ∧ w = w' := by
  by_cases c1 : p < 0
  · go_enter Tryz.func67, Tryz.ntmps67
    go_wp2_with fail
    go_ret2
    exact ⟨rfl, rfl⟩
  · by_cases c2 : p > 1024
    · go_enter Tryz.func67, Tryz.ntmps67
      go_wp2_with fail
      go_ret2
      exact ⟨rfl, rfl⟩
    · by_cases c3 : lv < 1
      · go_enter Tryz.func67, Tryz.ntmps67
        go_wp2_with fail
        go_ret2
        exact ⟨rfl, rfl⟩
      · have c4 : lv > 4294967296 := by omega
        go_enter Tryz.func67, Tryz.ntmps67
        go_wp2_with fail
        go_ret2
        exact ⟨rfl, rfl⟩
end Go.Proofs.YtecbpohkbniadaaGreat.Sl
