/-
  CONTRACT of frame.bounds: where the body of a frame begins, and where the frame ends at least; nothing that was there is written.
-/
import Derived.Test.YteaeedhhdnkldaaBounds03
import Derived.Handy
import Derived.IntWalk
namespace Go.Proofs.Yteaeedhhdnkldaa
open Go.RowKit Pl

/-- The box of the sizes, and all that was there. -/
def SB (w0 W : World) (g : Nat) (lo hi : Int) : Prop := W.heap[g]? = some (.cells #[.int .i64 lo, .int .i64 hi] 193 (0, 0)) ∧ Below w0.heap.size w0 W ∧ w0.heap.size ≤ g
theorem SB.cells {w0 W : World} {g : Nat} {lo hi : Int} (h : SB w0 W g lo hi) : W.cell? ⟨g, 0, none⟩ = some (.int .i64 lo) ∧ W.cell? ⟨g, 1, none⟩ = some (.int .i64 hi) ∧ W.frozen? ⟨g, 0, none⟩ = false ∧ W.frozen? ⟨g, 1, none⟩ = false := by
  obtain ⟨h, _⟩ := h
  refine ⟨by simp [World.cell?, h], by simp [World.cell?, h], by simp [World.frozen?, h], by simp [World.frozen?, h]⟩
theorem SB.below {w0 W W' : World} {g : Nat} {lo hi : Int} (h : SB w0 W g lo hi) (hb : Below W.heap.size W W') : SB w0 W' g lo hi :=
  ⟨(hb.block g (Array.getElem?_eq_some_iff.1 h.1).1).trans h.1, h.2.1.trans (hb.mono h.2.1.size), h.2.2⟩
theorem SB.set {w0 W : World} {g : Nat} {lo hi : Int} (h : SB w0 W g lo hi) (a b : Int) : SB w0 ((W.setCell ⟨g, 0, none⟩ (.int .i64 a)).setCell ⟨g, 1, none⟩ (.int .i64 b)) g a b :=
  ⟨setCell_cells (setCell_cells h.1 0 _) 1 _, (h.2.1.setCell (p := ⟨g, 0, none⟩) h.2.2 _).setCell (p := ⟨g, 1, none⟩) h.2.2 _, h.2.2⟩
theorem SB.new {w0 W : World} (h : Below w0.heap.size w0 W) (a b : Int) : SB w0 (W.alloc (.cells #[.int .i64 a, .int .i64 b] 193)) W.heap.size a b :=
  ⟨World.alloc_heap_new _ _, h.alloc h.size _, h.size⟩
theorem or_i64 (a d : Int) (ha0 : 0 ≤ a) (ha : a < 65536) (hd0 : 0 ≤ d) (hd : d < 256) : bits BinOp.or IntKind.i64 (a * 256) d = a * 256 + d :=
  bits_join .i64 32 (by decide) (by intro n h0 h1; exact IntWalk.i64_in _ (by omega)) 8 _ _ (by omega) (by omega) (by omega) hd0 (by omega) (by omega)
theorem or_i64_0 (d : Int) (hd0 : 0 ≤ d) (hd : d < 256) : bits BinOp.or IntKind.i64 0 d = d := by
  have := or_i64 0 d (by omega) (by omega) hd0 hd
  rw [Int.zero_mul] at this
  omega
theorem empty_is {a b : Int} {w : World} (r : Bool) (h : decide (b < a) = r) :
    Calls Try.prog 134 #[.agg #[.int .i64 a, .int .i64 b]] w fun e w' => e = .returned (.bool r) ∧ Below w.heap.size w w' := by
  rw [← h]; exact empty_calls a b w

set_option maxRecDepth 100000 in
set_option maxHeartbeats 1000000 in
theorem bounds_small (b off cap : Nat) (n d : Nat) (w : World) (hc : n ≤ cap) (hm : cap ≤ maxLen) (c0 : w.cell? ⟨b, off, none⟩ = some (.int .u8 d))
    (hn : 1 ≤ n) (hd : d ≤ 246) :
    Calls Try.prog 108 #[.slice (some ⟨b, off, none⟩) n cap] w fun e w' => e = .returned (.tuple #[.int .i64 1, .int .i64 (1 + d : Nat), .int .i64 0]) ∧ Below w.heap.size w w' := by
  unfold maxLen at hm
  have HT := Lib.hid (toldS_calls d (by omega) w)
  rw [show toldS d = (0, (d : Int), (d : Int)) by unfold toldS; rw [if_pos hd]] at HT
  dsimp only at HT
  have hbl := Lib.hid (block_lt_of_cell c0)
  have hn0 : ((n : Int) == 0) = false := by rw [beq_eq_false_iff_ne]; omega
  have hn1 : 0 < n := by omega
  have hmin : min (1 : Int) (n : Int) = 1 := by omega
  obtain ⟨ad, had⟩ : ∃ ad, (if cap = 1 then (some ⟨b, off, none⟩ : Option Addr) else some ⟨b, off + 1, none⟩) = ad := ⟨_, rfl⟩
  have hu : 1 ≤ cap := by omega
  have hui : (1 : Int) ≤ (cap : Int) := by omega
  go_enter Try.func108, Try.ntmps108
  go_wp2_with fail
  go_step3
  go_wp2_with fail
  refine HT.out.mono ?_
  rintro e w1 ⟨rfl, hb1⟩
  have HS1 := Lib.hid (SB.new hb1 (d : Int) (d : Int))
  clear hb1 c0 
  go_wp2_with fail
  go_step3
  go_wp2_with fail
  generalize hW2 : w1.alloc (.cells #[.int .i64 (d : Int), .int .i64 (d : Int)] 193) = w2 at *
  generalize w1.heap.size = g at *
  clear hW2
  obtain ⟨q0, q1, q2, q3⟩ := HS1.out.cells
  refine wp_loop_rounds 3 ?_
  rw [rounds_succ]
  go_wp2_with fail
  refine (empty_is false ?_).mono ?_
  · exact decide_eq_false (by omega)
  rintro e uf ⟨rfl, hb⟩
  have HEf := Lib.hid (HS1.out.below hb)
  clear q0 q1 q2 q3
  obtain ⟨q0, q1, q2, q3⟩ := HEf.out.cells
  clear hb
  go_wp2_with fail
  go_region
  go_wp2
  try simp only [Exit.noGoto]
  go_ret3
  exact ⟨by first | rfl | (congr 2; omega) | simp, HEf.out.2.1.drew⟩

set_option maxRecDepth 100000 in
set_option maxHeartbeats 1000000 in
theorem bounds_247_1 (b off cap : Nat) (n d : Nat) (w : World) (hc : n ≤ cap) (hm : cap ≤ maxLen) (c0 : w.cell? ⟨b, off, none⟩ = some (.int .u8 d))
    (hn : n = 1) (hd : d = 247) :
    Calls Try.prog 108 #[.slice (some ⟨b, off, none⟩) n cap] w fun e w' => e = .returned (.tuple #[.int .i64 2, .int .i64 249, .int .i64 0]) ∧ Below w.heap.size w w' := by
  unfold maxLen at hm
  have HT := Lib.hid (toldS_calls d (by omega) w)
  rw [show toldS d = (1, 247, 255) by rw [hd]; rfl] at HT
  dsimp only at HT
  have hbl := Lib.hid (block_lt_of_cell c0)
  have hn0 : ((n : Int) == 0) = false := by rw [beq_eq_false_iff_ne]; omega
  have hn1 : 0 < n := by omega
  have hmin : min (2 : Int) (n : Int) = 1 := by omega
  obtain ⟨ad, had⟩ : ∃ ad, (if cap = 1 then (some ⟨b, off, none⟩ : Option Addr) else some ⟨b, off + 1, none⟩) = ad := ⟨_, rfl⟩
  have hu : 1 ≤ cap := by omega
  have hui : (1 : Int) ≤ (cap : Int) := by omega
  clear hd
  go_enter Try.func108, Try.ntmps108
  go_wp2_with fail
  go_step3
  go_wp2_with fail
  refine HT.out.mono ?_
  rintro e w1 ⟨rfl, hb1⟩
  have HS1 := Lib.hid (SB.new hb1 247 255)
  clear hb1 c0 
  go_wp2_with fail
  go_step3
  go_wp2_with fail
  generalize hW2 : w1.alloc (.cells #[.int .i64 247, .int .i64 255] 193) = w2 at *
  generalize w1.heap.size = g at *
  clear hW2
  obtain ⟨q0, q1, q2, q3⟩ := HS1.out.cells
  refine wp_loop_rounds 3 ?_
  rw [rounds_succ]
  go_wp2_with fail
  refine (empty_is false ?_).mono ?_
  · exact decide_eq_false (by omega)
  rintro e uf ⟨rfl, hb⟩
  have HEf := Lib.hid (HS1.out.below hb)
  clear q0 q1 q2 q3
  obtain ⟨q0, q1, q2, q3⟩ := HEf.out.cells
  clear hb
  go_wp2_with fail
  go_region
  go_wp2
  try simp only [Exit.noGoto]
  go_ret3
  exact ⟨by rfl, HEf.out.2.1.drew⟩

set_option maxRecDepth 100000 in
set_option maxHeartbeats 1000000 in
theorem bounds_248_1 (b off cap : Nat) (n d : Nat) (w : World) (hc : n ≤ cap) (hm : cap ≤ maxLen) (c0 : w.cell? ⟨b, off, none⟩ = some (.int .u8 d))
    (hn : n = 1) (hd : d = 248) :
    Calls Try.prog 108 #[.slice (some ⟨b, off, none⟩) n cap] w fun e w' => e = .returned (.tuple #[.int .i64 3, .int .i64 259, .int .i64 0]) ∧ Below w.heap.size w w' := by
  unfold maxLen at hm
  have HT := Lib.hid (toldS_calls d (by omega) w)
  rw [show toldS d = (2, 256, 16384) by rw [hd]; rfl] at HT
  dsimp only at HT
  have hbl := Lib.hid (block_lt_of_cell c0)
  have hn0 : ((n : Int) == 0) = false := by rw [beq_eq_false_iff_ne]; omega
  have hn1 : 0 < n := by omega
  have hmin : min (3 : Int) (n : Int) = 1 := by omega
  obtain ⟨ad, had⟩ : ∃ ad, (if cap = 1 then (some ⟨b, off, none⟩ : Option Addr) else some ⟨b, off + 1, none⟩) = ad := ⟨_, rfl⟩
  have hu : 1 ≤ cap := by omega
  have hui : (1 : Int) ≤ (cap : Int) := by omega
  clear hd
  go_enter Try.func108, Try.ntmps108
  go_wp2_with fail
  go_step3
  go_wp2_with fail
  refine HT.out.mono ?_
  rintro e w1 ⟨rfl, hb1⟩
  have HS1 := Lib.hid (SB.new hb1 256 16384)
  clear hb1 c0 
  go_wp2_with fail
  go_step3
  go_wp2_with fail
  generalize hW2 : w1.alloc (.cells #[.int .i64 256, .int .i64 16384] 193) = w2 at *
  generalize w1.heap.size = g at *
  clear hW2
  obtain ⟨q0, q1, q2, q3⟩ := HS1.out.cells
  refine wp_loop_rounds 3 ?_
  rw [rounds_succ]
  go_wp2_with fail
  refine (empty_is false ?_).mono ?_
  · exact decide_eq_false (by omega)
  rintro e uf ⟨rfl, hb⟩
  have HEf := Lib.hid (HS1.out.below hb)
  clear q0 q1 q2 q3
  obtain ⟨q0, q1, q2, q3⟩ := HEf.out.cells
  clear hb
  go_wp2_with fail
  go_region
  go_wp2
  try simp only [Exit.noGoto]
  go_ret3
  exact ⟨by rfl, HEf.out.2.1.drew⟩

set_option maxRecDepth 100000 in
set_option maxHeartbeats 1000000 in
theorem bounds_247_bad (b off cap : Nat) (n d x : Nat) (w : World) (hc : n ≤ cap) (hm : cap ≤ maxLen) (c0 : w.cell? ⟨b, off, none⟩ = some (.int .u8 d))
    (hn : 2 ≤ n) (hd : d = 247) (hx : x < 256) (c1 : w.cell? ⟨b, off + 1, none⟩ = some (.int .u8 x)) (hok : x < 247) :
    Calls Try.prog 108 #[.slice (some ⟨b, off, none⟩) n cap] w fun e w' => e = .returned (.tuple #[.int .i64 0, .int .i64 0, .int .i64 31]) ∧ Below w.heap.size w w' := by
  unfold maxLen at hm
  have HT := Lib.hid (toldS_calls d (by omega) w)
  rw [show toldS d = (1, 247, 255) by rw [hd]; rfl] at HT
  dsimp only at HT
  have hbl := Lib.hid (block_lt_of_cell c0)
  have hn0 : ((n : Int) == 0) = false := by rw [beq_eq_false_iff_ne]; omega
  have hn1 : 0 < n := by omega
  have hmin : min (2 : Int) (n : Int) = 2 := by omega
  have hu : 2 ≤ cap := by omega
  have hui : (2 : Int) ≤ (cap : Int) := by omega
  have hc1 : ¬ cap = 1 := by omega
  have ho1 := or_i64_0 x (by omega) (by omega)
  clear hd
  go_enter Try.func108, Try.ntmps108
  go_wp2_with fail
  go_step3
  go_wp2_with fail
  refine HT.out.mono ?_
  rintro e w1 ⟨rfl, hb1⟩
  have HS1 := Lib.hid (SB.new hb1 247 255)
  have c1' := ((HS1.out.2.1).cell (p := ⟨b, off + 1, none⟩) hbl.out).trans c1
  have Hc1 := Lib.hid c1
  clear hb1 c0 c1
  go_wp2_with fail
  go_step3
  go_wp2_with fail
  generalize hW2 : w1.alloc (.cells #[.int .i64 247, .int .i64 255] 193) = w2 at *
  generalize w1.heap.size = g at *
  clear hW2
  obtain ⟨q0, q1, q2, q3⟩ := HS1.out.cells
  refine wp_loop_rounds 3 ?_
  rw [rounds_succ]
  go_wp2_with fail
  refine (empty_is false ?_).mono ?_
  · exact decide_eq_false (by omega)
  rintro e u0 ⟨rfl, hb⟩
  have HE0 := Lib.hid (HS1.out.below hb)
  clear q0 q1 q2 q3
  obtain ⟨q0, q1, q2, q3⟩ := HE0.out.cells
  clear hb
  go_wp2_with fail
  refine (within_calls _ _ _ _ _).mono ?_
  rintro e v0 ⟨rfl, hb⟩
  have HV0 := Lib.hid (HE0.out.below hb)
  have HW0 := Lib.hid (HV0.out.set (max 247 (x : Int)) (min 255 (x : Int)))
  clear q0 q1 q2 q3 hb
  obtain ⟨q0, q1, q2, q3⟩ := HV0.out.cells
  go_wp2_with fail
  clear q0 q1 q2 q3
  obtain ⟨q0, q1, q2, q3⟩ := HW0.out.cells
  generalize (v0.setCell ⟨g, 0, none⟩ (.int .i64 (max 247 (x : Int)))).setCell ⟨g, 1, none⟩ (.int .i64 (min 255 (x : Int))) = z0 at *
  rw [rounds_succ]
  go_wp2_with fail
  refine (empty_is true ?_).mono ?_
  · exact decide_eq_true (by omega)
  rintro e uf ⟨rfl, hb⟩
  have HEf := Lib.hid (HW0.out.below hb)
  clear q0 q1 q2 q3
  obtain ⟨q0, q1, q2, q3⟩ := HEf.out.cells
  clear hb
  go_wp2
  try simp only [Exit.noGoto]
  go_ret3
  exact ⟨rfl, HEf.out.2.1⟩

set_option maxRecDepth 100000 in
set_option maxHeartbeats 1000000 in
theorem bounds_247_ok (b off cap : Nat) (n d x : Nat) (w : World) (hc : n ≤ cap) (hm : cap ≤ maxLen) (c0 : w.cell? ⟨b, off, none⟩ = some (.int .u8 d))
    (hn : 2 ≤ n) (hd : d = 247) (hx : x < 256) (c1 : w.cell? ⟨b, off + 1, none⟩ = some (.int .u8 x)) (hok : 247 ≤ x) :
    Calls Try.prog 108 #[.slice (some ⟨b, off, none⟩) n cap] w fun e w' => e = .returned (.tuple #[.int .i64 2, .int .i64 (2 + x : Nat), .int .i64 0]) ∧ Below w.heap.size w w' := by
  unfold maxLen at hm
  have HT := Lib.hid (toldS_calls d (by omega) w)
  rw [show toldS d = (1, 247, 255) by rw [hd]; rfl] at HT
  dsimp only at HT
  have hbl := Lib.hid (block_lt_of_cell c0)
  have hn0 : ((n : Int) == 0) = false := by rw [beq_eq_false_iff_ne]; omega
  have hn1 : 0 < n := by omega
  have hmin : min (2 : Int) (n : Int) = 2 := by omega
  have hu : 2 ≤ cap := by omega
  have hui : (2 : Int) ≤ (cap : Int) := by omega
  have hc1 : ¬ cap = 1 := by omega
  have ho1 := or_i64_0 x (by omega) (by omega)
  clear hd
  go_enter Try.func108, Try.ntmps108
  go_wp2_with fail
  go_step3
  go_wp2_with fail
  refine HT.out.mono ?_
  rintro e w1 ⟨rfl, hb1⟩
  have HS1 := Lib.hid (SB.new hb1 247 255)
  have c1' := ((HS1.out.2.1).cell (p := ⟨b, off + 1, none⟩) hbl.out).trans c1
  have Hc1 := Lib.hid c1
  clear hb1 c0 c1
  go_wp2_with fail
  go_step3
  go_wp2_with fail
  generalize hW2 : w1.alloc (.cells #[.int .i64 247, .int .i64 255] 193) = w2 at *
  generalize w1.heap.size = g at *
  clear hW2
  obtain ⟨q0, q1, q2, q3⟩ := HS1.out.cells
  refine wp_loop_rounds 3 ?_
  rw [rounds_succ]
  go_wp2_with fail
  refine (empty_is false ?_).mono ?_
  · exact decide_eq_false (by omega)
  rintro e u0 ⟨rfl, hb⟩
  have HE0 := Lib.hid (HS1.out.below hb)
  clear q0 q1 q2 q3
  obtain ⟨q0, q1, q2, q3⟩ := HE0.out.cells
  clear hb
  go_wp2_with fail
  refine (within_calls _ _ _ _ _).mono ?_
  rintro e v0 ⟨rfl, hb⟩
  have HV0 := Lib.hid (HE0.out.below hb)
  have HW0 := Lib.hid (HV0.out.set (max 247 (x : Int)) (min 255 (x : Int)))
  clear q0 q1 q2 q3 hb
  obtain ⟨q0, q1, q2, q3⟩ := HV0.out.cells
  go_wp2_with fail
  clear q0 q1 q2 q3
  obtain ⟨q0, q1, q2, q3⟩ := HW0.out.cells
  generalize (v0.setCell ⟨g, 0, none⟩ (.int .i64 (max 247 (x : Int)))).setCell ⟨g, 1, none⟩ (.int .i64 (min 255 (x : Int))) = z0 at *
  rw [rounds_succ]
  go_wp2_with fail
  refine (empty_is false ?_).mono ?_
  · exact decide_eq_false (by omega)
  rintro e uf ⟨rfl, hb⟩
  have HEf := Lib.hid (HW0.out.below hb)
  clear q0 q1 q2 q3
  obtain ⟨q0, q1, q2, q3⟩ := HEf.out.cells
  clear hb
  go_wp2_with fail
  go_region
  go_wp2
  try simp only [Exit.noGoto]
  go_ret3
  exact ⟨by first | rfl | (congr 3; simp; omega), HEf.out.2.1.drew⟩

set_option maxRecDepth 100000 in
set_option maxHeartbeats 1000000 in
theorem bounds_248_2bad (b off cap : Nat) (n d x : Nat) (w : World) (hc : n ≤ cap) (hm : cap ≤ maxLen) (c0 : w.cell? ⟨b, off, none⟩ = some (.int .u8 d))
    (hn : n = 2) (hd : d = 248) (hx : x < 256) (c1 : w.cell? ⟨b, off + 1, none⟩ = some (.int .u8 x)) (hok : x = 0 ∨ 64 < x) :
    Calls Try.prog 108 #[.slice (some ⟨b, off, none⟩) n cap] w fun e w' => e = .returned (.tuple #[.int .i64 0, .int .i64 0, .int .i64 31]) ∧ Below w.heap.size w w' := by
  unfold maxLen at hm
  have HT := Lib.hid (toldS_calls d (by omega) w)
  rw [show toldS d = (2, 256, 16384) by rw [hd]; rfl] at HT
  dsimp only at HT
  have hbl := Lib.hid (block_lt_of_cell c0)
  have hn0 : ((n : Int) == 0) = false := by rw [beq_eq_false_iff_ne]; omega
  have hn1 : 0 < n := by omega
  have hmin : min (3 : Int) (n : Int) = 2 := by omega
  have hu : 2 ≤ cap := by omega
  have hui : (2 : Int) ≤ (cap : Int) := by omega
  have hc1 : ¬ cap = 1 := by omega
  have ho1 := or_i64_0 x (by omega) (by omega)
  clear hd
  go_enter Try.func108, Try.ntmps108
  go_wp2_with fail
  go_step3
  go_wp2_with fail
  refine HT.out.mono ?_
  rintro e w1 ⟨rfl, hb1⟩
  have HS1 := Lib.hid (SB.new hb1 256 16384)
  have c1' := ((HS1.out.2.1).cell (p := ⟨b, off + 1, none⟩) hbl.out).trans c1
  have Hc1 := Lib.hid c1
  clear hb1 c0 c1
  go_wp2_with fail
  go_step3
  go_wp2_with fail
  generalize hW2 : w1.alloc (.cells #[.int .i64 256, .int .i64 16384] 193) = w2 at *
  generalize w1.heap.size = g at *
  clear hW2
  obtain ⟨q0, q1, q2, q3⟩ := HS1.out.cells
  refine wp_loop_rounds 3 ?_
  rw [rounds_succ]
  go_wp2_with fail
  refine (empty_is false ?_).mono ?_
  · exact decide_eq_false (by omega)
  rintro e u0 ⟨rfl, hb⟩
  have HE0 := Lib.hid (HS1.out.below hb)
  clear q0 q1 q2 q3
  obtain ⟨q0, q1, q2, q3⟩ := HE0.out.cells
  clear hb
  go_wp2_with fail
  refine (within_calls _ _ _ _ _).mono ?_
  rintro e v0 ⟨rfl, hb⟩
  have HV0 := Lib.hid (HE0.out.below hb)
  have HW0 := Lib.hid (HV0.out.set (max 256 ((x : Int) * 256)) (min 16384 ((x : Int) * 256 + 256 - 1)))
  clear q0 q1 q2 q3 hb
  obtain ⟨q0, q1, q2, q3⟩ := HV0.out.cells
  go_wp2_with fail
  clear q0 q1 q2 q3
  obtain ⟨q0, q1, q2, q3⟩ := HW0.out.cells
  generalize (v0.setCell ⟨g, 0, none⟩ (.int .i64 (max 256 ((x : Int) * 256)))).setCell ⟨g, 1, none⟩ (.int .i64 (min 16384 ((x : Int) * 256 + 256 - 1))) = z0 at *
  rw [rounds_succ]
  go_wp2_with fail
  refine (empty_is true ?_).mono ?_
  · exact decide_eq_true (by omega)
  rintro e uf ⟨rfl, hb⟩
  have HEf := Lib.hid (HW0.out.below hb)
  clear q0 q1 q2 q3
  obtain ⟨q0, q1, q2, q3⟩ := HEf.out.cells
  clear hb
  go_wp2
  try simp only [Exit.noGoto]
  go_ret3
  exact ⟨rfl, HEf.out.2.1⟩

set_option maxRecDepth 100000 in
set_option maxHeartbeats 1000000 in
theorem bounds_248_2ok (b off cap : Nat) (n d x : Nat) (w : World) (hc : n ≤ cap) (hm : cap ≤ maxLen) (c0 : w.cell? ⟨b, off, none⟩ = some (.int .u8 d))
    (hn : n = 2) (hd : d = 248) (hx : x < 256) (c1 : w.cell? ⟨b, off + 1, none⟩ = some (.int .u8 x)) (hok : 1 ≤ x ∧ x ≤ 64) :
    Calls Try.prog 108 #[.slice (some ⟨b, off, none⟩) n cap] w fun e w' => e = .returned (.tuple #[.int .i64 3, .int .i64 (3 + 256 * x : Nat), .int .i64 0]) ∧ Below w.heap.size w w' := by
  unfold maxLen at hm
  have HT := Lib.hid (toldS_calls d (by omega) w)
  rw [show toldS d = (2, 256, 16384) by rw [hd]; rfl] at HT
  dsimp only at HT
  have hbl := Lib.hid (block_lt_of_cell c0)
  have hn0 : ((n : Int) == 0) = false := by rw [beq_eq_false_iff_ne]; omega
  have hn1 : 0 < n := by omega
  have hmin : min (3 : Int) (n : Int) = 2 := by omega
  have hu : 2 ≤ cap := by omega
  have hui : (2 : Int) ≤ (cap : Int) := by omega
  have hc1 : ¬ cap = 1 := by omega
  have ho1 := or_i64_0 x (by omega) (by omega)
  clear hd
  go_enter Try.func108, Try.ntmps108
  go_wp2_with fail
  go_step3
  go_wp2_with fail
  refine HT.out.mono ?_
  rintro e w1 ⟨rfl, hb1⟩
  have HS1 := Lib.hid (SB.new hb1 256 16384)
  have c1' := ((HS1.out.2.1).cell (p := ⟨b, off + 1, none⟩) hbl.out).trans c1
  have Hc1 := Lib.hid c1
  clear hb1 c0 c1
  go_wp2_with fail
  go_step3
  go_wp2_with fail
  generalize hW2 : w1.alloc (.cells #[.int .i64 256, .int .i64 16384] 193) = w2 at *
  generalize w1.heap.size = g at *
  clear hW2
  obtain ⟨q0, q1, q2, q3⟩ := HS1.out.cells
  refine wp_loop_rounds 3 ?_
  rw [rounds_succ]
  go_wp2_with fail
  refine (empty_is false ?_).mono ?_
  · exact decide_eq_false (by omega)
  rintro e u0 ⟨rfl, hb⟩
  have HE0 := Lib.hid (HS1.out.below hb)
  clear q0 q1 q2 q3
  obtain ⟨q0, q1, q2, q3⟩ := HE0.out.cells
  clear hb
  go_wp2_with fail
  refine (within_calls _ _ _ _ _).mono ?_
  rintro e v0 ⟨rfl, hb⟩
  have HV0 := Lib.hid (HE0.out.below hb)
  have HW0 := Lib.hid (HV0.out.set (max 256 ((x : Int) * 256)) (min 16384 ((x : Int) * 256 + 256 - 1)))
  clear q0 q1 q2 q3 hb
  obtain ⟨q0, q1, q2, q3⟩ := HV0.out.cells
  go_wp2_with fail
  clear q0 q1 q2 q3
  obtain ⟨q0, q1, q2, q3⟩ := HW0.out.cells
  generalize (v0.setCell ⟨g, 0, none⟩ (.int .i64 (max 256 ((x : Int) * 256)))).setCell ⟨g, 1, none⟩ (.int .i64 (min 16384 ((x : Int) * 256 + 256 - 1))) = z0 at *
  rw [rounds_succ]
  go_wp2_with fail
  refine (empty_is false ?_).mono ?_
  · exact decide_eq_false (by omega)
  rintro e uf ⟨rfl, hb⟩
  have HEf := Lib.hid (HW0.out.below hb)
  clear q0 q1 q2 q3
  obtain ⟨q0, q1, q2, q3⟩ := HEf.out.cells
  clear hb
  go_wp2_with fail
  go_region
  go_wp2
  try simp only [Exit.noGoto]
  go_ret3
  exact ⟨by first | rfl | (congr 3; simp; omega), HEf.out.2.1.drew⟩

set_option maxRecDepth 100000 in
set_option maxHeartbeats 1000000 in
theorem bounds_248_3bad (b off cap : Nat) (n d x y : Nat) (w : World) (hc : n ≤ cap) (hm : cap ≤ maxLen) (c0 : w.cell? ⟨b, off, none⟩ = some (.int .u8 d))
    (hn : 3 ≤ n) (hd : d = 248) (hx : x < 256) (hy : y < 256) (c1 : w.cell? ⟨b, off + 1, none⟩ = some (.int .u8 x)) (c2 : w.cell? ⟨b, off + 2, none⟩ = some (.int .u8 y)) (hok : x = 0 ∨ 64 < x) :
    Calls Try.prog 108 #[.slice (some ⟨b, off, none⟩) n cap] w fun e w' => e = .returned (.tuple #[.int .i64 0, .int .i64 0, .int .i64 31]) ∧ Below w.heap.size w w' := by
  unfold maxLen at hm
  have HT := Lib.hid (toldS_calls d (by omega) w)
  rw [show toldS d = (2, 256, 16384) by rw [hd]; rfl] at HT
  dsimp only at HT
  have hbl := Lib.hid (block_lt_of_cell c0)
  have hn0 : ((n : Int) == 0) = false := by rw [beq_eq_false_iff_ne]; omega
  have hn1 : 0 < n := by omega
  have hmin : min (3 : Int) (n : Int) = 3 := by omega
  have hu : 3 ≤ cap := by omega
  have hui : (3 : Int) ≤ (cap : Int) := by omega
  have hc1 : ¬ cap = 1 := by omega
  have ho1 := or_i64_0 x (by omega) (by omega)
  have ho2 := or_i64 x y (by omega) (by omega) (by omega) (by omega)
  clear hd
  go_enter Try.func108, Try.ntmps108
  go_wp2_with fail
  go_step3
  go_wp2_with fail
  refine HT.out.mono ?_
  rintro e w1 ⟨rfl, hb1⟩
  have HS1 := Lib.hid (SB.new hb1 256 16384)
  have c1' := ((HS1.out.2.1).cell (p := ⟨b, off + 1, none⟩) hbl.out).trans c1
  have Hc1 := Lib.hid c1
  have c2' := ((HS1.out.2.1).cell (p := ⟨b, off + 2, none⟩) hbl.out).trans c2
  have Hc2 := Lib.hid c2
  clear hb1 c0 c1 c2
  go_wp2_with fail
  go_step3
  go_wp2_with fail
  generalize hW2 : w1.alloc (.cells #[.int .i64 256, .int .i64 16384] 193) = w2 at *
  generalize w1.heap.size = g at *
  clear hW2
  obtain ⟨q0, q1, q2, q3⟩ := HS1.out.cells
  refine wp_loop_rounds 3 ?_
  rw [rounds_succ]
  go_wp2_with fail
  refine (empty_is false ?_).mono ?_
  · exact decide_eq_false (by omega)
  rintro e u0 ⟨rfl, hb⟩
  have HE0 := Lib.hid (HS1.out.below hb)
  clear q0 q1 q2 q3
  obtain ⟨q0, q1, q2, q3⟩ := HE0.out.cells
  clear hb
  go_wp2_with fail
  refine (within_calls _ _ _ _ _).mono ?_
  rintro e v0 ⟨rfl, hb⟩
  have HV0 := Lib.hid (HE0.out.below hb)
  have HW0 := Lib.hid (HV0.out.set (max 256 ((x : Int) * 256)) (min 16384 ((x : Int) * 256 + 256 - 1)))
  clear q0 q1 q2 q3 hb
  obtain ⟨q0, q1, q2, q3⟩ := HV0.out.cells
  go_wp2_with fail
  clear q0 q1 q2 q3
  obtain ⟨q0, q1, q2, q3⟩ := HW0.out.cells
  have c2' := ((HW0.out.2.1).cell (p := ⟨b, off + 2, none⟩) hbl.out).trans Hc2.out
  generalize (v0.setCell ⟨g, 0, none⟩ (.int .i64 (max 256 ((x : Int) * 256)))).setCell ⟨g, 1, none⟩ (.int .i64 (min 16384 ((x : Int) * 256 + 256 - 1))) = z0 at *
  rw [rounds_succ]
  go_wp2_with fail
  refine (empty_is true ?_).mono ?_
  · exact decide_eq_true (by omega)
  rintro e u1 ⟨rfl, hb⟩
  have HE1 := Lib.hid (HW0.out.below hb)
  clear q0 q1 q2 q3
  obtain ⟨q0, q1, q2, q3⟩ := HE1.out.cells
  clear hb
  go_wp2_with fail
  refine (empty_is true ?_).mono ?_
  · exact decide_eq_true (by omega)
  rintro e uf ⟨rfl, hb⟩
  have HEf := Lib.hid (HE1.out.below hb)
  clear q0 q1 q2 q3
  obtain ⟨q0, q1, q2, q3⟩ := HEf.out.cells
  clear hb
  go_wp2
  try simp only [Exit.noGoto]
  go_ret3
  exact ⟨rfl, HEf.out.2.1⟩

set_option maxRecDepth 100000 in
set_option maxHeartbeats 1000000 in
theorem bounds_248_3big (b off cap : Nat) (n d x y : Nat) (w : World) (hc : n ≤ cap) (hm : cap ≤ maxLen) (c0 : w.cell? ⟨b, off, none⟩ = some (.int .u8 d))
    (hn : 3 ≤ n) (hd : d = 248) (hx : x < 256) (hy : y < 256) (c1 : w.cell? ⟨b, off + 1, none⟩ = some (.int .u8 x)) (c2 : w.cell? ⟨b, off + 2, none⟩ = some (.int .u8 y)) (hok : 1 ≤ x ∧ x ≤ 64 ∧ 16384 < 256 * x + y) :
    Calls Try.prog 108 #[.slice (some ⟨b, off, none⟩) n cap] w fun e w' => e = .returned (.tuple #[.int .i64 0, .int .i64 0, .int .i64 31]) ∧ Below w.heap.size w w' := by
  unfold maxLen at hm
  have HT := Lib.hid (toldS_calls d (by omega) w)
  rw [show toldS d = (2, 256, 16384) by rw [hd]; rfl] at HT
  dsimp only at HT
  have hbl := Lib.hid (block_lt_of_cell c0)
  have hn0 : ((n : Int) == 0) = false := by rw [beq_eq_false_iff_ne]; omega
  have hn1 : 0 < n := by omega
  have hmin : min (3 : Int) (n : Int) = 3 := by omega
  have hu : 3 ≤ cap := by omega
  have hui : (3 : Int) ≤ (cap : Int) := by omega
  have hc1 : ¬ cap = 1 := by omega
  have ho1 := or_i64_0 x (by omega) (by omega)
  have ho2 := or_i64 x y (by omega) (by omega) (by omega) (by omega)
  clear hd
  go_enter Try.func108, Try.ntmps108
  go_wp2_with fail
  go_step3
  go_wp2_with fail
  refine HT.out.mono ?_
  rintro e w1 ⟨rfl, hb1⟩
  have HS1 := Lib.hid (SB.new hb1 256 16384)
  have c1' := ((HS1.out.2.1).cell (p := ⟨b, off + 1, none⟩) hbl.out).trans c1
  have Hc1 := Lib.hid c1
  have c2' := ((HS1.out.2.1).cell (p := ⟨b, off + 2, none⟩) hbl.out).trans c2
  have Hc2 := Lib.hid c2
  clear hb1 c0 c1 c2
  go_wp2_with fail
  go_step3
  go_wp2_with fail
  generalize hW2 : w1.alloc (.cells #[.int .i64 256, .int .i64 16384] 193) = w2 at *
  generalize w1.heap.size = g at *
  clear hW2
  obtain ⟨q0, q1, q2, q3⟩ := HS1.out.cells
  refine wp_loop_rounds 3 ?_
  rw [rounds_succ]
  go_wp2_with fail
  refine (empty_is false ?_).mono ?_
  · exact decide_eq_false (by omega)
  rintro e u0 ⟨rfl, hb⟩
  have HE0 := Lib.hid (HS1.out.below hb)
  clear q0 q1 q2 q3
  obtain ⟨q0, q1, q2, q3⟩ := HE0.out.cells
  clear hb
  go_wp2_with fail
  refine (within_calls _ _ _ _ _).mono ?_
  rintro e v0 ⟨rfl, hb⟩
  have HV0 := Lib.hid (HE0.out.below hb)
  have HW0 := Lib.hid (HV0.out.set (max 256 ((x : Int) * 256)) (min 16384 ((x : Int) * 256 + 256 - 1)))
  clear q0 q1 q2 q3 hb
  obtain ⟨q0, q1, q2, q3⟩ := HV0.out.cells
  go_wp2_with fail
  clear q0 q1 q2 q3
  obtain ⟨q0, q1, q2, q3⟩ := HW0.out.cells
  have c2' := ((HW0.out.2.1).cell (p := ⟨b, off + 2, none⟩) hbl.out).trans Hc2.out
  generalize (v0.setCell ⟨g, 0, none⟩ (.int .i64 (max 256 ((x : Int) * 256)))).setCell ⟨g, 1, none⟩ (.int .i64 (min 16384 ((x : Int) * 256 + 256 - 1))) = z0 at *
  rw [rounds_succ]
  go_wp2_with fail
  refine (empty_is false ?_).mono ?_
  · exact decide_eq_false (by omega)
  rintro e u1 ⟨rfl, hb⟩
  have HE1 := Lib.hid (HW0.out.below hb)
  clear q0 q1 q2 q3
  obtain ⟨q0, q1, q2, q3⟩ := HE1.out.cells
  clear hb
  go_wp2_with fail
  refine (within_calls _ _ _ _ _).mono ?_
  rintro e v1 ⟨rfl, hb⟩
  have HV1 := Lib.hid (HE1.out.below hb)
  have HW1 := Lib.hid (HV1.out.set (max 256 (max ((x : Int) * 256) ((x : Int) * 256 + (y : Int)))) (min 16384 (min ((x : Int) * 256 + 256 - 1) ((x : Int) * 256 + (y : Int)))))
  clear q0 q1 q2 q3 hb
  obtain ⟨q0, q1, q2, q3⟩ := HV1.out.cells
  go_wp2_with fail
  clear q0 q1 q2 q3
  obtain ⟨q0, q1, q2, q3⟩ := HW1.out.cells
  generalize (v1.setCell ⟨g, 0, none⟩ (.int .i64 (max 256 (max ((x : Int) * 256) ((x : Int) * 256 + (y : Int)))))).setCell ⟨g, 1, none⟩ (.int .i64 (min 16384 (min ((x : Int) * 256 + 256 - 1) ((x : Int) * 256 + (y : Int))))) = z1 at *
  rw [rounds_succ]
  go_wp2_with fail
  refine (empty_is true ?_).mono ?_
  · exact decide_eq_true (by omega)
  rintro e uf ⟨rfl, hb⟩
  have HEf := Lib.hid (HW1.out.below hb)
  clear q0 q1 q2 q3
  obtain ⟨q0, q1, q2, q3⟩ := HEf.out.cells
  clear hb
  go_wp2
  try simp only [Exit.noGoto]
  go_ret3
  exact ⟨rfl, HEf.out.2.1⟩

set_option maxRecDepth 100000 in
set_option maxHeartbeats 1000000 in
theorem bounds_248_3ok (b off cap : Nat) (n d x y : Nat) (w : World) (hc : n ≤ cap) (hm : cap ≤ maxLen) (c0 : w.cell? ⟨b, off, none⟩ = some (.int .u8 d))
    (hn : 3 ≤ n) (hd : d = 248) (hx : x < 256) (hy : y < 256) (c1 : w.cell? ⟨b, off + 1, none⟩ = some (.int .u8 x)) (c2 : w.cell? ⟨b, off + 2, none⟩ = some (.int .u8 y)) (hok : 1 ≤ x ∧ x ≤ 64 ∧ 256 * x + y ≤ 16384) :
    Calls Try.prog 108 #[.slice (some ⟨b, off, none⟩) n cap] w fun e w' => e = .returned (.tuple #[.int .i64 3, .int .i64 (3 + (256 * x + y) : Nat), .int .i64 0]) ∧ Below w.heap.size w w' := by
  unfold maxLen at hm
  have HT := Lib.hid (toldS_calls d (by omega) w)
  rw [show toldS d = (2, 256, 16384) by rw [hd]; rfl] at HT
  dsimp only at HT
  have hbl := Lib.hid (block_lt_of_cell c0)
  have hn0 : ((n : Int) == 0) = false := by rw [beq_eq_false_iff_ne]; omega
  have hn1 : 0 < n := by omega
  have hmin : min (3 : Int) (n : Int) = 3 := by omega
  have hu : 3 ≤ cap := by omega
  have hui : (3 : Int) ≤ (cap : Int) := by omega
  have hc1 : ¬ cap = 1 := by omega
  have ho1 := or_i64_0 x (by omega) (by omega)
  have ho2 := or_i64 x y (by omega) (by omega) (by omega) (by omega)
  clear hd
  go_enter Try.func108, Try.ntmps108
  go_wp2_with fail
  go_step3
  go_wp2_with fail
  refine HT.out.mono ?_
  rintro e w1 ⟨rfl, hb1⟩
  have HS1 := Lib.hid (SB.new hb1 256 16384)
  have c1' := ((HS1.out.2.1).cell (p := ⟨b, off + 1, none⟩) hbl.out).trans c1
  have Hc1 := Lib.hid c1
  have c2' := ((HS1.out.2.1).cell (p := ⟨b, off + 2, none⟩) hbl.out).trans c2
  have Hc2 := Lib.hid c2
  clear hb1 c0 c1 c2
  go_wp2_with fail
  go_step3
  go_wp2_with fail
  generalize hW2 : w1.alloc (.cells #[.int .i64 256, .int .i64 16384] 193) = w2 at *
  generalize w1.heap.size = g at *
  clear hW2
  obtain ⟨q0, q1, q2, q3⟩ := HS1.out.cells
  refine wp_loop_rounds 3 ?_
  rw [rounds_succ]
  go_wp2_with fail
  refine (empty_is false ?_).mono ?_
  · exact decide_eq_false (by omega)
  rintro e u0 ⟨rfl, hb⟩
  have HE0 := Lib.hid (HS1.out.below hb)
  clear q0 q1 q2 q3
  obtain ⟨q0, q1, q2, q3⟩ := HE0.out.cells
  clear hb
  go_wp2_with fail
  refine (within_calls _ _ _ _ _).mono ?_
  rintro e v0 ⟨rfl, hb⟩
  have HV0 := Lib.hid (HE0.out.below hb)
  have HW0 := Lib.hid (HV0.out.set (max 256 ((x : Int) * 256)) (min 16384 ((x : Int) * 256 + 256 - 1)))
  clear q0 q1 q2 q3 hb
  obtain ⟨q0, q1, q2, q3⟩ := HV0.out.cells
  go_wp2_with fail
  clear q0 q1 q2 q3
  obtain ⟨q0, q1, q2, q3⟩ := HW0.out.cells
  have c2' := ((HW0.out.2.1).cell (p := ⟨b, off + 2, none⟩) hbl.out).trans Hc2.out
  generalize (v0.setCell ⟨g, 0, none⟩ (.int .i64 (max 256 ((x : Int) * 256)))).setCell ⟨g, 1, none⟩ (.int .i64 (min 16384 ((x : Int) * 256 + 256 - 1))) = z0 at *
  rw [rounds_succ]
  go_wp2_with fail
  refine (empty_is false ?_).mono ?_
  · exact decide_eq_false (by omega)
  rintro e u1 ⟨rfl, hb⟩
  have HE1 := Lib.hid (HW0.out.below hb)
  clear q0 q1 q2 q3
  obtain ⟨q0, q1, q2, q3⟩ := HE1.out.cells
  clear hb
  go_wp2_with fail
  refine (within_calls _ _ _ _ _).mono ?_
  rintro e v1 ⟨rfl, hb⟩
  have HV1 := Lib.hid (HE1.out.below hb)
  have HW1 := Lib.hid (HV1.out.set (max 256 (max ((x : Int) * 256) ((x : Int) * 256 + (y : Int)))) (min 16384 (min ((x : Int) * 256 + 256 - 1) ((x : Int) * 256 + (y : Int)))))
  clear q0 q1 q2 q3 hb
  obtain ⟨q0, q1, q2, q3⟩ := HV1.out.cells
  go_wp2_with fail
  clear q0 q1 q2 q3
  obtain ⟨q0, q1, q2, q3⟩ := HW1.out.cells
  generalize (v1.setCell ⟨g, 0, none⟩ (.int .i64 (max 256 (max ((x : Int) * 256) ((x : Int) * 256 + (y : Int)))))).setCell ⟨g, 1, none⟩ (.int .i64 (min 16384 (min ((x : Int) * 256 + 256 - 1) ((x : Int) * 256 + (y : Int))))) = z1 at *
  rw [rounds_succ]
  go_wp2_with fail
  refine (empty_is false ?_).mono ?_
  · exact decide_eq_false (by omega)
  rintro e uf ⟨rfl, hb⟩
  have HEf := Lib.hid (HW1.out.below hb)
  clear q0 q1 q2 q3
  obtain ⟨q0, q1, q2, q3⟩ := HEf.out.cells
  clear hb
  go_wp2_with fail
  go_region
  go_wp2
  try simp only [Exit.noGoto]
  go_ret3
  exact ⟨by first | rfl | (congr 3; simp; omega), HEf.out.2.1.drew⟩

set_option maxRecDepth 100000 in
set_option maxHeartbeats 1000000 in
theorem bounds_big_1 (b off cap : Nat) (n d k : Nat) (w : World) (hc : n ≤ cap) (hm : cap ≤ maxLen) (c0 : w.cell? ⟨b, off, none⟩ = some (.int .u8 d))
    (hn : n = 1) (hd : d = 246 + k) (hd2 : d < 256) (hk : 3 ≤ k) :
    Calls Try.prog 108 #[.slice (some ⟨b, off, none⟩) n cap] w fun e w' => e = .returned (.tuple #[.int .i64 0, .int .i64 0, .int .i64 31]) ∧ Below w.heap.size w w' := by
  unfold maxLen at hm
  have HT := Lib.hid (toldS_calls d (by omega) w)
  rw [show toldS d = ((k : Int), 1, 0) by unfold toldS; rw [if_neg (by omega), if_neg (by omega), if_neg (by omega), show (d : Int) - 246 = (k : Int) by omega]] at HT
  dsimp only at HT
  have hbl := Lib.hid (block_lt_of_cell c0)
  have hn0 : ((n : Int) == 0) = false := by rw [beq_eq_false_iff_ne]; omega
  have hn1 : 0 < n := by omega
  have hmin : min (1 + (k : Int)) (n : Int) = 1 := by omega
  obtain ⟨ad, had⟩ : ∃ ad, (if cap = 1 then (some ⟨b, off, none⟩ : Option Addr) else some ⟨b, off + 1, none⟩) = ad := ⟨_, rfl⟩
  have hu : 1 ≤ cap := by omega
  have hui : (1 : Int) ≤ (cap : Int) := by omega
  have hk9 : (k : Int) ≤ 9 := by omega
  have hk0 : 0 ≤ (k : Int) := by omega
  clear hd hd2
  go_enter Try.func108, Try.ntmps108
  go_wp2_with fail
  go_step3
  go_wp2_with fail
  refine HT.out.mono ?_
  rintro e w1 ⟨rfl, hb1⟩
  have HS1 := Lib.hid (SB.new hb1 1 0)
  clear hb1 c0 
  go_wp2_with fail
  go_step3
  go_wp2_with fail
  generalize hW2 : w1.alloc (.cells #[.int .i64 1, .int .i64 0] 193) = w2 at *
  generalize w1.heap.size = g at *
  clear hW2
  obtain ⟨q0, q1, q2, q3⟩ := HS1.out.cells
  refine wp_loop_rounds 3 ?_
  rw [rounds_succ]
  go_wp2_with fail
  refine (empty_is true ?_).mono ?_
  · exact decide_eq_true (by omega)
  rintro e uf ⟨rfl, hb⟩
  have HEf := Lib.hid (HS1.out.below hb)
  clear q0 q1 q2 q3
  obtain ⟨q0, q1, q2, q3⟩ := HEf.out.cells
  clear hb
  go_wp2
  try simp only [Exit.noGoto]
  go_ret3
  exact ⟨rfl, HEf.out.2.1⟩

set_option maxRecDepth 100000 in
set_option maxHeartbeats 1000000 in
theorem bounds_big_2 (b off cap : Nat) (n d k x : Nat) (w : World) (hc : n ≤ cap) (_ : cap ≤ maxLen) (c0 : w.cell? ⟨b, off, none⟩ = some (.int .u8 d))
    (hn : 2 ≤ n) (hle : n < 1 + k) (hd : d = 246 + k) (hd2 : d < 256) (hk : 3 ≤ k) (c1 : w.cell? ⟨b, off + 1, none⟩ = some (.int .u8 x)) :
    Calls Try.prog 108 #[.slice (some ⟨b, off, none⟩) n cap] w fun e w' => e = .returned (.tuple #[.int .i64 0, .int .i64 0, .int .i64 31]) ∧ Below w.heap.size w w' := by
  have HT := Lib.hid (toldS_calls d (by omega) w)
  rw [show toldS d = ((k : Int), 1, 0) by unfold toldS; rw [if_neg (by omega), if_neg (by omega), if_neg (by omega), show (d : Int) - 246 = (k : Int) by omega]] at HT
  dsimp only at HT
  have hbl := Lib.hid (block_lt_of_cell c0)
  have hn0 : ((n : Int) == 0) = false := by rw [beq_eq_false_iff_ne]; omega
  have hn1 : 0 < n := by omega
  have hmin : min (1 + (k : Int)) (n : Int) = (n : Int) := by omega
  have hu : n ≤ cap := by omega
  have hui : (n : Int) ≤ (cap : Int) := by omega
  have hu1 : (1 : Int) ≤ (n : Int) := by omega
  have hu2 : 1 ≤ n := by omega
  have hc1 : ¬ cap = 1 := by omega
  have hk9 : (k : Int) ≤ 9 := by omega
  have hk0 : 0 ≤ (k : Int) := by omega
  clear hd hd2
  go_enter Try.func108, Try.ntmps108
  go_wp2_with fail
  go_step3
  go_wp2_with fail
  refine HT.out.mono ?_
  rintro e w1 ⟨rfl, hb1⟩
  have HS1 := Lib.hid (SB.new hb1 1 0)
  have c1' := ((HS1.out.2.1).cell (p := ⟨b, off + 1, none⟩) hbl.out).trans c1
  have Hc1 := Lib.hid c1
  clear hb1 c0 c1
  go_wp2_with fail
  go_step3
  go_wp2_with fail
  generalize hW2 : w1.alloc (.cells #[.int .i64 1, .int .i64 0] 193) = w2 at *
  generalize w1.heap.size = g at *
  clear hW2
  obtain ⟨q0, q1, q2, q3⟩ := HS1.out.cells
  refine wp_loop_rounds 3 ?_
  rw [rounds_succ]
  go_wp2_with fail
  refine (empty_is true ?_).mono ?_
  · exact decide_eq_true (by omega)
  rintro e u0 ⟨rfl, hb⟩
  have HE0 := Lib.hid (HS1.out.below hb)
  clear q0 q1 q2 q3
  obtain ⟨q0, q1, q2, q3⟩ := HE0.out.cells
  clear hb
  go_wp2_with fail
  refine (empty_is true ?_).mono ?_
  · exact decide_eq_true (by omega)
  rintro e uf ⟨rfl, hb⟩
  have HEf := Lib.hid (HE0.out.below hb)
  clear q0 q1 q2 q3
  obtain ⟨q0, q1, q2, q3⟩ := HEf.out.cells
  clear hb
  go_wp2
  try simp only [Exit.noGoto]
  go_ret3
  exact ⟨rfl, HEf.out.2.1⟩

set_option maxRecDepth 100000 in
set_option maxHeartbeats 1000000 in
theorem bounds_big_3 (b off cap : Nat) (n d k x : Nat) (w : World) (hc : n ≤ cap) (_ : cap ≤ maxLen) (c0 : w.cell? ⟨b, off, none⟩ = some (.int .u8 d))
    (hn : 2 ≤ n) (hle : 1 + k ≤ n) (hd : d = 246 + k) (hd2 : d < 256) (hk : 3 ≤ k) (c1 : w.cell? ⟨b, off + 1, none⟩ = some (.int .u8 x)) :
    Calls Try.prog 108 #[.slice (some ⟨b, off, none⟩) n cap] w fun e w' => e = .returned (.tuple #[.int .i64 0, .int .i64 0, .int .i64 31]) ∧ Below w.heap.size w w' := by
  have HT := Lib.hid (toldS_calls d (by omega) w)
  rw [show toldS d = ((k : Int), 1, 0) by unfold toldS; rw [if_neg (by omega), if_neg (by omega), if_neg (by omega), show (d : Int) - 246 = (k : Int) by omega]] at HT
  dsimp only at HT
  have hbl := Lib.hid (block_lt_of_cell c0)
  have hn0 : ((n : Int) == 0) = false := by rw [beq_eq_false_iff_ne]; omega
  have hn1 : 0 < n := by omega
  have hmin : min (1 + (k : Int)) (n : Int) = 1 + (k : Int) := by omega
  have htn : (1 + (k : Int)).toNat = 1 + k := by omega
  have hu : 1 + k ≤ cap := by omega
  have hui : 1 + (k : Int) ≤ (cap : Int) := by omega
  have hc1 : ¬ cap = 1 := by omega
  have hk9 : (k : Int) ≤ 9 := by omega
  have hk0 : 0 ≤ (k : Int) := by omega
  clear hd hd2
  go_enter Try.func108, Try.ntmps108
  go_wp2_with fail
  go_step3
  go_wp2_with fail
  refine HT.out.mono ?_
  rintro e w1 ⟨rfl, hb1⟩
  have HS1 := Lib.hid (SB.new hb1 1 0)
  have c1' := ((HS1.out.2.1).cell (p := ⟨b, off + 1, none⟩) hbl.out).trans c1
  have Hc1 := Lib.hid c1
  clear hb1 c0 c1
  go_wp2_with fail
  go_step3
  go_wp2_with fail
  generalize hW2 : w1.alloc (.cells #[.int .i64 1, .int .i64 0] 193) = w2 at *
  generalize w1.heap.size = g at *
  clear hW2
  obtain ⟨q0, q1, q2, q3⟩ := HS1.out.cells
  refine wp_loop_rounds 3 ?_
  rw [rounds_succ]
  go_wp2_with fail
  refine (empty_is true ?_).mono ?_
  · exact decide_eq_true (by omega)
  rintro e u0 ⟨rfl, hb⟩
  have HE0 := Lib.hid (HS1.out.below hb)
  clear q0 q1 q2 q3
  obtain ⟨q0, q1, q2, q3⟩ := HE0.out.cells
  clear hb
  go_wp2_with fail
  refine (empty_is true ?_).mono ?_
  · exact decide_eq_true (by omega)
  rintro e uf ⟨rfl, hb⟩
  have HEf := Lib.hid (HE0.out.below hb)
  clear q0 q1 q2 q3
  obtain ⟨q0, q1, q2, q3⟩ := HEf.out.cells
  clear hb
  go_wp2
  try simp only [Exit.noGoto]
  go_ret3
  exact ⟨rfl, HEf.out.2.1⟩

set_option maxRecDepth 100000 in
set_option maxHeartbeats 1000000 in
theorem bounds_nil (a : Option Addr) (cap : Nat) (w : World) :
    Calls Try.prog 108 #[.slice a 0 cap] w fun e w' => e = .returned (.tuple #[.int .i64 1, .int .i64 1, .int .i64 0]) ∧ Below w.heap.size w w' := by
  go_enter Try.func108, Try.ntmps108
  go_wp2_with fail
  go_step3
  go_wp2
  try simp only [Exit.noGoto]
  go_ret3
  exact ⟨rfl, Below.refl _ _⟩

theorem ret_bnd {l : List Nat} {f t : Nat} {w : World} {v : Value} (h : bnd l = some (f, t)) {a b : Value} (ha : a = .int .i64 (f : Int)) (hb : b = .int .i64 (t : Int))
    (hC : Calls Try.prog 108 #[v] w fun e w' => e = .returned (.tuple #[a, b, .int .i64 0]) ∧ Below w.heap.size w w') :
    Calls Try.prog 108 #[v] w fun e w' => e = .returned (.tuple #[.int .i64 (bndV l).1, .int .i64 (bndV l).2.1, .int .i64 (bndV l).2.2]) ∧ Below w.heap.size w w' := by
  subst ha hb
  unfold bndV
  rw [h]
  exact hC
theorem ret_bad {l : List Nat} {w : World} {v : Value} (h : bnd l = none)
    (hC : Calls Try.prog 108 #[v] w fun e w' => e = .returned (.tuple #[.int .i64 0, .int .i64 0, .int .i64 31]) ∧ Below w.heap.size w w') :
    Calls Try.prog 108 #[v] w fun e w' => e = .returned (.tuple #[.int .i64 (bndV l).1, .int .i64 (bndV l).2.1, .int .i64 (bndV l).2.2]) ∧ Below w.heap.size w w' := by
  unfold bndV
  rw [h]
  exact hC
/-- THE CONTRACT of frame.bounds. -/
theorem bounds_calls (v : Value) (l : List Nat) (w : World) (h : BRow w v l) :
    Calls Try.prog 108 #[v] w fun e w' => e = .returned (.tuple #[.int .i64 (bndV l).1, .int .i64 (bndV l).2.1, .int .i64 (bndV l).2.2]) ∧ Below w.heap.size w w' := by
  obtain ⟨ha, ⟨a, c, rfl, rfl, hm⟩ | ⟨b, off, cap, rfl, hc, hm, hcell⟩⟩ := h
  · exact ret_bnd (f := 1) (t := 1) rfl rfl rfl (bounds_nil a c w)
  match l, ha, hc, hcell with
  | [], ha, hc, hcell => exact ret_bnd (f := 1) (t := 1) rfl rfl rfl (bounds_nil _ cap w)
  | d :: t, ha, hc, hcell =>
    have hd := ha d (List.mem_cons_self ..)
    have c0 : w.cell? ⟨b, off, none⟩ = some (.int .u8 d) := hcell 0 (by simp)
    by_cases h1 : d ≤ 246
    · exact ret_bnd (f := 1) (t := 1 + d) (by simp [bnd, h1]) rfl rfl (bounds_small b off cap _ d w hc hm c0 (by simp) h1)
    by_cases h2 : d = 247
    · match t, ha, hc, hcell with
      | [], ha, hc, hcell => exact ret_bnd (f := 2) (t := 249) (by simp [bnd, h2]) rfl rfl (bounds_247_1 b off cap _ d w hc hm c0 rfl h2)
      | x :: t, ha, hc, hcell =>
        have c1 : w.cell? ⟨b, off + 1, none⟩ = some (.int .u8 x) := hcell 1 (by simp)
        have hx := ha x (by simp)
        by_cases h3 : x < 247
        · exact ret_bad (by simp [bnd, h2, h3]) (bounds_247_bad b off cap _ d x w hc hm c0 (by simp) h2 hx c1 h3)
        · exact ret_bnd (f := 2) (t := 2 + x) (by simp [bnd, h2, h3]) rfl rfl (bounds_247_ok b off cap _ d x w hc hm c0 (by simp) h2 hx c1 (by omega))
    by_cases h3 : d = 248
    · match t, ha, hc, hcell with
      | [], ha, hc, hcell => exact ret_bnd (f := 3) (t := 259) (by simp [bnd, h3]) rfl rfl (bounds_248_1 b off cap _ d w hc hm c0 rfl h3)
      | [x], ha, hc, hcell =>
        have c1 : w.cell? ⟨b, off + 1, none⟩ = some (.int .u8 x) := hcell 1 (by simp)
        have hx := ha x (by simp)
        by_cases h4 : x = 0 ∨ 64 < x
        · exact ret_bad (by simp [bnd, h3, h4]) (bounds_248_2bad b off cap _ d x w hc hm c0 rfl h3 hx c1 h4)
        · exact ret_bnd (f := 3) (t := 3 + 256 * x) (by simp [bnd, h3, h4]) rfl rfl (bounds_248_2ok b off cap _ d x w hc hm c0 rfl h3 hx c1 (by omega))
      | x :: y :: t, ha, hc, hcell =>
        have c1 : w.cell? ⟨b, off + 1, none⟩ = some (.int .u8 x) := hcell 1 (by simp)
        have c2 : w.cell? ⟨b, off + 2, none⟩ = some (.int .u8 y) := hcell 2 (by simp)
        have hx := ha x (by simp)
        have hy := ha y (by simp)
        by_cases h4 : x = 0 ∨ 16384 < 256 * x + y
        · refine ret_bad (by simp [bnd, h3, h4]) ?_
          by_cases h5 : x = 0 ∨ 64 < x
          · exact bounds_248_3bad b off cap _ d x y w hc hm c0 (by simp) h3 hx hy c1 c2 h5
          · exact bounds_248_3big b off cap _ d x y w hc hm c0 (by simp) h3 hx hy c1 c2 (by omega)
        · exact ret_bnd (f := 3) (t := 3 + (256 * x + y)) (by simp [bnd, h3, h4]) rfl rfl (bounds_248_3ok b off cap _ d x y w hc hm c0 (by simp) h3 hx hy c1 c2 (by omega))
    · have hbad : bnd (d :: t) = none := by simp [bnd, h1, h2, h3]
      refine ret_bad hbad ?_
      match t, ha, hc, hcell with
      | [], ha, hc, hcell => exact bounds_big_1 b off cap _ d (d - 246) w hc hm c0 rfl (by omega) hd (by omega)
      | x :: t, ha, hc, hcell =>
        have c1 : w.cell? ⟨b, off + 1, none⟩ = some (.int .u8 x) := hcell 1 (by simp)
        by_cases h4 : (d :: x :: t).length < 1 + (d - 246)
        · exact bounds_big_2 b off cap _ d (d - 246) x w hc hm c0 (by simp) h4 (by omega) hd (by omega) c1
        · exact bounds_big_3 b off cap _ d (d - 246) x w hc hm c0 (by simp) (by omega) (by omega) hd (by omega) c1
end Go.Proofs.Yteaeedhhdnkldaa
