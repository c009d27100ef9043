/-
  CONTRACT of the law's awake.
-/
import Derived.Test.YtaeppclimafikaaSlotsH
namespace Go.Proofs.Ytaeppclimafikaa
open Go.RowKit

/-- The example's table after j takes. -/
def awT : Nat → Tb
  | 0 => newT 3
  | j + 1 => (takeF (awT j)).2.2
def awR (j : Nat) : List Rf := (List.range j).map fun (p : Nat) => ((p : Int), (1 : Int))
theorem awR_succ (j : Nat) : awR (j + 1) = awR j ++ [((j : Int), (1 : Int))] := by unfold awR; rw [List.range_succ, List.map_append]; rfl
theorem awR_len (j : Nat) : (awR j).length = j := by simp [awR]
theorem aw_take : ∀ j, j < 3 → (takeF (awT j)).1 = (j, 1) ∧ (takeF (awT j)).2.1 = 0
  | 0, _ => ⟨rfl, rfl⟩
  | 1, _ => ⟨rfl, rfl⟩
  | 2, _ => ⟨rfl, rfl⟩
def aw5 : Tb := giveT 2 (awT 3) 1
def aw6 : Tb := giveT 2 aw5 0
def aw7 : Tb := (takeF aw6).2.2
def aw8 : Tb := giveT 2 aw7 0
def aw9 : Tb := (takeF aw8).2.2
def aw10 : Tb := clrT 2 aw9 (pl 3 aw9.tk)
theorem aw_full : takeF (awT 3) = ((0, 0), 4, awT 3) := rfl
theorem aw_free6 : aw6.free = [0, 1] := rfl
theorem aw_take6 : (takeF aw6).1 = (0, 2) ∧ (takeF aw6).2.1 = 0 := ⟨rfl, rfl⟩
theorem aw_live7 : liveT 3 aw7 0 1 = false := by decide
theorem aw_cnt8 : cnt 3 aw8.tk = 1 ∧ aw8.free.length = 1 ∧ cnt 3 (wornF 2 aw8) = 1 := by decide
theorem aw_take8 : (takeF aw8).1 = (1, 2) ∧ (takeF aw8).2.1 = 0 := ⟨rfl, rfl⟩
theorem aw_cnt9 : cnt 3 aw9.tk = 2 := by decide
theorem aw_free10 : aw10.free = [2] := by decide
/-- WHERE awake STANDS. -/
structure AwAt (w W : World) (q g B : Nat) (S : Tb) : Prop where
  tab : TA W q g 3 2 S
  lt : q < B ∧ g < B
  ge : w.heap.size ≤ q ∧ w.heap.size ≤ g ∧ w.heap.size ≤ B
  bel : Below w.heap.size w W
theorem AwAt.step {w W W' : World} {q g B : Nat} {S S' : Tb} (h : AwAt w W q g B S) (t : TA W' q g 3 2 S') (o : Off (Q2 q g) W W') : AwAt w W' q g B S' :=
  ⟨t, h.lt, h.ge, h.bel.trans (o.below (by rintro x (rfl | rfl); exact h.ge.1; exact h.ge.2.1) h.bel.size)⟩
theorem AwAt.to {w W W' : World} {q g B : Nat} {S : Tb} (h : AwAt w W q g B S) (hb : Below W.heap.size W W') : AwAt w W' q g B S :=
  h.step (h.tab.below hb) (Off.of_below hb)
theorem AwAt.al {w W : World} {q g B : Nat} {S : Tb} (h : AwAt w W q g B S) (o : Obj) : AwAt w (W.alloc o) q g B S := h.to ((Below.refl _ W).alloc (Nat.le_refl _) o)
theorem AwAt.row {w W W' : World} {q g B : Nat} {S : Tb} {v : Value} {l : List Rf} (h : AwAt w W q g B S) (r : RV W B v l) (o : Off (Q2 q g) W W') : RV W' B v l := r.off o (by rintro x (rfl | rfl); exact h.lt.1; exact h.lt.2)
theorem AwAt.rown {w W W' : World} {q g B : Nat} {S : Tb} {v : Value} {l : List Nat} (h : AwAt w W q g B S) (r : NV W B v l) (o : Off (Q2 q g) W W') : NV W' B v l := r.off o (by rintro x (rfl | rfl); exact h.lt.1; exact h.lt.2)
theorem AwAt.box {w W W' : World} {q g B b : Nat} {S : Tb} {x : Obj} (h : AwAt w W q g B S) (hx : W.heap[b]? = some x) (hb : B ≤ b) (o : Off (Q2 q g) W W') : W'.heap[b]? = some x :=
  (o.block b (Array.getElem?_eq_some_iff.1 hx).1 (by rintro (e | e); have := h.lt.1; omega; have := h.lt.2; omega)).trans hx
theorem box_al {w : World} {b : Nat} {x : Obj} (h : w.heap[b]? = some x) (o : Obj) : (w.alloc o).heap[b]? = some x := (Below.heap_alloc _ _ _ (Array.getElem?_eq_some_iff.1 h).1).trans h
set_option maxRecDepth 100000 in
set_option maxHeartbeats 4000000 in
theorem awake_calls (w : World) :
    Calls Try.prog 12 #[] w fun e w' => e = .returned (.bool true) ∧ Below w.heap.size w w' := by
  have HNw := Lib.hid (show Calls Try.prog 16 #[.int .i64 3, .int .i64 2] w fun e w' => ∃ q g, e = .returned (.tuple #[.pointer (some ⟨q, 0, none⟩), .int .i64 0]) ∧ TA w' q g 3 2 (newT 3) ∧ Below w.heap.size w w' ∧ w.heap.size ≤ q ∧ w.heap.size ≤ g from new_calls 3 2 (by omega) (by omega) (by omega) w)
  go_enter Try.func12, Try.ntmps12
  go_wp2_with fail
  refine HNw.out.mono ?_
  rintro e w1 ⟨q, g, rfl, h1, hb1, hq, hg⟩
  have H1 := Lib.hid (show AwAt w w1 q g w1.heap.size (awT 0) from ⟨h1, h1.lt, ⟨hq, hg, hb1.size⟩, hb1⟩)
  have HR1 := Lib.hid (show RV w1 w1.heap.size (.slice none 0 0) (awR 0) from World.ownsRow_nil _ _ _ _)
  obtain ⟨B, hB⟩ : ∃ B, w1.heap.size = B := ⟨_, rfl⟩
  rw [hB] at H1 HR1
  have HB1 := Lib.hid hB
  obtain ⟨i0, hi, hz0, hz1, hz2⟩ := info_parts info_ref
  have HI0 := Lib.hid hi; have HZ0 := Lib.hid hz0; have HZ1 := Lib.hid hz1; have HZ2 := Lib.hid hz2
  clear h1 hb1 hq hg hB HNw hi hz0 hz1 hz2
  go_upto_block 0 with fail
  go_cut [3, 4, 5, 32] (fun s3 s4 s5 s32 wx => RV wx B s3 (awR 3) ∧ AwAt w wx q g B (awT 3) ∧ B ≤ wx.heap.size)
  case first =>
    go_wp2_with fail
    go_loopw [3, 32] (fun s3 s32 wr => ∃ j : Nat, j ≤ 3 ∧ s32 = .int .i64 (j : Int) ∧ RV wr B s3 (awR j) ∧ AwAt w wr q g B (awT j) ∧ B ≤ wr.heap.size) (fun _ s32 _ => 3 - (intOf s32).toNat)
    case atStart => exact ⟨0, by omega, rfl, HR1.out, H1.out, by have := HB1.out; omega⟩
    case round =>
      obtain ⟨j, hj, rfl, hr, ht, hbs⟩ := hrel
      have HR := Lib.hid hr; have HT := Lib.hid ht
      obtain ⟨va, vc, rfl⟩ := row_shape hr
      rw [awR_len]
      clear HR1 H1 ht HB1 hr
      by_cases hlt : j < 3
      · have hj1 : (j : Int) < 3 := by omega
        have hwj : IntKind.i64.wrap ((j : Int) + 1) = (j : Int) + 1 := by rw [IntKind.wrap_i64]; omega
        have HTk := Lib.hid (take_calls HT.out.tab)
        rw [(aw_take j hlt).1, (aw_take j hlt).2] at HTk
        dsimp only at HTk
        go_upto_region 8 with (go_at_call 23; refine HTk.out.mono ?_; rintro e w3 ⟨rfl, t3, o3⟩; have T3 := Lib.hid t3; have O3 := Lib.hid o3; clear t3 o3)
        have hs3 := O3.out.size
        have r3 := HT.out.row HR.out O3.out
        have HA3 := Lib.hid ((HT.out.step T3.out O3.out).al (.cells #[.int .i64 (j : Int), .int .i64 1] 26))
        have HR3 := Lib.hid (show (((w3.alloc (.cells #[.int .i64 (j : Int), .int .i64 1] 26)).alloc (.cells #[.int .i64 (j : Int), .int .i64 1] 26))).ownsRow B 26 2 (.slice va j vc) j (cellsR (awR j)) by
          have h2 := row_below r3 (((Below.refl _ w3).alloc (Nat.le_refl _) (.cells #[.int .i64 (j : Int), .int .i64 1] 26)).alloc (by simp) (.cells #[.int .i64 (j : Int), .int .i64 1] 26))
          rw [awR_len] at h2
          exact h2)
        have s0 : (w3.alloc (.cells #[.int .i64 (j : Int), .int .i64 1] 26)).cell? ⟨w3.heap.size, 0, none⟩ = some (.int .i64 (j : Int)) := by simp
        clear r3
        go_wp2_with (at_builtin; refine wpList_append_own_at _ rfl _ _ 44 rfl B 26 i0 (.agg #[.int .i64 0, .int .i64 0]) 2 16 Try.underlying44 HI0.out HZ0.out HZ1.out HZ2.out rfl (by decide) _ _ _ rfl HR3.out ⟨w3.heap.size + 1, 0, none⟩ 1 1 [.int .i64 (j : Int), .int .i64 1] rfl rfl (by have := cells2_new (w3.alloc (.cells #[.int .i64 (j : Int), .int .i64 1] 26)) (.int .i64 (j : Int)) (.int .i64 1) 26; rw [World.size_alloc] at this; exact this) (cellsR_one [((j : Int), (1 : Int))]) (by unfold maxLen; omega) (by omega) (by simp; omega) ?_; intro v2 w4 hown2 hgr2 _ _; have HO2 := Lib.hid hown2; have HG2 := Lib.hid hgr2; clear hown2 hgr2)
        obtain ⟨va2, vc2, rfl⟩ := row_shape HO2.out
        go_roundw
        case rel =>
          have h4 := (HA3.out.al (.cells #[.int .i64 (j : Int), .int .i64 1] 26))
          have o4 : Off (fun k => B ≤ k) _ w4 := Off.of_grown HG2.out (fun k e => (row_lt HR3.out k e).1)
          have t4 := h4.tab.off o4 ⟨by have := h4.lt.1; omega, by have := h4.lt.2; omega⟩
          refine ⟨j + 1, by omega, by go_num, ?_, ⟨t4, h4.lt, h4.ge, h4.bel.trans (o4.below (fun k hk => by have := h4.ge.2.2; omega) h4.bel.size)⟩, ?_⟩
          · show World.ownsRow _ _ _ _ _ (awR (j + 1)).length (cellsR (awR (j + 1)))
            rw [awR_succ, cellsR_append, List.length_append, awR_len]
            exact HO2.out
          · have := HG2.out.size
            simp at this
            omega
        case measure => simp [intOf]; omega
      · obtain rfl : j = 3 := by omega
        go_wp2_with fail
        go_meet
        have hr := HR.out
        rw [awR_len] at hr
        exact ⟨hr, HT.out, hbs⟩
  case rest =>
    obtain ⟨hr, ht, hbs⟩ := hcut
    obtain ⟨va, vc, rfl⟩ := row_shape hr
    have HR := Lib.hid hr; have HT := Lib.hid ht; have HS := Lib.hid hbs
    clear HR1 H1 HB1 hr ht hbs HI0 HZ0 HZ1 HZ2
    go_wp2_with fail
    refine (take_calls HT.out.tab).mono ?_
    rw [aw_full]
    rintro e w3 ⟨rfl, t3, o3⟩
    have HT3 := Lib.hid ((HT.out.step t3 o3).al (.cells #[.int .i64 0, .int .i64 0] 26))
    have HR3 := Lib.hid ((HT.out.row HR.out o3).below ((Below.refl _ w3).alloc (Nat.le_refl _) (.cells #[.int .i64 0, .int .i64 0] 26)))
    have HS3 := Lib.hid (show B ≤ w3.heap.size by have := o3.size; have := HS.out; omega)
    clear t3 o3 HT HR HS
    go_wp2_with fail
    refine (show Calls Try.prog 24 #[.pointer (some ⟨q, 0, none⟩), .agg #[.int .i64 1, .int .i64 1]] _ (fun e w' => e = .returned (.int .i64 0) ∧ TStep _ w' q g 3 2 aw5) from give_yes HT3.out.tab (p := 1) (by decide) rfl).mono ?_
    rintro e w4 ⟨rfl, t, o⟩
    have HR4 := Lib.hid (HT3.out.row HR3.out o)
    have HS4 := Lib.hid (show B ≤ w4.heap.size by have z := (o).size; have := HS3.out; (try simp only [World.size_alloc] at z); omega)
    have HT4 := Lib.hid (show AwAt w w4 q g B aw5 from HT3.out.step t o)
    clear t o HT3 HR3
    go_wp2_with fail
    refine (show Calls Try.prog 24 #[.pointer (some ⟨q, 0, none⟩), .agg #[.int .i64 0, .int .i64 1]] _ (fun e w' => e = .returned (.int .i64 0) ∧ TStep _ w' q g 3 2 aw6) from give_yes HT4.out.tab (p := 0) (by decide) rfl).mono ?_
    rintro e w5 ⟨rfl, t, o⟩
    have HR5 := Lib.hid (HT4.out.row HR4.out o)
    have HS5 := Lib.hid (show B ≤ w5.heap.size by have z := (o).size; have := HS4.out; (try simp only [World.size_alloc] at z); omega)
    have HT5 := Lib.hid (show AwAt w w5 q g B aw6 from HT4.out.step t o)
    clear t o HT4 HR4
    go_wp2_with fail
    refine (Free_calls HT5.out.tab).mono ?_
    rintro e w6 ⟨vf, rfl, hn, hb⟩
    have o := Off.of_below (F := Q2 q g) hb
    have HR6 := Lib.hid (HT5.out.row HR5.out o)
    have HS6 := Lib.hid (show B ≤ w6.heap.size by have z := (o).size; have := HS5.out; (try simp only [World.size_alloc] at z); omega)
    have HT6 := Lib.hid (HT5.out.to hb)
    obtain ⟨fa, fc, rfl⟩ := row_shape hn
    have HN6 := Lib.hid (show NV w6 B (.slice fa aw6.free.length fc) [0, 1] from row_weak hn HS5.out)
    clear hn
    clear o hb HT5 HR5
    go_wp2_with fail
    refine (show Calls Try.prog 23 #[.pointer (some ⟨q, 0, none⟩)] _ (fun e w' => e = .returned (.tuple #[.agg #[.int .i64 0, .int .i64 2], .int .i64 0]) ∧ TStep _ w' q g 3 2 aw7) from take_calls HT6.out.tab).mono ?_
    rintro e w7 ⟨rfl, t, o⟩
    have HR7 := Lib.hid (((HT6.out.row HR6.out o).below ((Below.refl _ w7).alloc (Nat.le_refl _) (.cells #[.int .i64 0, .int .i64 2] 26))))
    have HN7 := Lib.hid (((HT6.out.rown HN6.out o).below ((Below.refl _ w7).alloc (Nat.le_refl _) (.cells #[.int .i64 0, .int .i64 2] 26))))
    have HS7 := Lib.hid (show B ≤ w7.heap.size by have z := (o).size; have := HS6.out; (try simp only [World.size_alloc] at z); omega)
    have HT7 := Lib.hid (show AwAt w (w7.alloc (.cells #[.int .i64 0, .int .i64 2] 26)) q g B aw7 from (HT6.out.step t o).al _)
    clear t o HT6 HR6 HN6
    have HX7 := Lib.hid (World.alloc_heap_new w7 (.cells #[.int .i64 0, .int .i64 2] 26))
    have HSX := Lib.hid (show B ≤ w7.heap.size from HS7.out)
    go_wp2_with fail
    refine (show Calls Try.prog 19 #[.pointer (some ⟨q, 0, none⟩), .agg #[.int .i64 0, .int .i64 1]] _ (fun e w' => e = .returned (.bool false) ∧ Below _ _ w') from live_calls HT7.out.tab 0 1).mono ?_
    rintro e w8 ⟨rfl, hb⟩
    have o := Off.of_below (F := Q2 q g) hb
    have HR8 := Lib.hid (HT7.out.row HR7.out o)
    have HN8 := Lib.hid (HT7.out.rown HN7.out o)
    have HX8 := Lib.hid (HT7.out.box HX7.out (by have := HSX.out; omega) o)
    have HS8 := Lib.hid (show B ≤ w8.heap.size by have z := (o).size; have := HS7.out; (try simp only [World.size_alloc] at z); omega)
    have HT8 := Lib.hid (HT7.out.to hb)
    clear o hb HT7 HR7 HN7 HX7
    have y0 : w8.cell? ⟨w7.heap.size, 0, none⟩ = some (.int .i64 0) := by simp [World.cell?, HX8.out]
    have y1 : w8.cell? ⟨w7.heap.size, 1, none⟩ = some (.int .i64 2) := by simp [World.cell?, HX8.out]
    go_wp2_with fail
    clear y0 y1
    refine (show Calls Try.prog 24 #[.pointer (some ⟨q, 0, none⟩), .agg #[.int .i64 0, .int .i64 2]] _ (fun e w' => e = .returned (.int .i64 0) ∧ TStep _ w' q g 3 2 aw8) from give_yes HT8.out.tab (p := 0) (by decide) rfl).mono ?_
    rintro e w9 ⟨rfl, t, o⟩
    have HR9 := Lib.hid (HT8.out.row HR8.out o)
    have HN9 := Lib.hid (HT8.out.rown HN8.out o)
    have HX9 := Lib.hid (HT8.out.box HX8.out (by have := HSX.out; omega) o)
    have HS9 := Lib.hid (show B ≤ w9.heap.size by have z := (o).size; have := HS8.out; (try simp only [World.size_alloc] at z); omega)
    have HT9 := Lib.hid (show AwAt w w9 q g B aw8 from HT8.out.step t o)
    clear t o HT8 HR8 HN8 HX8
    go_wp2_with fail
    refine (show Calls Try.prog 20 #[.pointer (some ⟨q, 0, none⟩)] _ (fun e w' => e = .returned (.tuple #[.int .i64 1, .int .i64 1, .int .i64 1]) ∧ Below _ _ w') from counts_calls HT9.out.tab).mono ?_
    rintro e w10 ⟨rfl, hb⟩
    have o := Off.of_below (F := Q2 q g) hb
    have HR10 := Lib.hid (HT9.out.row HR9.out o)
    have HN10 := Lib.hid (HT9.out.rown HN9.out o)
    have HX10 := Lib.hid (HT9.out.box HX9.out (by have := HSX.out; omega) o)
    have HS10 := Lib.hid (show B ≤ w10.heap.size by have z := (o).size; have := HS9.out; (try simp only [World.size_alloc] at z); omega)
    have HT10 := Lib.hid (HT9.out.to hb)
    clear o hb HT9 HR9 HN9 HX9
    go_wp2_with fail
    refine (show Calls Try.prog 23 #[.pointer (some ⟨q, 0, none⟩)] _ (fun e w' => e = .returned (.tuple #[.agg #[.int .i64 1, .int .i64 2], .int .i64 0]) ∧ TStep _ w' q g 3 2 aw9) from take_calls HT10.out.tab).mono ?_
    rintro e w11 ⟨rfl, t, o⟩
    have HR11 := Lib.hid (((HT10.out.row HR10.out o).below ((Below.refl _ w11).alloc (Nat.le_refl _) (.cells #[.int .i64 1, .int .i64 2] 26))))
    have HN11 := Lib.hid (((HT10.out.rown HN10.out o).below ((Below.refl _ w11).alloc (Nat.le_refl _) (.cells #[.int .i64 1, .int .i64 2] 26))))
    have HX11 := Lib.hid (box_al (HT10.out.box HX10.out (by have := HSX.out; omega) o) (.cells #[.int .i64 1, .int .i64 2] 26))
    have HS11 := Lib.hid (show B ≤ w11.heap.size by have z := (o).size; have := HS10.out; (try simp only [World.size_alloc] at z); omega)
    have HT11 := Lib.hid (show AwAt w (w11.alloc (.cells #[.int .i64 1, .int .i64 2] 26)) q g B aw9 from (HT10.out.step t o).al _)
    clear t o HT10 HR10 HN10 HX10
    have HY11 := Lib.hid (World.alloc_heap_new w11 (.cells #[.int .i64 1, .int .i64 2] 26))
    have HSY := Lib.hid (show B ≤ w11.heap.size from HS11.out)
    go_wp2_with fail
    refine (show Calls Try.prog 25 #[.pointer (some ⟨q, 0, none⟩)] _ (fun e w' => e = .returned (.tuple #[.int .i64 2, .int .i64 0]) ∧ TStep _ w' q g 3 2 aw10) from clear_calls HT11.out.tab).mono ?_
    rintro e w12 ⟨rfl, t, o⟩
    have HR12 := Lib.hid (HT11.out.row HR11.out o)
    have HN12 := Lib.hid (HT11.out.rown HN11.out o)
    have HX12 := Lib.hid (HT11.out.box HX11.out (by have := HSX.out; omega) o)
    have HY12 := Lib.hid (HT11.out.box HY11.out (by have := HSY.out; omega) o)
    have HS12 := Lib.hid (show B ≤ w12.heap.size by have z := (o).size; have := HS11.out; (try simp only [World.size_alloc] at z); omega)
    have HT12 := Lib.hid (show AwAt w w12 q g B aw10 from HT11.out.step t o)
    clear t o HT11 HR11 HN11 HX11 HY11
    go_wp2_with fail
    have hl := (Below.refl _ w12).alloc (Nat.le_refl _) (.cells #[.int .i64 0, .int .i64 1, .int .i64 1, .int .i64 1, .int .i64 2, .int .i64 1] 26)
    have hrl : RV (w12.alloc (.cells #[.int .i64 0, .int .i64 1, .int .i64 1, .int .i64 1, .int .i64 2, .int .i64 1] 26)) w12.heap.size (.slice (some ⟨w12.heap.size, 0, none⟩) 3 3) (awR 3) := World.ownsRow_lit w12 #[.int .i64 0, .int .i64 1, .int .i64 1, .int .i64 1, .int .i64 2, .int .i64 1] 3 (Nat.le_refl _) (by unfold maxLen; omega) rfl
    have HT12a := Lib.hid (HT12.out.to hl)
    have HN12a := Lib.hid (HN12.out.below hl)
    have HX12a := Lib.hid (box_al HX12.out (.cells #[.int .i64 0, .int .i64 1, .int .i64 1, .int .i64 1, .int .i64 2, .int .i64 1] 26))
    have HY12a := Lib.hid (box_al HY12.out (.cells #[.int .i64 0, .int .i64 1, .int .i64 1, .int .i64 1, .int .i64 2, .int .i64 1] 26))
    have HS12a := Lib.hid (show B ≤ (w12.alloc (.cells #[.int .i64 0, .int .i64 1, .int .i64 1, .int .i64 1, .int .i64 2, .int .i64 1] 26)).heap.size by have := HS12.out; simp; omega)
    refine (equalRs_calls _ _ _ _ (awR 3) _ (HR12.out.below hl) hrl (by decide)).mono ?_
    rintro e w13 ⟨rfl, hb⟩
    have o := Off.of_below (F := Q2 q g) hb
    have HT13 := Lib.hid (HT12a.out.to hb)
    have HN13 := Lib.hid (HN12a.out.below hb)
    have HX13 := Lib.hid (HT12a.out.box HX12a.out (by have := HSX.out; omega) o)
    have HY13 := Lib.hid (HT12a.out.box HY12a.out (by have := HSY.out; omega) o)
    have HS13 := Lib.hid (show B ≤ w13.heap.size by have := hb.size; have := HS12a.out; omega)
    clear hl hrl hb o HT12 HN12 HX12 HY12 HR12 HT12a HN12a HX12a HY12a
    go_wp2_with fail
    have hl := (Below.refl _ w13).alloc (Nat.le_refl _) (.cells #[.int .i64 0, .int .i64 1] 3)
    have hrl : NV (w13.alloc (.cells #[.int .i64 0, .int .i64 1] 3)) w13.heap.size (.slice (some ⟨w13.heap.size, 0, none⟩) 2 2) [0, 1] := World.ownsRow_lit w13 #[.int .i64 0, .int .i64 1] 2 (Nat.le_refl _) (by unfold maxLen; omega) rfl
    have HT13a := Lib.hid (HT13.out.to hl)
    have HX13a := Lib.hid (box_al HX13.out (.cells #[.int .i64 0, .int .i64 1] 3))
    have HY13a := Lib.hid (box_al HY13.out (.cells #[.int .i64 0, .int .i64 1] 3))
    have HS13a := Lib.hid (show B ≤ (w13.alloc (.cells #[.int .i64 0, .int .i64 1] 3)).heap.size by have := HS13.out; simp; omega)
    refine (equalNs_calls _ _ _ _ [0, 1] _ (HN13.out.below hl) hrl (by decide)).mono ?_
    rintro e w14 ⟨rfl, hb⟩
    have o := Off.of_below (F := Q2 q g) hb
    have HT14 := Lib.hid (HT13a.out.to hb)
    have HX14 := Lib.hid (HT13a.out.box HX13a.out (by have := HSX.out; omega) o)
    have HY14 := Lib.hid (HT13a.out.box HY13a.out (by have := HSY.out; omega) o)
    have HS14 := Lib.hid (show B ≤ w14.heap.size by have := hb.size; have := HS13a.out; omega)
    clear hl hrl hb o HT13 HN13 HX13 HY13 HT13a HX13a HY13a
    have y0 : w14.cell? ⟨w7.heap.size, 0, none⟩ = some (.int .i64 0) := by simp [World.cell?, HX14.out]
    have y1 : w14.cell? ⟨w7.heap.size, 1, none⟩ = some (.int .i64 2) := by simp [World.cell?, HX14.out]
    have z0 : w14.cell? ⟨w11.heap.size, 0, none⟩ = some (.int .i64 1) := by simp [World.cell?, HY14.out]
    have z1 : w14.cell? ⟨w11.heap.size, 1, none⟩ = some (.int .i64 2) := by simp [World.cell?, HY14.out]
    have q1 : ∀ W, (binOp .eql 26 (.agg #[.int .i64 0, .int .i64 2]) (.agg #[.int .i64 0, .int .i64 2])).run Try.prog W = .ok (.bool true) W := fun W => eqlR 0 2 0 2 W
    have q2 : ∀ W, (binOp .eql 26 (.agg #[.int .i64 1, .int .i64 2]) (.agg #[.int .i64 1, .int .i64 2])).run Try.prog W = .ok (.bool true) W := fun W => eqlR 1 2 1 2 W
    go_wp2_with fail
    refine (Free_calls HT14.out.tab).mono ?_
    rintro e w15 ⟨vg, rfl, hn, hb⟩
    obtain ⟨ga, gc, rfl⟩ := row_shape hn
    have HT15 := Lib.hid (HT14.out.to hb)
    have HN15 := Lib.hid (show NV w15 B (.slice ga aw10.free.length gc) [2] from row_weak hn HS14.out)
    clear hn hb y0 y1 z0 z1 q1 q2
    go_wp2_with fail
    have hl := (Below.refl _ w15).alloc (Nat.le_refl _) (.cells #[.int .i64 2] 3)
    have hrl : NV (w15.alloc (.cells #[.int .i64 2] 3)) w15.heap.size (.slice (some ⟨w15.heap.size, 0, none⟩) 1 1) [2] := World.ownsRow_lit w15 #[.int .i64 2] 1 (Nat.le_refl _) (by unfold maxLen; omega) rfl
    refine (equalNs_calls _ _ _ _ [2] _ (HN15.out.below hl) hrl (by decide)).mono ?_
    rintro e w16 ⟨rfl, hb⟩
    have HE := Lib.hid ((HT15.out.to hl).bel.trans (hb.mono (HT15.out.to hl).bel.size))
    clear hl hrl hb
    go_wp2_with fail
    go_ret
    exact ⟨rfl, HE.out⟩
end Go.Proofs.Ytaeppclimafikaa
