/-
  CONTRACTS of math/bits.Mul64, math/bits.Mul and bytes.Repeat of one byte; nothing that was there is written.
-/
import Derived.Test.YteaeedhhdnkldaaNumAll
import Derived.Test.YteaeedhhdnkldaaAppend8
import Derived.Shelf.Bits.Mul64
import Derived.Lib.MakeNoZero
import Derived.Laws.CopyOwn
import Derived.Deep.RegionLaw
namespace Go.Proofs.Yteaeedhhdnkldaa
open Go.RowKit Pl

set_option maxRecDepth 100000 in
set_option maxHeartbeats 1000000 in
theorem mul64_calls (x y : Nat) (hx : x < 18446744073709551616) (hy : y < 18446744073709551616) (w : World) :
    Calls Try.prog 131 #[.int .u64 x, .int .u64 y] w fun e w' => e = .returned (.tuple #[.int .u64 ((x * y / 18446744073709551616 : Nat) : Int), .int .u64 ((x * y % 18446744073709551616 : Nat) : Int)]) ∧ w = w' := by
  obtain ⟨bd, bt, bw, hhi⟩ := Lib.mul64_hi x y hx hy
  have ba := Lib.half_mul_le (a := x / 4294967296) (b := y / 4294967296) (by omega) (by omega)
  have bb := Lib.half_mul_le (a := x / 4294967296) (b := y % 4294967296) (by omega) (by omega)
  have bc := Lib.half_mul_le (a := x % 4294967296) (b := y / 4294967296) (by omega) (by omega)
  have ba' : x / 4294967296 * (y / 4294967296) < 18446744073709551616 := by omega
  have bb' : x / 4294967296 * (y % 4294967296) < 18446744073709551616 := by omega
  have bc' : x % 4294967296 * (y / 4294967296) < 18446744073709551616 := by omega
  have bh1 : x / 4294967296 * (y / 4294967296) + (x / 4294967296 * (y % 4294967296) + x % 4294967296 * (y % 4294967296) / 4294967296) / 4294967296 < 18446744073709551616 := by omega
  have bh : x / 4294967296 * (y / 4294967296) + (x / 4294967296 * (y % 4294967296) + x % 4294967296 * (y % 4294967296) / 4294967296) / 4294967296 + ((x / 4294967296 * (y % 4294967296) + x % 4294967296 * (y % 4294967296) / 4294967296) % 4294967296 + x % 4294967296 * (y / 4294967296)) / 4294967296 < 18446744073709551616 := by omega
  go_enter Try.func131, Try.ntmps131
  go_wp2
  simp only [Mul64.maskN x hx, Mul64.maskN y hy, Mul64.divN, Mul64.mulN, Mul64.addN, Mul64.wrapN _ bd, Mul64.wrapN _ bb', Mul64.wrapN _ bt, Mul64.maskN _ bt, Mul64.wrapN _ bc', Mul64.wrapN _ bw, Mul64.wrapN _ ba', Mul64.wrapN _ bh1, Mul64.wrapN _ bh, Mul64.wrapM (x * y)]
  rw [hhi]
  go_ret2
  exact ⟨rfl, rfl⟩

set_option maxRecDepth 100000 in
set_option maxHeartbeats 1000000 in
theorem mul_one_calls (y : Nat) (hy : y < 18446744073709551616) (w : World) :
    Calls Try.prog 96 #[.int .u64 1, .int .u64 y] w fun e w' => e = .returned (.tuple #[.int .u64 0, .int .u64 y]) ∧ w = w' := by
  have hc := mul64_calls 1 y (by omega) hy w
  rw [show 1 * y / 18446744073709551616 = 0 by omega, show 1 * y % 18446744073709551616 = y by omega] at hc
  have HC := Lib.hid hc
  clear hc
  go_enter Try.func96, Try.ntmps96
  go_wp2_with (go_at_call 131; refine HC.out.mono ?_; rintro e w' ⟨rfl, rfl⟩)
  go_ret2
  exact ⟨rfl, rfl⟩

/-- THE FIRST k CELLS OF THE BLOCK g OF m BYTES ARE x. -/
def RepAt (w : World) (g m k x : Nat) : Prop := ∃ C : List Value, w.heap[g]? = some (.cells C.toArray 5 (0, 0)) ∧ C.length = m ∧ k ≤ m ∧ C.take k = List.replicate k (B8 x)
theorem take_splice {C : List Value} {k j : Nat} {v : Value} (hC : C.take k = List.replicate k v) : (splice C k (List.replicate j v)).take (k + j) = List.replicate (k + j) v := by
  unfold splice
  rw [hC, List.length_replicate, ← List.append_assoc, List.replicate_append_replicate, List.take_append_of_le_length (by simp), List.take_of_length_le (by simp)]
theorem RepAt.cell {w : World} {g m k x i : Nat} (h : RepAt w g m k x) (hi : i < k) : w.cell? ⟨g, i, none⟩ = some (B8 x) := by
  obtain ⟨C, h1, h2, h3, h4⟩ := h
  rw [cell_of_row w g i _ _ (0, 0) h1]
  have e : (C.take k)[i]? = (List.replicate k (B8 x))[i]? := by rw [h4]
  rw [List.getElem?_take, if_pos hi, List.getElem?_replicate, if_pos hi] at e
  simpa using e
/-- A ROW OF BYTES IN A BLOCK OF THE CALL's OWN, which may hold more. -/
def Half8 (w : World) (base : Nat) (v : Value) (l : List Nat) : Prop := BRow w v l ∧ ∀ k, v.ownBlock = some k → base ≤ k ∧ ∃ c, w.heap[k]? = some (.cells c 5 (0, 0))
theorem RepAt.half {w : World} {g m k x base : Nat} (h : RepAt w g m k x) (hm : k ≤ maxLen) (hx : x < 256) (hb : base ≤ g) : Half8 w base (.slice (some ⟨g, 0, none⟩) k k) (List.replicate k x) := by
  refine ⟨⟨fun d hd => by rw [List.eq_of_mem_replicate hd]; exact hx, .inr ⟨g, 0, k, by rw [List.length_replicate], by rw [List.length_replicate]; exact Nat.le_refl _, hm, fun i hi => ?_⟩⟩, fun j hj => ?_⟩
  · rw [List.length_replicate] at hi
    rw [Nat.zero_add, h.cell hi]
    have : gt (List.replicate k x) i = x := by simp [gt, List.getD_eq_getElem?_getD, hi]
    rw [this]
    rfl
  · simp only [Value.ownBlock, Option.some.injEq] at hj
    subst hj
    obtain ⟨C, h1, _⟩ := h
    exact ⟨hb, _, h1⟩
theorem Half8.of_own {w : World} {base : Nat} {v : Value} {l : List Nat} (h : Own8 w base v l) (hb : AllB l) : Half8 w base v l := by
  refine ⟨BRow.of_own h hb, fun k hk => ?_⟩
  rcases h.2 with ⟨rfl, _⟩ | ⟨g, cap, cur, rfl, h1, h2, _⟩
  · simp [Value.ownBlock] at hk
  · simp only [Value.ownBlock, Option.some.injEq] at hk
    subst hk
    exact ⟨h1, _, h2⟩

set_option maxRecDepth 100000 in
set_option maxHeartbeats 2000000 in
theorem repeat_calls (v : Value) (x n : Nat) (w : World) (h : BRow w v [x]) (hn : n ≤ 8000) :
    Calls Try.prog 23 #[v, .int .i64 n] w fun e w' => ∃ v', e = .returned v' ∧ Half8 w' w.heap.size v' (List.replicate n x) ∧ Below w.heap.size w w' := by
  have hx : x < 256 := h.1 x (by simp)
  by_cases h0 : n = 0
  · subst h0
    have HL := Lib.hid (own8_lit w [] #[] w.heap.size 0 0 rfl rfl rfl rfl (by simp) w.heap.size (Nat.le_refl _))
    have HA := Lib.hid ((Below.refl w.heap.size w).alloc (Nat.le_refl _) (.cells #[] 5))
    clear h
    go_enter Try.func23, Try.ntmps23
    go_wp2
    go_ret
    exact ⟨_, rfl, Half8.of_own HL.out AllB.nil, HA.out⟩
  · obtain ⟨_, ⟨_, _, _, e, _⟩ | ⟨b, off, cap, rfl, hc, hm, hcell⟩⟩ := h
    · simp at e
    have hc0 := hcell 0 (by simp)
    simp only [Nat.add_zero, gt, List.getD_cons_zero, List.length_cons, List.length_nil, Nat.zero_add] at hc0 hc
    have hM := mul_one_calls n (by omega) w
    have HM := Lib.hid hM
    obtain ⟨cs, hrunM, hle, hmax⟩ := Lib.run_makeNoZero (P := Try.prog) w #[3] 22 5 Try.underlying22 n (by omega)
    have hcall : (callFunc 97 #[.int .i64 (n : Int)]).run Try.prog w = .ok (.value (.slice (some ⟨w.heap.size, 0, none⟩) n cs.size)) ((w.alloc (.cells cs 5)).drewN 2) := by
      rw [run_callFunc_extern Try.func97 (by kernel_rfl) (by kernel_rfl) (by kernel_rfl) (e := Extern.BytealgMakeNoZero.makeNoZero #[3] #[22]) (by kernel_rfl), hrunM]
      rfl
    have hms := hmax (by unfold maxLen; omega)
    unfold maxLen at hms
    have i0 : (0 : Int) ≤ (n : Int) := by omega
    have i1 : (n : Int) ≤ (cs.size : Int) := by omega
    have i2 : ((n : Int) == 0) = false := by rw [beq_eq_false_iff_ne]; omega
    have i3 : (n : Int) ≤ 8000 := by omega
    have hw0 : IntKind.u64.wrap (n : Int) = (n : Int) := IntWalk.u64_in _ (by omega)
    clear hrunM hM hcell
    have hb0 : Below w.heap.size w ((w.alloc (.cells cs 5)).drewN 2) := ((Below.refl w.heap.size w).alloc (Nat.le_refl _) _).trans ⟨rfl, rfl, rfl, Nat.le_refl _, fun _ _ => rfl⟩
    have HB0 := Lib.hid hb0
    have hg0 : ((w.alloc (.cells cs 5)).drewN 2).heap[w.heap.size]? = some (.cells cs.toList.toArray 5 (0, 0)) := World.alloc_heap_new w (.cells cs 5)
    have HG0 := Lib.hid hg0
    have HP0 := Lib.hid (show ∀ j u, [B8 x][j]? = some u → ((w.alloc (.cells cs 5)).drewN 2).cell? ((⟨b, off, none⟩ : Addr).add j) = some u from fun j u hu => by
      have hj : j = 0 := by
        rcases Nat.eq_zero_or_pos j with h | h
        · exact h
        · rw [List.getElem?_eq_none (by simp only [List.length_cons, List.length_nil]; omega)] at hu; cases hu
      subst hj
      simp only [List.getElem?_cons_zero, Option.some.injEq] at hu
      subst hu
      exact (hb0.cell (p := ⟨b, off, none⟩) (block_lt_of_cell hc0)).trans hc0)
    have HGst := Lib.hid (show ∀ w2 : World, w2.heap[w.heap.size]? = some (.cells (splice cs.toList 0 [B8 x]).toArray 5 (0, 0)) → RepAt w2 w.heap.size cs.size 1 x from fun w2 h => ⟨_, h, by rw [length_splice _ _ _ (by simp; omega)]; simp, by omega, by have := take_splice (C := cs.toList) (k := 0) (j := 1) (v := B8 x) (by simp); simpa using this⟩)
    clear hb0 hg0 hc0
    go_enter Try.func23, Try.ntmps23
    go_wp2_with fail
    refine HM.out.mono ?_
    rintro e w' ⟨rfl, rfl⟩
    go_wp2_with (refine wpList_copy_splice rfl (.tmp 58) (.tmp 59) 22 22 rfl 5 Try.underlying22 (by kernel_rfl) _ _ n n 1 cap rfl rfl w.heap.size 0 cs.toList 5 HG0.out [B8 x] (by show 1 = min 1 n; omega) (fun _ => ⟨rfl, _, rfl, HP0.out⟩) (by simp only [List.length_cons, List.length_nil, Array.length_toList]; omega) (by intro u hu; rw [List.mem_singleton.1 hu]; rfl) w.heap.size w HB0.out (Nat.le_refl _) ?_; intro w2 HG2 hb2; have HB2 := Lib.hid hb2; clear hb2)
    have HR2 := Lib.hid (HGst.out w2 HG2.out)
    have HM2 := Lib.hid hle
    clear HG2 HB0 HG0 HP0 HGst HM hcall hmax hle
    generalize hm0 : cs.size = m at *
    have HM0 := Lib.hid hm0
    clear hm0
    generalize hg0 : w.heap.size = g at *
    have HG0 := Lib.hid hg0
    clear hg0
    go_loopw [10] (fun i wr => ∃ k : Nat, 1 ≤ k ∧ k ≤ n ∧ i = .int .i64 k ∧ RepAt wr g m k x ∧ Below g w wr) (fun i _ => n - (intOf i).toNat)
    case atStart => exact ⟨1, Nat.le_refl _, by omega, rfl, HR2.out, HB2.out⟩
    case round =>
      obtain ⟨k, hk1, hk, rfl, hrep, hbel⟩ := hrel
      have HB := Lib.hid hbel
      have HRe := Lib.hid hrep
      clear hbel
      by_cases hlt : k < n
      · have hmin : min (k : Int) (n : Int) = (k : Int) := by omega
        have hkn : ¬ n = k := by omega
        have hki : (k : Int) ≤ (n : Int) := by omega
        have hki0 : (0 : Int) ≤ (k : Int) := by omega
        obtain ⟨j, hj, hj1, hj2⟩ : ∃ j : Nat, j = Nat.min k (n - k) ∧ 1 ≤ j ∧ k + j ≤ n := ⟨_, rfl, by show 1 ≤ min k (n - k); omega, by show k + min k (n - k) ≤ n; omega⟩
        have HJ := Lib.hid hj
        obtain ⟨C, q1, q2, q3, q4⟩ := hrep
        have HQ1 := Lib.hid q1
        have HQ := Lib.hid (And.intro q2 (And.intro q3 q4))
        clear hj q1 q2 q3 q4
        have HQx := HRe.out
        have HP := Lib.hid (show ∀ i u, (List.replicate j (B8 x))[i]? = some u → wr.cell? ((⟨g, 0, none⟩ : Addr).add i) = some u from fun i u hu => by
          have hi : i < j := by
            rcases Nat.lt_or_ge i j with h | h
            · exact h
            · rw [List.getElem?_eq_none (by rw [List.length_replicate]; exact h)] at hu; cases hu
          rw [List.getElem?_replicate, if_pos hi] at hu
          have hadd : (⟨g, 0, none⟩ : Addr).add i = ⟨g, i, none⟩ := by unfold Addr.add; split <;> simp_all
          rw [hadd, HRe.out.cell (by have := HJ.out; have : j ≤ k := by rw [HJ.out]; exact Nat.min_le_left _ _
                                     omega)]
          exact hu)
        clear HQx
        go_wp2_with fail
        have HBd := Lib.hid (HB.out.trans (show Below g wr wr.drew from ⟨rfl, rfl, rfl, Nat.le_refl _, fun _ _ => rfl⟩))
        have HPd := Lib.hid (show ∀ i u, (List.replicate j (B8 x))[i]? = some u → wr.drew.cell? ((⟨g, 0, none⟩ : Addr).add i) = some u from HP.out)
        have HQd := Lib.hid (show wr.drew.heap[g]? = some (.cells C.toArray 5 (0, 0)) from HQ1.out)
        have HL := Lib.hid (show (List.replicate j (B8 x)).length = Nat.min k (n - k) by rw [List.length_replicate]; exact HJ.out)
        have HF := Lib.hid (show k + (List.replicate j (B8 x)).length ≤ C.length by rw [List.length_replicate]; have := HQ.out.1; have := HM2.out; omega)
        have HO := Lib.hid (show ∀ u ∈ List.replicate j (B8 x), u.oneCell' = true from fun u hu => by rw [List.eq_of_mem_replicate hu]; rfl)
        have HN := Lib.hid (show ∀ w4 : World, w4.heap[g]? = some (.cells (splice C k (List.replicate j (B8 x))).toArray 5 (0, 0)) → RepAt w4 g m (k + j) x from fun w4 h => ⟨_, h, by rw [length_splice _ _ _ HF.out]; exact HQ.out.1, by have := HM2.out; omega, take_splice HQ.out.2.2⟩)
        clear HP HQ1 HQ HJ
        have hsj : (k : Int) + (j : Int) ≤ 8000 := by omega
        have hsj0 : (0 : Int) ≤ (j : Int) := by omega
        have hwj : IntKind.i64.wrap ((k : Int) + (j : Int)) = (k : Int) + (j : Int) := IntWalk.i64_in _ (by omega)
        have hj0 : (List.replicate j (B8 x)).length = j := List.length_replicate
        have HJ0 := Lib.hid hj0
        clear hj0
        go_region_law ((refine step_copy_splice rfl (.tmp 70) (.tmp 73) 22 22 (by rfl) 5 Try.underlying22 (by kernel_rfl) (some ⟨g, k, none⟩) (some ⟨g, 0, none⟩) (n - k) (n - k) k n (by simp [Act.eval, Act.put]) (by simp [Act.eval, Act.put]) g k C 5 HQd.out (List.replicate j (B8 x)) HL.out (fun _ => ⟨rfl, _, rfl, HPd.out⟩) HF.out HO.out g w HBd.out (Nat.le_refl _) ?_; intro w4 hg4 hb4; have HN4 := Lib.hid (HN.out w4 hg4.out); have HB4 := Lib.hid hb4; clear hg4 hb4; rw [HJ0.out]))
        all_goals
          simp [Act.put]
          go_roundw
          case rel =>
            have hfin : ∃ k' : Nat, 1 ≤ k' ∧ k' ≤ n ∧ Value.int .i64 ((k : Int) + (j : Int)) = .int .i64 k' ∧ RepAt w4 g m k' x ∧ Below g w w4 := ⟨k + j, by omega, hj2, by go_num, HN4.out, HB4.out⟩
            first | exact hfin | ((repeat apply Exists.intro); exact ⟨hfin, rfl⟩)
          case measure => simp [intOf]; omega
      · obtain rfl : k = n := by omega
        go_wp2
        go_ret
        have hh := HRe.out.half (base := g) (by unfold maxLen; omega) hx (Nat.le_refl _)
        exact ⟨_, rfl, by rw [HG0.out]; exact hh, by rw [HG0.out]; exact HB.out⟩
end Go.Proofs.Yteaeedhhdnkldaa
