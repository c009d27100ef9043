import Derived.Test.YtcjkeobjojmpfaaGreatMHeapI
import Derived.Laws.CopyOwn
import Derived.Deep.RegionLaw
import Derived.Laws.OwnMore
section
/-
  CONTRACTS of heap's Take and Change.
-/
namespace Go.Proofs.YtcjkeobjojmpfaaGreat
open Go.RowKit Go.Shelf

/-- THE BLOCK p IS A BOX with the key k. -/
abbrev KBox (w : World) (p : Nat) (k : Ky) : Prop := w.heap[p]? = some (.cells #[.int .i64 k.1, .int .i64 k.2.1, .int .i64 k.2.2] 31 (0, 0))
theorem KBox.cells {w : World} {p : Nat} {k : Ky} (h : KBox w p k) : w.cell? ⟨p, 0, none⟩ = some (.int .i64 k.1) ∧ w.cell? ⟨p, 1, none⟩ = some (.int .i64 k.2.1) ∧ w.cell? ⟨p, 2, none⟩ = some (.int .i64 k.2.2) ∧ ∀ i, w.frozen? ⟨p, i, none⟩ = false :=
  ⟨by simp [World.cell?, h], by simp [World.cell?, h], by simp [World.cell?, h], fun i => by simp [World.frozen?, h]⟩
theorem KBox.lt {w : World} {p : Nat} {k : Ky} (h : KBox w p k) : p < w.heap.size := (Array.getElem?_eq_some_iff.1 h).1
theorem three_0 (w : World) (o1 o2 o3 : Obj) : (((w.alloc o1).alloc o2).alloc o3).heap[w.heap.size]? = some o1 := by
  rw [Below.heap_alloc _ _ _ (by simp; omega), Below.heap_alloc _ _ _ (by simp)]; exact World.alloc_heap_new w _
theorem three_1 (w : World) (o1 o2 o3 : Obj) : (((w.alloc o1).alloc o2).alloc o3).heap[w.heap.size + 1]? = some o2 := by
  rw [Below.heap_alloc _ _ _ (by simp)]
  have := World.alloc_heap_new (w.alloc o1) o2
  rwa [World.size_alloc] at this
theorem three_2 (w : World) (o1 o2 o3 : Obj) : (((w.alloc o1).alloc o2).alloc o3).heap[w.heap.size + 1 + 1]? = some o3 := by
  have := World.alloc_heap_new ((w.alloc o1).alloc o2) o3
  rwa [World.size_alloc, World.size_alloc] at this
section
variable {w : World} {q : Nat} {F : Nat → Prop} {n : Nat} {M : Mp}
end
end Go.Proofs.YtcjkeobjojmpfaaGreat
end

section
/-
  CONTRACTS of slices.Repeat at one number, and of heap's New.
-/
namespace Go.Proofs.YtcjkeobjojmpfaaGreat
open Go.RowKit Go.Shelf

theorem info_int : (Tryz.prog.info? 3).map (fun i => (i.zero, i.size, i.bytes)) = some (some (.int .i64 0), 1, 8) := by kernel_rfl
/-- THE FIRST k CELLS OF THE BLOCK g OF m NUMBERS ARE -1. -/
def RepI (w : World) (g m k : Nat) : Prop := ∃ C : List Value, w.heap[g]? = some (.cells C.toArray 3 (0, 0)) ∧ C.length = m ∧ k ≤ m ∧ C.take k = List.replicate k (.int .i64 (-1))
theorem take_splice {C : List Value} {k j : Nat} {v : Value} (hC : C.take k = List.replicate k v) : (splice C k (List.replicate j v)).take (k + j) = List.replicate (k + j) v := by
  unfold splice
  rw [hC, List.length_replicate, ← List.append_assoc, List.replicate_append_replicate, List.take_append_of_le_length (by simp), List.take_of_length_le (by simp)]
theorem RepI.cell {w : World} {g m k i : Nat} (h : RepI w g m k) (hi : i < k) : w.cell? ⟨g, i, none⟩ = some (.int .i64 (-1)) := by
  obtain ⟨C, h1, h2, h3, h4⟩ := h
  rw [cell_of_row w g i _ _ (0, 0) h1]
  have e : (C.take k)[i]? = (List.replicate k (Value.int .i64 (-1)))[i]? := by rw [h4]
  rw [List.getElem?_take, if_pos hi, List.getElem?_replicate, if_pos hi] at e
  simpa using e
theorem make_ints (n : Nat) (hn : n ≤ 100000) (w : World) : ∃ w', (Instr.makeSlice 58 (.int .i64 (n : Int)) (.int .i64 (n : Int))).run Tryz.prog w = .ok (.slice (some ⟨w.heap.size, 0, none⟩) n n) w' ∧ (∃ C : List Value, w'.heap[w.heap.size]? = some (.cells C.toArray 3 (0, 0)) ∧ C.length = n) ∧ Below w.heap.size w w' := by
  obtain ⟨i0, hi, hz0, hz1, hz2⟩ := info_parts info_int
  obtain ⟨w', hr, h2, h3⟩ := run_make_full (P := Tryz.prog) w w.heap.size 58 3 i0 (.int .i64 0) 1 Tryz.underlying58 hi hz0 hz1 .i64 .i64 n (by rw [hz2]; omega) (by unfold maxLen; omega) (Nat.le_refl _)
  refine ⟨w', hr, ?_, ⟨h3.os, h3.tape, h3.output, h3.size, fun k hk => h3.block k hk (by simp)⟩⟩
  obtain ⟨_, ⟨e, _⟩ | ⟨g, cap, cur, e, _, hg, hn2, hm, hs, ht⟩⟩ := h2
  · cases e
  · cases e
    exact ⟨cur.toList, hg, by simpa using hs⟩
set_option maxRecDepth 100000 in
set_option maxHeartbeats 2000000 in
theorem repeat_calls (b n : Nat) (w : World) (hc : w.cell? ⟨b, 0, none⟩ = some (.int .i64 (-1))) (hn : n ≤ 4096) :
    Calls Tryz.prog 74 #[.slice (some ⟨b, 0, none⟩) 1 1, .int .i64 (n : Int)] w fun e w' => e = .returned (.slice (some ⟨w.heap.size, 0, none⟩) n n) ∧ XRow w' w.heap.size n (fun _ => -1) ∧ Below w.heap.size w w' := by
  have mixed : Tryz.prog.follows .mixedOrders = true := by kernel_rfl
  have hM := Tryz.bits_Mul 1 n (by omega) (by omega) w
  rw [show 1 * n / 18446744073709551616 = 0 by omega, show 1 * n % 18446744073709551616 = n by omega] at hM
  have HM := Lib.hid (hM.mono (R' := fun e w' => e = .returned (.tuple #[.int .u64 0, .int .u64 (n : Int)]) ∧ w = w') fun _ _ h => ⟨h.1, h.2.symm⟩)
  obtain ⟨w1, hmk, ⟨C, hg1, hC⟩, hb1⟩ := make_ints n (by omega) w
  have HG1 := Lib.hid hg1
  have HB1 := Lib.hid hb1
  have HC := Lib.hid hC
  have HP1 := Lib.hid (show ∀ j u, (List.replicate (Nat.min 1 n) (Value.int .i64 (-1)))[j]? = some u → w1.cell? ((⟨b, 0, none⟩ : Addr).add j) = some u from fun j u hu => by
    have hj : j < Nat.min 1 n := by
      rcases Nat.lt_or_ge j (Nat.min 1 n) with h | h
      · exact h
      · rw [List.getElem?_eq_none (by rw [List.length_replicate]; exact h)] at hu; cases hu
    rw [List.getElem?_replicate, if_pos hj] at hu
    have h1 : Nat.min 1 n ≤ 1 := Nat.min_le_left _ _
    obtain rfl : j = 0 := by omega
    cases hu
    exact (hb1.cell (p := ⟨b, 0, none⟩) (block_lt_of_cell hc)).trans hc)
  have hw0 : IntKind.u64.wrap (n : Int) = (n : Int) := IntWalk.u64_in _ (by omega)
  have hw1 : IntKind.i64.wrap (n : Int) = (n : Int) := IntWalk.i64_in _ (by omega)
  have i0 : (0 : Int) ≤ (n : Int) := by omega
  have i1 : ¬ (n : Int) < 0 := by omega
  have i3 : (n : Int) ≤ 4096 := by omega
  have i4 : ¬ (n : Int) > 9223372036854775807 := by omega
  clear hM hg1 hb1 hc hC
  go_enter Tryz.func74, Tryz.ntmps74
  go_wp2_with (first
    | (go_at_call 102; refine HM.out.mono ?_; rintro e w' ⟨rfl, rfl⟩)
    | (refine wpList_copy_splice rfl (.tmp 31) (.tmp 32) 58 58 rfl 3 Tryz.underlying58 (by kernel_rfl) _ _ n n 1 1 rfl rfl w.heap.size 0 C 3 HG1.out (List.replicate (Nat.min 1 n) (.int .i64 (-1))) (by rw [List.length_replicate]) (fun _ => ⟨rfl, _, rfl, HP1.out⟩) (by rw [List.length_replicate, HC.out]; show 0 + min 1 n ≤ n; omega) (by intro u hu; rw [List.eq_of_mem_replicate hu]; rfl) w.heap.size w HB1.out (Nat.le_refl _) ?_; intro w2 HG2 hb2; have HB2 := Lib.hid hb2; clear hb2)
    | fail)
  have HR2 := Lib.hid (show RepI w2 w.heap.size n (Nat.min 1 n) from ⟨_, HG2.out, by rw [length_splice _ _ _ (by rw [List.length_replicate, HC.out]; show 0 + min 1 n ≤ n; omega)]; exact HC.out, Nat.min_le_right _ _, by have := take_splice (C := C) (k := 0) (j := Nat.min 1 n) (v := Value.int .i64 (-1)) (by simp); simpa using this⟩)
  have hl1 : (List.replicate (Nat.min 1 n) (Value.int .i64 (-1))).length = Nat.min 1 n := List.length_replicate
  obtain ⟨k0, hk0⟩ : ∃ k0, Nat.min 1 n = k0 := ⟨_, rfl⟩
  have hk1 : k0 ≤ n ∧ (0 < n → 1 ≤ k0) := by
    have : min 1 n = k0 := hk0
    omega
  rw [hk0] at HR2 hl1
  simp only [hk0]
  clear HG2 HB1 HP1 HM hmk HG1 hk0 hl1
  go_loopw [8] (fun i wr => ∃ k : Nat, k ≤ n ∧ (0 < n → 1 ≤ k) ∧ i = .int .i64 (k : Int) ∧ RepI wr w.heap.size n k ∧ Below w.heap.size w wr) (fun i _ => n - (intOf i).toNat)
  case atStart => exact ⟨k0, hk1.1, hk1.2, rfl, HR2.out, HB2.out⟩
  case round =>
    obtain ⟨k, hk, hk2, rfl, hrep, hbel⟩ := hrel
    have HB := Lib.hid hbel
    have HRe := Lib.hid hrep
    clear hbel hk1 HR2 HB2 HC
    by_cases hlt : k < n
    · have hk1 : 1 ≤ k := hk2 (by omega)
      have hkn : ¬ n = k := by omega
      have hki : (k : Int) ≤ (n : Int) := by omega
      have hkl : (k : Int) < (n : Int) := by omega
      have hki0 : (0 : Int) ≤ (k : Int) := by omega
      obtain ⟨j, hj, hj1, hj2⟩ : ∃ j : Nat, j = Nat.min k (n - k) ∧ 1 ≤ j ∧ k + j ≤ n := ⟨_, rfl, by show 1 ≤ min k (n - k); omega, by show k + min k (n - k) ≤ n; omega⟩
      have HJ := Lib.hid hj
      obtain ⟨C', q1, q2, q3, q4⟩ := hrep
      have HQ := Lib.hid (And.intro q2 (And.intro q3 q4))
      have HPd := Lib.hid (show ∀ i u, (List.replicate j (Value.int .i64 (-1)))[i]? = some u → wr.drew.cell? ((⟨w.heap.size, 0, none⟩ : Addr).add i) = some u from fun i u hu => by
        have hi : i < j := by
          rcases Nat.lt_or_ge i j with h | h
          · exact h
          · rw [List.getElem?_eq_none (by rw [List.length_replicate]; exact h)] at hu; cases hu
        rw [List.getElem?_replicate, if_pos hi] at hu
        have hadd : (⟨w.heap.size, 0, none⟩ : Addr).add i = ⟨w.heap.size, i, none⟩ := by unfold Addr.add; split <;> simp_all
        rw [hadd]
        exact (HRe.out.cell (by have : j ≤ k := by rw [HJ.out]; exact Nat.min_le_left _ _
                                omega)).trans hu)
      have HBd := Lib.hid (HB.out.trans (show Below w.heap.size wr wr.drew from ⟨rfl, rfl, rfl, Nat.le_refl _, fun _ _ => rfl⟩))
      have HQd := Lib.hid (show wr.drew.heap[w.heap.size]? = some (.cells C'.toArray 3 (0, 0)) from q1)
      have HL := Lib.hid (show (List.replicate j (Value.int .i64 (-1))).length = Nat.min k (n - k) by rw [List.length_replicate]; exact HJ.out)
      have HF := Lib.hid (show k + (List.replicate j (Value.int .i64 (-1))).length ≤ C'.length by rw [List.length_replicate, q2]; exact hj2)
      have HO := Lib.hid (show ∀ u ∈ List.replicate j (Value.int .i64 (-1)), u.oneCell' = true from fun u hu => by rw [List.eq_of_mem_replicate hu]; rfl)
      have HN := Lib.hid (show ∀ w4 : World, w4.heap[w.heap.size]? = some (.cells (splice C' k (List.replicate j (Value.int .i64 (-1)))).toArray 3 (0, 0)) → RepI w4 w.heap.size n (k + j) from fun w4 h => ⟨_, h, by rw [length_splice _ _ _ HF.out]; exact HQ.out.1, by omega, take_splice HQ.out.2.2⟩)
      have hsj : (k : Int) + (j : Int) ≤ 4096 := by omega
      have hsj0 : (0 : Int) ≤ (j : Int) := by omega
      have hwj : IntKind.i64.wrap ((k : Int) + (j : Int)) = (k : Int) + (j : Int) := IntWalk.i64_in _ (by omega)
      have hj0 : (List.replicate j (Value.int .i64 (-1))).length = j := List.length_replicate
      have HJ0 := Lib.hid hj0
      clear hj0 q1 q2 q3 q4 hj HJ HQ hk2
      go_wp2_with fail
      go_region_law (first | (refine step_copy_splice rfl (.tmp 41) (.tmp 44) 58 58 (by rfl) 3 Tryz.underlying58 (by kernel_rfl) (some ⟨w.heap.size, k, none⟩) (some ⟨w.heap.size, 0, none⟩) (n - k) (n - k) k n (by simp [Act.eval, Act.put]) (by simp [Act.eval, Act.put]) w.heap.size k C' 3 HQd.out (List.replicate j (.int .i64 (-1))) HL.out (fun _ => ⟨rfl, _, rfl, HPd.out⟩) HF.out HO.out w.heap.size w HBd.out (Nat.le_refl _) ?_; intro w4 hg4 hb4; have HN4 := Lib.hid (HN.out w4 hg4.out); have HB4 := Lib.hid hb4; clear hg4 hb4; rw [HJ0.out]) | fail)
      all_goals
        simp [Act.put]
        go_roundw
        case rel =>
          have hfin : ∃ k' : Nat, k' ≤ n ∧ (0 < n → 1 ≤ k') ∧ Value.int .i64 ((k : Int) + (j : Int)) = .int .i64 k' ∧ RepI w4 w.heap.size n k' ∧ Below w.heap.size w w4 := ⟨k + j, hj2, fun _ => by omega, by go_num, HN4.out, HB4.out⟩
          first | exact hfin | ((repeat apply Exists.intro); exact ⟨hfin, rfl⟩)
        case measure => simp [intOf]; omega
    · obtain rfl : k = n := by omega
      clear hk2 hrep
      go_wp2
      go_ret
      exact ⟨rfl, ⟨by obtain ⟨C, h1, _⟩ := HRe.out; exact ⟨_, h1⟩, fun p hp => HRe.out.cell hp⟩, HB.out⟩
/-- A new heap. -/
structure HNew (w w' : World) (q n : Nat) (M : Mp) : Prop where
  ex : ∃ F, HA w' q F n M ∧ Below w.heap.size w w' ∧ ∀ k, F k → w.heap.size ≤ k
theorem agr_nil (n : Nat) : Agr n [] (fun _ => -1) := ⟨fun i h => absurd h (by simp), fun _ _ => .inl rfl⟩
theorem has_nil : Has [] (fun _ => none) := fun p k => by simp
set_option maxHeartbeats 1000000 in
theorem new_ok (n : Nat) (hn : n ≤ 4096) (w : World) :
    Calls Tryz.prog 56 #[.int .i64 (n : Int)] w fun e w' => ∃ q, e = .returned (.tuple #[.pointer (some ⟨q, 0, none⟩), .int .i64 0]) ∧ HNew w w' q n (fun _ => none) := by
  have HB1 := Lib.hid ((Below.refl w.heap.size w).alloc (Nat.le_refl _) (.cells #[.int .i64 (-1)] 3))
  have HR := Lib.hid (repeat_calls w.heap.size n (w.alloc (.cells #[.int .i64 (-1)] 3)) (by simp) hn)
  have hn1 : ¬ (n : Int) < 0 := by omega
  have hn2 : ¬ (n : Int) > 4096 := by omega
  have HN := Lib.hid hn
  clear hn
  go_enter Tryz.func56, Tryz.ntmps56
  go_wp2_with (first | (go_at_call 74; refine HR.out.mono ?_; rintro e w2 ⟨rfl, hx2, hb2⟩; have HX := Lib.hid hx2; have HB2 := Lib.hid hb2; clear hx2 hb2) | fail)
  go_ret2
  have hs := HB2.out.size
  simp only [World.size_alloc] at hs
  have hb := (HB1.out.trans (HB2.out.mono HB1.out.size)).alloc (by omega) (.cells #[.slice none 0 0, .slice (some ⟨w.heap.size + 1, 0, none⟩) n n, .bool true] 120)
  have hx := HX.out
  simp only [World.size_alloc] at hx
  have hxl := hx.lt
  refine ⟨_, rfl, Foot w2.heap.size (.slice none 0 0) (w.heap.size + 1), ⟨.slice none 0 0, w.heap.size + 1, n, [], fun _ => -1, ⟨?_, .inl ⟨rfl, rfl⟩, ?_, ⟨by omega, by simp [Value.ownBlock], by simp [Value.ownBlock]⟩, ⟨Nat.le_refl _, by unfold maxLen; have := HN.out; omega, HN.out⟩, agr_nil n⟩, fun j _ h => absurd h (by simp), has_nil, fun _ => Iff.rfl⟩, hb, ?_⟩
  · have := World.alloc_heap_new w2 (.cells #[.slice none 0 0, .slice (some ⟨w.heap.size + 1, 0, none⟩) n n, .bool true] 120)
    exact this
  · exact hx.keep (Below.heap_alloc _ _ _ (by omega))
  · rintro k (rfl | e | rfl)
    · omega
    · cases e
    · omega
set_option maxHeartbeats 1000000 in
theorem new_no (n : Int) (hn : n < 0 ∨ 4096 < n) (w : World) :
    Calls Tryz.prog 56 #[.int .i64 n] w fun e w' => e = .returned (.tuple #[.pointer none, .int .i64 2]) ∧ w = w' := by
  rcases hn with hn | hn
  · go_enter Tryz.func56, Tryz.ntmps56
    go_wp2_with fail
    go_ret2
    exact ⟨rfl, rfl⟩
  · have hn1 : ¬ n < 0 := by omega
    have hn2 : n > 4096 := by omega
    go_enter Tryz.func56, Tryz.ntmps56
    go_wp2_with fail
    go_ret2
    exact ⟨rfl, rfl⟩
end Go.Proofs.YtcjkeobjojmpfaaGreat
end
