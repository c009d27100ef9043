/-
  CONTRACTS of slices.Index, Contains and Reverse at keys; plain facts on where a key is found.
-/
import Derived.Test.YtapaccbffhcjdaaDoorKeySmalls
namespace Go.Proofs.YtapaccbffhcjdaaDoor
open Go.RowKit Go.Shelf Go.Sort

def IxIs (d : Bool) (e : Ending) : Prop := ∃ i : Int, e = .returned (.int .i64 i) ∧ decide (0 ≤ i) = d
theorem decide_mem_take {l : List Ky} {x : Ky} (h : ∀ j, j < l.length → kq l j ≠ x) : x ∉ l := by
  intro hm
  obtain ⟨j, hj, e⟩ := List.getElem_of_mem hm
  exact h j hj (by rw [← e]; simp [kq, List.getD_eq_getElem?_getD, hj])
set_option maxRecDepth 100000 in
set_option maxHeartbeats 1000000 in
/-- slices.Index of a key: not negative just if the key is there. -/
theorem indexKs_calls (v : Value) (l : List Ky) (x : Ky) (w : World) (h : KRow w v l) (hn : l.length ≤ 1000000) :
    Calls Tryd.prog 67 #[v, .agg #[.int .i64 x.1, .int .i64 x.2.1, .int .i64 x.2.2]] w fun e w' => IxIs (decide (x ∈ l)) e ∧ Below w.heap.size w w' := by
  have mixed : Tryd.prog.follows .mixedOrders = true := by kernel_rfl
  have HR := Lib.hid h
  obtain ⟨x1, x2, x3⟩ := x
  simp only
  obtain ⟨a, c, rfl, hlc, hc⟩ := h.shape
  unfold maxLen at hc
  obtain ⟨n, hln⟩ : ∃ n, l.length = n := ⟨_, rfl⟩
  have HN := Lib.hid hln
  rw [hln] at hn hlc HR ⊢
  have HB0 := Lib.hid ((Below.refl w.heap.size w).alloc (Nat.le_refl _) (.cells #[.int .i64 x1, .int .i64 x2, .int .i64 x3] 23))
  have HX0 := Lib.hid (show KAt (w.alloc (.cells #[.int .i64 x1, .int .i64 x2, .int .i64 x3] 23)) w.heap.size (x1, x2, x3) from World.alloc_heap_new w _)
  clear h hln
  go_enter Tryd.func67, Tryd.ntmps67
  go_wp2_with fail
  go_loopw [5, 8] (fun s5 s8 wr => ∃ k : Nat, k ≤ n ∧ s8 = .int .i64 (k : Int) ∧ (∀ j, j < k → kq l j ≠ (x1, x2, x3)) ∧ KAt wr w.heap.size (x1, x2, x3) ∧ Below w.heap.size w wr) (fun _ s8 _ => n - (intOf s8).toNat)
  case atStart => exact ⟨0, Nat.zero_le _, rfl, fun j hj => absurd hj (Nat.not_lt_zero j), HX0.out, HB0.out⟩
  case round =>
    obtain ⟨k, hk, rfl, hno, hX, hB⟩ := hrel
    have HNo := Lib.hid hno; have HX := Lib.hid hX; have HB := Lib.hid hB
    clear hno hX hB HX0 HB0
    by_cases hlt : k < n
    · have hkn : (k : Int) < (n : Int) := by omega
      have hlS : k < l.length := by rw [HN.out]; exact hlt
      have hr := HR.out.below HB.out
      rcases HR.out with ⟨h0, _⟩ | ⟨b, o, c', e, _⟩
      · rw [h0] at hlS; cases hlS
      · cases e
        obtain ⟨hbl, y0, y1, y2⟩ := hr.cells k hlS
        have z0 := (HX.out.cells 0 (by omega)).1
        have z1 := (HX.out.cells 1 (by omega)).1
        have z2 := (HX.out.cells 2 (by omega)).1
        simp only [fldK] at z0 z1 z2
        obtain ⟨⟨k1, k2, k3⟩, hq⟩ : ∃ q, kq l k = q := ⟨_, rfl⟩
        rw [hq] at y0 y1 y2
        have q1 := fun W => eqlK x1 x2 x3 k1 k2 k3 W
        have HQ := Lib.hid hq
        have HMem := Lib.hid (kq_mem hlS)
        have i0 : (0 : Int) ≤ (k : Int) := by omega
        simp only at y0 y1 y2
        by_cases he : (x1, x2, x3) = (k1, k2, k3)
        · have hd : decide ((x1, x2, x3) = (k1, k2, k3)) = true := decide_eq_true he
          have HEnd := Lib.hid (show decide (0 ≤ (k : Int)) = decide ((x1, x2, x3) ∈ l) by
            rw [decide_eq_true (show (0 : Int) ≤ (k : Int) by omega), decide_eq_true (show (x1, x2, x3) ∈ l by rw [he, ← HQ.out]; exact HMem.out)])
          generalize decide ((x1, x2, x3) = (k1, k2, k3)) = d at *
          subst hd
          clear hr hlS hq he hlt
          go_wp2_with fail
          go_quiet (fail)
          go_wp2
          go_ret
          exact ⟨⟨_, rfl, HEnd.out⟩, (HB.out.trans ((below_drewN wr _).mono HB.out.size))⟩
        · have hd : decide ((x1, x2, x3) = (k1, k2, k3)) = false := decide_eq_false he
          have HNe := Lib.hid (show ∀ j, j < k + 1 → kq l j ≠ (x1, x2, x3) from fun j hj => by
            by_cases e : j = k
            · rw [e, HQ.out]; exact fun h => he h.symm
            · exact HNo.out j (by omega))
          generalize decide ((x1, x2, x3) = (k1, k2, k3)) = d at *
          subst hd
          clear hr hlS hq he
          go_wp2_with fail
          go_quiet (fail)
          go_wp2
          go_roundw
          case rel => exact ⟨k + 1, by omega, by go_num, HNe.out, HX.out, (HB.out.trans ((below_drewN wr _).mono HB.out.size))⟩
          case measure => simp [intOf]; omega
    · have hkn : ¬ (k : Int) < (n : Int) := by omega
      obtain rfl : k = n := by omega
      have HEnd := Lib.hid (show decide ((0 : Int) ≤ -1) = decide ((x1, x2, x3) ∈ l) by
        rw [decide_eq_false (show ¬ (0 : Int) ≤ -1 by omega), decide_eq_false (decide_mem_take (fun j hj => HNo.out j (by rw [← HN.out]; exact hj)))])
      clear hlt
      go_wp2
      go_ret
      exact ⟨⟨_, rfl, HEnd.out⟩, HB.out⟩
set_option maxRecDepth 100000 in
theorem containsKs_calls (v : Value) (l : List Ky) (x : Ky) (w : World) (h : KRow w v l) (hn : l.length ≤ 1000000) :
    Calls Tryd.prog 34 #[v, .agg #[.int .i64 x.1, .int .i64 x.2.1, .int .i64 x.2.2]] w fun e w' => e = .returned (.bool (decide (x ∈ l))) ∧ Below w.heap.size w w' := by
  have hb := (Below.refl w.heap.size w).alloc (Nat.le_refl _) (.cells #[.int .i64 x.1, .int .i64 x.2.1, .int .i64 x.2.2] 23)
  have HI := Lib.hid (indexKs_calls v l x _ (h.below hb) hn)
  have HB := Lib.hid hb
  obtain ⟨x1, x2, x3⟩ := x
  simp only at HI HB ⊢
  generalize decide ((x1, x2, x3) ∈ l) = d at *
  clear h hn hb
  go_enter Tryd.func34, Tryd.ntmps34
  go_wp2_with fail
  refine HI.out.mono ?_
  rintro e w1 ⟨⟨i, rfl, hi⟩, hb⟩
  have HB1 := Lib.hid (HB.out.trans (hb.mono HB.out.size))
  have Hi := Lib.hid hi
  clear hb hi
  go_wp2
  go_ret
  exact ⟨by show Ending.returned (.bool (decide (0 ≤ i))) = _; rw [Hi.out], HB1.out⟩
end Go.Proofs.YtapaccbffhcjdaaDoor
