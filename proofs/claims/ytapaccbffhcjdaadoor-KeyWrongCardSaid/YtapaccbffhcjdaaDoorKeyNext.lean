/-
  CONTRACTS of key.Next, Back and Ends; nothing that was there is written.
-/
import Derived.Test.YtapaccbffhcjdaaDoorKeyBytes
namespace Go.Proofs.YtapaccbffhcjdaaDoor
open Go.RowKit Go.Shelf

/-- The key after a key, and the one before it; with the number of the error. -/
def nextK (k : Ky) : Ky × Int :=
  if RightK k then (if k.2.2 < 4294967295 then ((k.1, k.2.1, k.2.2 + 1), 0) else if k.2.1 < 16 then ((k.1, k.2.1 + 1, 0), 0) else if k.1 < 281474976710656 then ((k.1 + 1, 0, 0), 0) else ((0, 0, 0), 6)) else ((0, 0, 0), 70)
def backK (k : Ky) : Ky × Int :=
  if RightK k then (if 0 < k.2.2 then ((k.1, k.2.1, k.2.2 - 1), 0) else if 0 < k.2.1 then ((k.1, k.2.1 - 1, 4294967295), 0) else if 0 < k.1 then ((k.1 - 1, 16, 4294967295), 0) else ((0, 0, 0), 6)) else ((0, 0, 0), 70)

set_option maxRecDepth 100000 in
set_option maxHeartbeats 1000000 in
theorem nextK_calls (k : Ky) (w : World) :
    Calls Tryd.prog 25 #[.agg #[.int .i64 k.1, .int .i64 k.2.1, .int .i64 k.2.2]] w fun e w' => e = .returned (.tuple #[.agg #[.int .i64 (nextK k).1.1, .int .i64 (nextK k).1.2.1, .int .i64 (nextK k).1.2.2], .int .i64 (nextK k).2]) ∧ Below w.heap.size w w' := by
  have HRt := Lib.hid (fun W => rightK_calls k W)
  have HB := Lib.hid (((Below.refl w.heap.size w).alloc (Nat.le_refl _) (.cells #[.int .i64 k.1, .int .i64 k.2.1, .int .i64 k.2.2] 23)).alloc (by simp) (.cells #[.int .i64 0, .int .i64 0, .int .i64 0] 23))
  have hk0 : KAt ((w.alloc (.cells #[.int .i64 k.1, .int .i64 k.2.1, .int .i64 k.2.2] 23)).alloc (.cells #[.int .i64 0, .int .i64 0, .int .i64 0] 23)) w.heap.size k := (Below.heap_alloc _ _ _ (by simp)).trans (World.alloc_heap_new w _)
  have hr0 : KAt ((w.alloc (.cells #[.int .i64 k.1, .int .i64 k.2.1, .int .i64 k.2.2] 23)).alloc (.cells #[.int .i64 0, .int .i64 0, .int .i64 0] 23)) (w.heap.size + 1) (0, 0, 0) := by
    have := World.alloc_heap_new (w.alloc (.cells #[.int .i64 k.1, .int .i64 k.2.1, .int .i64 k.2.2] 23)) (.cells #[.int .i64 0, .int .i64 0, .int .i64 0] 23)
    rwa [World.size_alloc] at this
  have HK0 := Lib.hid hk0
  have HR0 := Lib.hid hr0
  have HG := Lib.hid (fun W (hb : Below ((w.alloc (.cells #[.int .i64 k.1, .int .i64 k.2.1, .int .i64 k.2.2] 23)).alloc (.cells #[.int .i64 0, .int .i64 0, .int .i64 0] 23)).heap.size ((w.alloc (.cells #[.int .i64 k.1, .int .i64 k.2.1, .int .i64 k.2.2] 23)).alloc (.cells #[.int .i64 0, .int .i64 0, .int .i64 0] 23)) W) =>
    (show KAt W w.heap.size k ∧ KAt W (w.heap.size + 1) (0, 0, 0) ∧ Below w.heap.size w W from ⟨(hb.block _ hk0.lt).trans hk0, (hb.block _ hr0.lt).trans hr0, HB.out.trans (hb.mono HB.out.size)⟩))
  clear hk0 hr0
  have HS := Lib.hid (show nextK k = nextK k from rfl)
  unfold nextK at HS
  obtain ⟨a, b, c⟩ := k
  simp only at HS HRt HG ⊢
  by_cases hyes : RightK (a, b, c)
  · rw [decide_eq_true hyes] at HRt
    have HY := Lib.hid hyes
    obtain ⟨⟨ha0, ha1⟩, ⟨hb0, hb1⟩, ⟨hc0, hc1⟩⟩ := id hyes
    simp only at ha0 ha1 hb0 hb1 hc0 hc1
    by_cases h0 : c < 4294967295
    · have HI := HY
      have HV := Lib.hid (show nextK (a, b, c) = ((a, b, c + 1), 0) by unfold nextK; simp only; rw [if_pos hyes, if_pos h0])
      rw [HV.out]
      clear HS HV hyes
      go_enter Tryd.func25, Tryd.ntmps25
      go_wp2_with fail
      refine (HRt.out _).mono ?_
      rintro e w1 ⟨rfl, hb⟩
      obtain ⟨hk1, hr1, hb1⟩ := HG.out _ hb
      have HR1 := Lib.hid hr1
      have HB1 := Lib.hid hb1
      have t0 := (hk1.cells 0 (by omega)).1
      have t1 := (hk1.cells 1 (by omega)).1
      have t2 := (hk1.cells 2 (by omega)).1
      have r0 := hr1.cells 0 (by omega)
      have r1 := hr1.cells 1 (by omega)
      have r2 := hr1.cells 2 (by omega)
      simp only [fldK] at t0 t1 t2 r0 r1 r2
      obtain ⟨r0, q0⟩ := r0
      obtain ⟨r1, q1⟩ := r1
      obtain ⟨r2, q2⟩ := r2
      clear hb hk1 hr1 hb1
      go_wp2
      have HR3 := kat_set HR1.out (a) (b) (c + 1)
      have v0 := (HR3.cells 0 (by omega)).1
      have v1 := (HR3.cells 1 (by omega)).1
      have v2 := (HR3.cells 2 (by omega)).1
      simp only [fldK] at v0 v1 v2
      exact bodyPost_ret (v := .tuple #[.agg #[.int .i64 (a), .int .i64 (b), .int .i64 (c + 1)], .int .i64 0]) (by simp [results, Tryd.f25, go_sem, v0, v1, v2]) rfl ⟨rfl, set3_below HB1.out (by simp) _ _ _⟩
    · skip
      by_cases h1 : b < 16
      · have HI := HY
        have HV := Lib.hid (show nextK (a, b, c) = ((a, b + 1, 0), 0) by unfold nextK; simp only; rw [if_pos hyes, if_neg h0, if_pos h1])
        rw [HV.out]
        clear HS HV hyes
        go_enter Tryd.func25, Tryd.ntmps25
        go_wp2_with fail
        refine (HRt.out _).mono ?_
        rintro e w1 ⟨rfl, hb⟩
        obtain ⟨hk1, hr1, hb1⟩ := HG.out _ hb
        have HR1 := Lib.hid hr1
        have HB1 := Lib.hid hb1
        have t0 := (hk1.cells 0 (by omega)).1
        have t1 := (hk1.cells 1 (by omega)).1
        have t2 := (hk1.cells 2 (by omega)).1
        have r0 := hr1.cells 0 (by omega)
        have r1 := hr1.cells 1 (by omega)
        have r2 := hr1.cells 2 (by omega)
        simp only [fldK] at t0 t1 t2 r0 r1 r2
        obtain ⟨r0, q0⟩ := r0
        obtain ⟨r1, q1⟩ := r1
        obtain ⟨r2, q2⟩ := r2
        clear hb hk1 hr1 hb1
        go_wp2
        have HR3 := kat_set HR1.out (a) (b + 1) (0)
        have v0 := (HR3.cells 0 (by omega)).1
        have v1 := (HR3.cells 1 (by omega)).1
        have v2 := (HR3.cells 2 (by omega)).1
        simp only [fldK] at v0 v1 v2
        exact bodyPost_ret (v := .tuple #[.agg #[.int .i64 (a), .int .i64 (b + 1), .int .i64 (0)], .int .i64 0]) (by simp [results, Tryd.f25, go_sem, v0, v1, v2]) rfl ⟨rfl, set3_below HB1.out (by simp) _ _ _⟩
      · skip
        by_cases h2 : a < 281474976710656
        · have HI := HY
          have HV := Lib.hid (show nextK (a, b, c) = ((a + 1, 0, 0), 0) by unfold nextK; simp only; rw [if_pos hyes, if_neg h0, if_neg h1, if_pos h2])
          rw [HV.out]
          clear HS HV hyes
          go_enter Tryd.func25, Tryd.ntmps25
          go_wp2_with fail
          refine (HRt.out _).mono ?_
          rintro e w1 ⟨rfl, hb⟩
          obtain ⟨hk1, hr1, hb1⟩ := HG.out _ hb
          have HR1 := Lib.hid hr1
          have HB1 := Lib.hid hb1
          have t0 := (hk1.cells 0 (by omega)).1
          have t1 := (hk1.cells 1 (by omega)).1
          have t2 := (hk1.cells 2 (by omega)).1
          have r0 := hr1.cells 0 (by omega)
          have r1 := hr1.cells 1 (by omega)
          have r2 := hr1.cells 2 (by omega)
          simp only [fldK] at t0 t1 t2 r0 r1 r2
          obtain ⟨r0, q0⟩ := r0
          obtain ⟨r1, q1⟩ := r1
          obtain ⟨r2, q2⟩ := r2
          clear hb hk1 hr1 hb1
          go_wp2
          have HR3 := kat_set HR1.out (a + 1) (0) (0)
          have v0 := (HR3.cells 0 (by omega)).1
          have v1 := (HR3.cells 1 (by omega)).1
          have v2 := (HR3.cells 2 (by omega)).1
          simp only [fldK] at v0 v1 v2
          exact bodyPost_ret (v := .tuple #[.agg #[.int .i64 (a + 1), .int .i64 (0), .int .i64 (0)], .int .i64 0]) (by simp [results, Tryd.f25, go_sem, v0, v1, v2]) rfl ⟨rfl, set3_below HB1.out (by simp) _ _ _⟩
        · skip
          have HV := Lib.hid (show nextK (a, b, c) = ((0, 0, 0), 6) by unfold nextK; simp only; rw [if_pos hyes, if_neg h0, if_neg h1, if_neg h2])
          rw [HV.out]
          clear HS HV hyes
          go_enter Tryd.func25, Tryd.ntmps25
          go_wp2_with fail
          refine (HRt.out _).mono ?_
          rintro e w1 ⟨rfl, hb⟩
          obtain ⟨hk1, hr1, hb1⟩ := HG.out _ hb
          have HR1 := Lib.hid hr1
          have HB1 := Lib.hid hb1
          have t0 := (hk1.cells 0 (by omega)).1
          have t1 := (hk1.cells 1 (by omega)).1
          have t2 := (hk1.cells 2 (by omega)).1
          have r0 := hr1.cells 0 (by omega)
          have r1 := hr1.cells 1 (by omega)
          have r2 := hr1.cells 2 (by omega)
          simp only [fldK] at t0 t1 t2 r0 r1 r2
          obtain ⟨r0, q0⟩ := r0
          obtain ⟨r1, q1⟩ := r1
          obtain ⟨r2, q2⟩ := r2
          clear hb hk1 hr1 hb1
          go_wp2
          have HR3 := kat_set HR1.out (0) (0) (0)
          have v0 := (HR3.cells 0 (by omega)).1
          have v1 := (HR3.cells 1 (by omega)).1
          have v2 := (HR3.cells 2 (by omega)).1
          simp only [fldK] at v0 v1 v2
          exact bodyPost_ret (v := .tuple #[.agg #[.int .i64 (0), .int .i64 (0), .int .i64 (0)], .int .i64 6]) (by simp [results, Tryd.f25, go_sem, v0, v1, v2]) rfl ⟨rfl, set3_below HB1.out (by simp) _ _ _⟩
  · rw [decide_eq_false hyes] at HRt
    have HV := Lib.hid (show nextK (a, b, c) = ((0, 0, 0), 70) by unfold nextK; simp only; rw [if_neg hyes])
    rw [HV.out]
    clear HS HV hyes
    go_enter Tryd.func25, Tryd.ntmps25
    go_wp2_with fail
    refine (HRt.out _).mono ?_
    rintro e w1 ⟨rfl, hb⟩
    obtain ⟨hk1, hr1, hb1⟩ := HG.out _ hb
    have HR1 := Lib.hid hr1
    have HB1 := Lib.hid hb1
    have t0 := (hk1.cells 0 (by omega)).1
    have t1 := (hk1.cells 1 (by omega)).1
    have t2 := (hk1.cells 2 (by omega)).1
    have r0 := hr1.cells 0 (by omega)
    have r1 := hr1.cells 1 (by omega)
    have r2 := hr1.cells 2 (by omega)
    simp only [fldK] at t0 t1 t2 r0 r1 r2
    obtain ⟨r0, q0⟩ := r0
    obtain ⟨r1, q1⟩ := r1
    obtain ⟨r2, q2⟩ := r2
    clear hb hk1 hr1 hb1
    go_wp2
    have HR3 := kat_set HR1.out (0) (0) (0)
    have v0 := (HR3.cells 0 (by omega)).1
    have v1 := (HR3.cells 1 (by omega)).1
    have v2 := (HR3.cells 2 (by omega)).1
    simp only [fldK] at v0 v1 v2
    exact bodyPost_ret (v := .tuple #[.agg #[.int .i64 (0), .int .i64 (0), .int .i64 (0)], .int .i64 70]) (by simp [results, Tryd.f25, go_sem, v0, v1, v2]) rfl ⟨rfl, set3_below HB1.out (by simp) _ _ _⟩

set_option maxRecDepth 100000 in
set_option maxHeartbeats 1000000 in
theorem backK_calls (k : Ky) (w : World) :
    Calls Tryd.prog 26 #[.agg #[.int .i64 k.1, .int .i64 k.2.1, .int .i64 k.2.2]] w fun e w' => e = .returned (.tuple #[.agg #[.int .i64 (backK k).1.1, .int .i64 (backK k).1.2.1, .int .i64 (backK k).1.2.2], .int .i64 (backK k).2]) ∧ Below w.heap.size w w' := by
  have HRt := Lib.hid (fun W => rightK_calls k W)
  have HB := Lib.hid (((Below.refl w.heap.size w).alloc (Nat.le_refl _) (.cells #[.int .i64 k.1, .int .i64 k.2.1, .int .i64 k.2.2] 23)).alloc (by simp) (.cells #[.int .i64 0, .int .i64 0, .int .i64 0] 23))
  have hk0 : KAt ((w.alloc (.cells #[.int .i64 k.1, .int .i64 k.2.1, .int .i64 k.2.2] 23)).alloc (.cells #[.int .i64 0, .int .i64 0, .int .i64 0] 23)) w.heap.size k := (Below.heap_alloc _ _ _ (by simp)).trans (World.alloc_heap_new w _)
  have hr0 : KAt ((w.alloc (.cells #[.int .i64 k.1, .int .i64 k.2.1, .int .i64 k.2.2] 23)).alloc (.cells #[.int .i64 0, .int .i64 0, .int .i64 0] 23)) (w.heap.size + 1) (0, 0, 0) := by
    have := World.alloc_heap_new (w.alloc (.cells #[.int .i64 k.1, .int .i64 k.2.1, .int .i64 k.2.2] 23)) (.cells #[.int .i64 0, .int .i64 0, .int .i64 0] 23)
    rwa [World.size_alloc] at this
  have HK0 := Lib.hid hk0
  have HR0 := Lib.hid hr0
  have HG := Lib.hid (fun W (hb : Below ((w.alloc (.cells #[.int .i64 k.1, .int .i64 k.2.1, .int .i64 k.2.2] 23)).alloc (.cells #[.int .i64 0, .int .i64 0, .int .i64 0] 23)).heap.size ((w.alloc (.cells #[.int .i64 k.1, .int .i64 k.2.1, .int .i64 k.2.2] 23)).alloc (.cells #[.int .i64 0, .int .i64 0, .int .i64 0] 23)) W) =>
    (show KAt W w.heap.size k ∧ KAt W (w.heap.size + 1) (0, 0, 0) ∧ Below w.heap.size w W from ⟨(hb.block _ hk0.lt).trans hk0, (hb.block _ hr0.lt).trans hr0, HB.out.trans (hb.mono HB.out.size)⟩))
  clear hk0 hr0
  have HS := Lib.hid (show backK k = backK k from rfl)
  unfold backK at HS
  obtain ⟨a, b, c⟩ := k
  simp only at HS HRt HG ⊢
  by_cases hyes : RightK (a, b, c)
  · rw [decide_eq_true hyes] at HRt
    have HY := Lib.hid hyes
    obtain ⟨⟨ha0, ha1⟩, ⟨hb0, hb1⟩, ⟨hc0, hc1⟩⟩ := id hyes
    simp only at ha0 ha1 hb0 hb1 hc0 hc1
    by_cases h0 : 0 < c
    · have HI := HY
      have HV := Lib.hid (show backK (a, b, c) = ((a, b, c - 1), 0) by unfold backK; simp only; rw [if_pos hyes, if_pos h0])
      rw [HV.out]
      clear HS HV hyes
      go_enter Tryd.func26, Tryd.ntmps26
      go_wp2_with fail
      refine (HRt.out _).mono ?_
      rintro e w1 ⟨rfl, hb⟩
      obtain ⟨hk1, hr1, hb1⟩ := HG.out _ hb
      have HR1 := Lib.hid hr1
      have HB1 := Lib.hid hb1
      have t0 := (hk1.cells 0 (by omega)).1
      have t1 := (hk1.cells 1 (by omega)).1
      have t2 := (hk1.cells 2 (by omega)).1
      have r0 := hr1.cells 0 (by omega)
      have r1 := hr1.cells 1 (by omega)
      have r2 := hr1.cells 2 (by omega)
      simp only [fldK] at t0 t1 t2 r0 r1 r2
      obtain ⟨r0, q0⟩ := r0
      obtain ⟨r1, q1⟩ := r1
      obtain ⟨r2, q2⟩ := r2
      clear hb hk1 hr1 hb1
      go_wp2
      have HR3 := kat_set HR1.out (a) (b) (c - 1)
      have v0 := (HR3.cells 0 (by omega)).1
      have v1 := (HR3.cells 1 (by omega)).1
      have v2 := (HR3.cells 2 (by omega)).1
      simp only [fldK] at v0 v1 v2
      exact bodyPost_ret (v := .tuple #[.agg #[.int .i64 (a), .int .i64 (b), .int .i64 (c - 1)], .int .i64 0]) (by simp [results, Tryd.f26, go_sem, v0, v1, v2]) rfl ⟨rfl, set3_below HB1.out (by simp) _ _ _⟩
    · skip
      by_cases h1 : 0 < b
      · have HI := HY
        have HV := Lib.hid (show backK (a, b, c) = ((a, b - 1, 4294967295), 0) by unfold backK; simp only; rw [if_pos hyes, if_neg h0, if_pos h1])
        rw [HV.out]
        clear HS HV hyes
        go_enter Tryd.func26, Tryd.ntmps26
        go_wp2_with fail
        refine (HRt.out _).mono ?_
        rintro e w1 ⟨rfl, hb⟩
        obtain ⟨hk1, hr1, hb1⟩ := HG.out _ hb
        have HR1 := Lib.hid hr1
        have HB1 := Lib.hid hb1
        have t0 := (hk1.cells 0 (by omega)).1
        have t1 := (hk1.cells 1 (by omega)).1
        have t2 := (hk1.cells 2 (by omega)).1
        have r0 := hr1.cells 0 (by omega)
        have r1 := hr1.cells 1 (by omega)
        have r2 := hr1.cells 2 (by omega)
        simp only [fldK] at t0 t1 t2 r0 r1 r2
        obtain ⟨r0, q0⟩ := r0
        obtain ⟨r1, q1⟩ := r1
        obtain ⟨r2, q2⟩ := r2
        clear hb hk1 hr1 hb1
        go_wp2
        have HR3 := kat_set HR1.out (a) (b - 1) (4294967295)
        have v0 := (HR3.cells 0 (by omega)).1
        have v1 := (HR3.cells 1 (by omega)).1
        have v2 := (HR3.cells 2 (by omega)).1
        simp only [fldK] at v0 v1 v2
        exact bodyPost_ret (v := .tuple #[.agg #[.int .i64 (a), .int .i64 (b - 1), .int .i64 (4294967295)], .int .i64 0]) (by simp [results, Tryd.f26, go_sem, v0, v1, v2]) rfl ⟨rfl, set3_below HB1.out (by simp) _ _ _⟩
      · skip
        by_cases h2 : 0 < a
        · have HI := HY
          have HV := Lib.hid (show backK (a, b, c) = ((a - 1, 16, 4294967295), 0) by unfold backK; simp only; rw [if_pos hyes, if_neg h0, if_neg h1, if_pos h2])
          rw [HV.out]
          clear HS HV hyes
          go_enter Tryd.func26, Tryd.ntmps26
          go_wp2_with fail
          refine (HRt.out _).mono ?_
          rintro e w1 ⟨rfl, hb⟩
          obtain ⟨hk1, hr1, hb1⟩ := HG.out _ hb
          have HR1 := Lib.hid hr1
          have HB1 := Lib.hid hb1
          have t0 := (hk1.cells 0 (by omega)).1
          have t1 := (hk1.cells 1 (by omega)).1
          have t2 := (hk1.cells 2 (by omega)).1
          have r0 := hr1.cells 0 (by omega)
          have r1 := hr1.cells 1 (by omega)
          have r2 := hr1.cells 2 (by omega)
          simp only [fldK] at t0 t1 t2 r0 r1 r2
          obtain ⟨r0, q0⟩ := r0
          obtain ⟨r1, q1⟩ := r1
          obtain ⟨r2, q2⟩ := r2
          clear hb hk1 hr1 hb1
          go_wp2
          have HR3 := kat_set HR1.out (a - 1) (16) (4294967295)
          have v0 := (HR3.cells 0 (by omega)).1
          have v1 := (HR3.cells 1 (by omega)).1
          have v2 := (HR3.cells 2 (by omega)).1
          simp only [fldK] at v0 v1 v2
          exact bodyPost_ret (v := .tuple #[.agg #[.int .i64 (a - 1), .int .i64 (16), .int .i64 (4294967295)], .int .i64 0]) (by simp [results, Tryd.f26, go_sem, v0, v1, v2]) rfl ⟨rfl, set3_below HB1.out (by simp) _ _ _⟩
        · skip
          have HV := Lib.hid (show backK (a, b, c) = ((0, 0, 0), 6) by unfold backK; simp only; rw [if_pos hyes, if_neg h0, if_neg h1, if_neg h2])
          rw [HV.out]
          clear HS HV hyes
          go_enter Tryd.func26, Tryd.ntmps26
          go_wp2_with fail
          refine (HRt.out _).mono ?_
          rintro e w1 ⟨rfl, hb⟩
          obtain ⟨hk1, hr1, hb1⟩ := HG.out _ hb
          have HR1 := Lib.hid hr1
          have HB1 := Lib.hid hb1
          have t0 := (hk1.cells 0 (by omega)).1
          have t1 := (hk1.cells 1 (by omega)).1
          have t2 := (hk1.cells 2 (by omega)).1
          have r0 := hr1.cells 0 (by omega)
          have r1 := hr1.cells 1 (by omega)
          have r2 := hr1.cells 2 (by omega)
          simp only [fldK] at t0 t1 t2 r0 r1 r2
          obtain ⟨r0, q0⟩ := r0
          obtain ⟨r1, q1⟩ := r1
          obtain ⟨r2, q2⟩ := r2
          clear hb hk1 hr1 hb1
          go_wp2
          have HR3 := kat_set HR1.out (0) (0) (0)
          have v0 := (HR3.cells 0 (by omega)).1
          have v1 := (HR3.cells 1 (by omega)).1
          have v2 := (HR3.cells 2 (by omega)).1
          simp only [fldK] at v0 v1 v2
          exact bodyPost_ret (v := .tuple #[.agg #[.int .i64 (0), .int .i64 (0), .int .i64 (0)], .int .i64 6]) (by simp [results, Tryd.f26, go_sem, v0, v1, v2]) rfl ⟨rfl, set3_below HB1.out (by simp) _ _ _⟩
  · rw [decide_eq_false hyes] at HRt
    have HV := Lib.hid (show backK (a, b, c) = ((0, 0, 0), 70) by unfold backK; simp only; rw [if_neg hyes])
    rw [HV.out]
    clear HS HV hyes
    go_enter Tryd.func26, Tryd.ntmps26
    go_wp2_with fail
    refine (HRt.out _).mono ?_
    rintro e w1 ⟨rfl, hb⟩
    obtain ⟨hk1, hr1, hb1⟩ := HG.out _ hb
    have HR1 := Lib.hid hr1
    have HB1 := Lib.hid hb1
    have t0 := (hk1.cells 0 (by omega)).1
    have t1 := (hk1.cells 1 (by omega)).1
    have t2 := (hk1.cells 2 (by omega)).1
    have r0 := hr1.cells 0 (by omega)
    have r1 := hr1.cells 1 (by omega)
    have r2 := hr1.cells 2 (by omega)
    simp only [fldK] at t0 t1 t2 r0 r1 r2
    obtain ⟨r0, q0⟩ := r0
    obtain ⟨r1, q1⟩ := r1
    obtain ⟨r2, q2⟩ := r2
    clear hb hk1 hr1 hb1
    go_wp2
    have HR3 := kat_set HR1.out (0) (0) (0)
    have v0 := (HR3.cells 0 (by omega)).1
    have v1 := (HR3.cells 1 (by omega)).1
    have v2 := (HR3.cells 2 (by omega)).1
    simp only [fldK] at v0 v1 v2
    exact bodyPost_ret (v := .tuple #[.agg #[.int .i64 (0), .int .i64 (0), .int .i64 (0)], .int .i64 70]) (by simp [results, Tryd.f26, go_sem, v0, v1, v2]) rfl ⟨rfl, set3_below HB1.out (by simp) _ _ _⟩

def endsOk (t : Int) : Prop := 0 ≤ t ∧ t ≤ 281474976710656
instance (t : Int) : Decidable (endsOk t) := by unfold endsOk; infer_instance
set_option maxRecDepth 100000 in
theorem endsK_yes (t : Int) (w : World) (h : endsOk t) :
    Calls Tryd.prog 27 #[.int .i64 t] w fun e w' => e = .returned (.tuple #[.agg #[.int .i64 t, .int .i64 0, .int .i64 0], .agg #[.int .i64 t, .int .i64 16, .int .i64 4294967295], .int .i64 0]) ∧ Below w.heap.size w w' := by
  obtain ⟨h0, h1⟩ := h
  have g0 : decide (t < 0) = false := decide_eq_false (by omega)
  have g1 : decide (281474976710656 < t) = false := decide_eq_false (by omega)
  go_enter Tryd.func27, Tryd.ntmps27
  go_wp2
  refine bodyPost_ret (v := .tuple #[.agg #[.int .i64 t, .int .i64 0, .int .i64 0], .agg #[.int .i64 t, .int .i64 16, .int .i64 4294967295], .int .i64 0]) (by simp [results, Tryd.f27, go_sem]) rfl ⟨rfl, ?_⟩
  first | exact ((Below.refl _ w).alloc (Nat.le_refl _) _).alloc (by simp) _ | go_grown
set_option maxRecDepth 100000 in
theorem endsK_no (t : Int) (w : World) (h : ¬ endsOk t) :
    Calls Tryd.prog 27 #[.int .i64 t] w fun e w' => e = .returned (.tuple #[.agg #[.int .i64 0, .int .i64 0, .int .i64 0], .agg #[.int .i64 0, .int .i64 0, .int .i64 0], .int .i64 2]) ∧ Below w.heap.size w w' := by
  unfold endsOk at h
  by_cases h0 : t < 0
  · have g0 : decide (t < 0) = true := decide_eq_true h0
    go_enter Tryd.func27, Tryd.ntmps27
    go_wp2
    refine bodyPost_ret (v := .tuple #[.agg #[.int .i64 0, .int .i64 0, .int .i64 0], .agg #[.int .i64 0, .int .i64 0, .int .i64 0], .int .i64 2]) (by simp [results, Tryd.f27, go_sem]) rfl ⟨rfl, ?_⟩
    first | exact ((Below.refl _ w).alloc (Nat.le_refl _) _).alloc (by simp) _ | go_grown
  · have g0 : decide (t < 0) = false := decide_eq_false h0
    have g1 : decide (281474976710656 < t) = true := decide_eq_true (by omega)
    go_enter Tryd.func27, Tryd.ntmps27
    go_wp2
    refine bodyPost_ret (v := .tuple #[.agg #[.int .i64 0, .int .i64 0, .int .i64 0], .agg #[.int .i64 0, .int .i64 0, .int .i64 0], .int .i64 2]) (by simp [results, Tryd.f27, go_sem]) rfl ⟨rfl, ?_⟩
    first | exact ((Below.refl _ w).alloc (Nat.le_refl _) _).alloc (by simp) _ | go_grown
end Go.Proofs.YtapaccbffhcjdaaDoor
