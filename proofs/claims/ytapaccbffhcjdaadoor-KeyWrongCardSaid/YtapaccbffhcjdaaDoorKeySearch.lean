/-
  CONTRACT of key.Search: increasing, slices.BinarySearchFunc.
-/
import Derived.Test.YtapaccbffhcjdaaDoorKeyCompact
import Derived.Test.YtapaccbffhcjdaaDoorKeyText
import Derived.Shelf.SlSortCmp.QuietGrown
namespace Go.Proofs.YtapaccbffhcjdaaDoor
open Go.RowKit Go.Shelf Go.Sort

theorem below_drewN (W : World) (q : Nat) : Below W.heap.size W (W.drewN q) := by
  have := below_grow W q #[]
  rwa [Sort.grow_empty] at this
/-- The list increases. -/
def IncK (l : List Ky) : Prop := ∀ i, i + 1 < l.length → cfK (kq l i) (kq l (i + 1)) < 0
instance (l : List Ky) : Decidable (IncK l) := decidable_of_iff (∀ i, i < l.length - 1 → cfK (kq l i) (kq l (i + 1)) < 0) ⟨fun h i hi => h i (by omega), fun h i hi => h i (by omega)⟩
theorem inc_lt {l : List Ky} (h : IncK l) : ∀ i j, i < j → j < l.length → cfK (kq l i) (kq l j) < 0 := by
  intro i j hij
  obtain ⟨d, rfl⟩ : ∃ d, j = i + 1 + d := ⟨j - (i + 1), by omega⟩
  induction d with
  | zero => intro hj; exact h i hj
  | succ d ih => intro hj; exact cfK_good.lt_le (ih (by omega) (by omega)) (Int.le_of_lt (h (i + 1 + d) hj))
theorem KRow.cells {w : World} {b o c n : Nat} {l : List Ky} (hr : KRow w (.slice (some ⟨b, o, none⟩) n c) l) (j : Nat) (hj : j < l.length) :
    b < w.heap.size ∧ w.cell? ⟨b, o + j * 3, none⟩ = some (.int .i64 (kq l j).1) ∧ w.cell? ⟨b, o + j * 3 + 1, none⟩ = some (.int .i64 (kq l j).2.1) ∧ w.cell? ⟨b, o + j * 3 + 2, none⟩ = some (.int .i64 (kq l j).2.2) := by
  rcases hr with ⟨rfl, _⟩ | ⟨b, o, c, e, h1, _, _, h4⟩
  · cases hj
  · cases e
    obtain ⟨g0, g1, g2⟩ := cellsL_get l j hj
    exact ⟨h1, h4 _ _ g0, h4 _ _ g1, h4 _ _ g2⟩

set_option maxRecDepth 100000 in
set_option maxHeartbeats 2000000 in
theorem increasing_calls (v : Value) (l : List Ky) (w : World) (h : KRow w v l) (hn : l.length ≤ 1000000) :
    Calls Tryd.prog 65 #[v] w fun e w' => e = .returned (.bool (decide (IncK l))) ∧ Below w.heap.size w w' := by
  have mixed : Tryd.prog.follows .mixedOrders = true := by kernel_rfl
  obtain ⟨d, hd⟩ : ∃ d, decide (IncK l) = d := ⟨_, rfl⟩
  have HD := Lib.hid hd
  rw [hd]
  clear hd
  rcases h with ⟨rfl, a, c, rfl, hc⟩ | ⟨b, o, c, rfl, q1, q2, q3, q4⟩
  · have e : d = true := by rw [← HD.out]; exact decide_eq_true (fun i hi => absurd hi (by simp))
    subst e
    clear HD
    go_enter Tryd.func65, Tryd.ntmps65
    go_wp2_with fail
    go_loopw [3] (fun s3 wr => s3 = .int .i64 1 ∧ wr = w) (fun _ _ => 0)
    case atStart => exact ⟨rfl, rfl⟩
    case round =>
      obtain ⟨rfl, rfl⟩ := hrel
      go_wp2
      go_ret
      exact ⟨rfl, Below.refl _ _⟩
  · have HR := Lib.hid (show KRow w (.slice (some ⟨b, o, none⟩) l.length c) l from .inr ⟨b, o, c, rfl, q1, q2, q3, q4⟩)
    obtain ⟨n, hln⟩ : ∃ n, l.length = n := ⟨_, rfl⟩
    have HN := Lib.hid hln
    rw [hln] at hn q2
    rw [hln]
    clear q4 hln
    go_enter Tryd.func65, Tryd.ntmps65
    go_wp2_with fail
    go_loopw [3] (fun s3 wr => ∃ m : Nat, (m ≤ n ∨ m = 0) ∧ s3 = .int .i64 ((m : Int) + 1) ∧ Below w.heap.size w wr ∧ ∀ i, i < m → i + 1 < n → cfK (kq l i) (kq l (i + 1)) < 0) (fun s3 _ => n + 1 - (intOf s3).toNat)
    case atStart => exact ⟨0, .inr rfl, by simp, Below.refl _ _, fun i hi => by omega⟩
    case round =>
      obtain ⟨m, hm0, rfl, hB, hall⟩ := hrel
      have hm : m ≤ 1000000 := by omega
      clear hm0
      have HB := Lib.hid hB; have HAll := Lib.hid hall
      clear hB hall
      by_cases hlt : m + 1 < n
      · have hr2 := HR.out.below HB.out
        obtain ⟨hbl, a1, a2, a3⟩ := hr2.cells (m + 1) (by rw [HN.out]; exact hlt)
        obtain ⟨-, b1, b2, b3⟩ := hr2.cells m (by rw [HN.out]; omega)
        obtain ⟨x, hx⟩ : ∃ x, kq l (m + 1) = x := ⟨_, rfl⟩
        obtain ⟨y, hy⟩ : ∃ y, kq l m = y := ⟨_, rfl⟩
        have HX := Lib.hid hx; have HY := Lib.hid hy
        rw [hx] at a1 a2 a3
        rw [hy] at b1 b2 b3
        have l1 := fun n os => Go.cell_grown (n := n) (os := os) (w := wr) (a := ⟨b, o + (m + 1) * 3, none⟩) hbl a1
        have l2 := fun n os => Go.cell_grown (n := n) (os := os) (w := wr) (a := ⟨b, o + (m + 1) * 3 + 1, none⟩) hbl a2
        have l3 := fun n os => Go.cell_grown (n := n) (os := os) (w := wr) (a := ⟨b, o + (m + 1) * 3 + 2, none⟩) hbl a3
        have k1 := fun n os => Go.cell_grown (n := n) (os := os) (w := wr) (a := ⟨b, o + m * 3, none⟩) hbl b1
        have k2 := fun n os => Go.cell_grown (n := n) (os := os) (w := wr) (a := ⟨b, o + m * 3 + 1, none⟩) hbl b2
        have k3 := fun n os => Go.cell_grown (n := n) (os := os) (w := wr) (a := ⟨b, o + m * 3 + 2, none⟩) hbl b3
        have hlt' : (m : Int) + 1 < (n : Int) := by omega
        have hmn : (m : Int) < (n : Int) := by omega
        have ht1 : ((m : Int) + 1).toNat = m + 1 := by omega
        have hp1 : (0 : Int) ≤ (m : Int) + 1 := by omega
        have hwm : IntKind.i64.wrap (m : Int) = (m : Int) := by rw [IntKind.wrap_i64]; omega
        have i0 := Lib.hid (fun n os => Drawn.calls_grow (orderK_calls y x (Go.Sort.grow (wr.drewN n) os)))
        obtain ⟨z, hz⟩ : ∃ z, cfK y x = z := ⟨_, rfl⟩
        have HZ := Lib.hid hz
        rw [hz] at i0
        clear hx hy hz a1 a2 a3 b1 b2 b3
        by_cases hz0 : 0 ≤ z
        · have hdz : decide ((0 : Int) ≤ z) = true := decide_eq_true hz0
          go_wp2_with fail
          go_quiet_grown (first | exact Calls.grown_of (i0.out _ _))
          go_wp2
          go_ret
          have e : d = false := by
            rw [← HD.out]
            refine decide_eq_false (fun h => ?_)
            have := h m (by rw [HN.out]; exact hlt)
            rw [HX.out, HY.out, HZ.out] at this
            omega
          subst e
          exact ⟨rfl, HB.out.trans ((below_grow wr _ _).mono HB.out.size)⟩
        · have hdz : decide ((0 : Int) ≤ z) = false := decide_eq_false hz0
          go_wp2_with fail
          go_quiet_grown (first | exact Calls.grown_of (i0.out _ _))
          go_wp2
          go_roundw
          case rel =>
            refine ⟨m + 1, .inl (by omega), by go_num, HB.out.trans ((below_grow wr _ _).mono HB.out.size), fun i hi hin => ?_⟩
            by_cases e : i = m
            · subst e
              rw [HX.out, HY.out, HZ.out]; omega
            · exact HAll.out i (by omega) hin
          case measure => simp [intOf]; omega
      · have hlt' : ¬ (m : Int) + 1 < (n : Int) := by omega
        have e : d = true := by
          rw [← HD.out]
          exact decide_eq_true (fun i hi => by rw [HN.out] at hi; exact HAll.out i (by omega) hi)
        subst e
        clear HD
        go_wp2
        go_ret
        exact ⟨rfl, HB.out⟩

set_option maxRecDepth 100000 in
set_option maxHeartbeats 4000000 in
theorem binaryK_calls (v : Value) (l : List Ky) (x : Ky) (w : World) (h : KRow w v l) (hn : l.length ≤ 1000000) (hInc : IncK l) :
    Calls Tryd.prog 66 #[v, .agg #[.int .i64 x.1, .int .i64 x.2.1, .int .i64 x.2.2], .func (.func 62) #[] #[]] w fun e w' => ∃ (i : Nat) (f : Bool), e = .returned (.tuple #[.int .i64 (i : Int), .bool f]) ∧ (i ≤ l.length ∧ (∀ t, t < i → cfK (kq l t) x < 0) ∧ (∀ t, i ≤ t → t < l.length → 0 ≤ cfK (kq l t) x) ∧ f = (decide (i < l.length) && decide (cfK (kq l i) x = 0))) ∧ Below w.heap.size w w' := by
  have mixed : Tryd.prog.follows .mixedOrders = true := by kernel_rfl
  have HI := Lib.hid hInc
  clear hInc
  have HA0 := Lib.hid ((Below.refl w.heap.size w).alloc (Nat.le_refl _) (.cells #[.int .i64 x.1, .int .i64 x.2.1, .int .i64 x.2.2] 23))
  have HX0 := Lib.hid (show KAt (w.alloc (.cells #[.int .i64 x.1, .int .i64 x.2.1, .int .i64 x.2.2] 23)) w.heap.size x from World.alloc_heap_new w _)
  rcases h with ⟨rfl, a, c, rfl, hc⟩ | ⟨b, o, c, rfl, q1, q2, q3, q4⟩
  · go_enter Tryd.func66, Tryd.ntmps66
    go_wp2_with fail
    go_loopw [9, 10] (fun s9 s10 wr => s9 = .int .i64 0 ∧ s10 = .int .i64 0 ∧ wr = w.alloc (.cells #[.int .i64 x.1, .int .i64 x.2.1, .int .i64 x.2.2] 23)) (fun _ _ _ => 0)
    case atStart => exact ⟨rfl, rfl, rfl⟩
    case round =>
      obtain ⟨rfl, rfl, rfl⟩ := hrel
      have l0 : decide ((0 : Int) < 0) = false := rfl
      go_wp2_with fail
      go_quiet (fail)
      go_wp2
      go_ret2
      exact ⟨0, false, rfl, ⟨Nat.le_refl _, fun t ht => absurd ht (Nat.not_lt_zero _), fun t _ ht => absurd ht (Nat.not_lt_zero _), rfl⟩, HA0.out.trans ((below_drewN _ _).mono HA0.out.size)⟩
  · have HR := Lib.hid (show KRow w (.slice (some ⟨b, o, none⟩) l.length c) l from .inr ⟨b, o, c, rfl, q1, q2, q3, q4⟩)
    obtain ⟨n, hln⟩ : ∃ n, l.length = n := ⟨_, rfl⟩
    have HN := Lib.hid hln
    rw [hln] at hn q2
    rw [hln]
    clear q4 hln
    go_enter Tryd.func66, Tryd.ntmps66
    go_wp2_with fail
    go_loopw [9, 10] (fun i j wr => ∃ p q : Nat, p ≤ q ∧ q ≤ n ∧ i = .int .i64 (p : Int) ∧ j = .int .i64 (q : Int) ∧ ((∀ t, t < p → cfK (kq l t) x < 0) ∧ (∀ t, q ≤ t → t < n → 0 ≤ cfK (kq l t) x)) ∧ (Below w.heap.size w wr ∧ KAt wr w.heap.size x)) (fun i j _ => (intOf j).toNat - (intOf i).toNat)
    case atStart => exact ⟨0, n, Nat.zero_le _, Nat.le_refl _, rfl, rfl, ⟨fun t ht => absurd ht (Nat.not_lt_zero _), fun t h1 h2 => absurd h2 (by omega)⟩, HA0.out, HX0.out⟩
    case round =>
      obtain ⟨p, q, hpq, hqn, rfl, rfl, ⟨hlo, hhi⟩, hB, hX⟩ := hrel
      have HLo := Lib.hid hlo; have HHi := Lib.hid hhi; have HB := Lib.hid hB; have HX := Lib.hid hX
      have hr2 := HR.out.below HB.out
      have xl := hX.lt
      have x1 := (hX.cells 0 (by omega)).1
      have x2 := (hX.cells 1 (by omega)).1
      have x3 := (hX.cells 2 (by omega)).1
      simp only [fldK] at x1 x2 x3
      have y1 := fun n os => Go.cell_grown (n := n) (os := os) (w := wr) (a := ⟨w.heap.size, 0, none⟩) xl x1
      have y2 := fun n os => Go.cell_grown (n := n) (os := os) (w := wr) (a := ⟨w.heap.size, 1, none⟩) xl x2
      have y3 := fun n os => Go.cell_grown (n := n) (os := os) (w := wr) (a := ⟨w.heap.size, 2, none⟩) xl x3
      clear hlo hhi hB hX x1 x2 x3
      by_cases hlt : p < q
      · have hd : decide ((p : Int) < (q : Int)) = true := decide_eq_true (by omega)
        have hw1 : IntKind.i64.wrap ((p : Int) + (q : Int)) = (p : Int) + (q : Int) := IntWalk.i64_in _ ⟨by omega, by omega⟩
        obtain ⟨h, hh⟩ : ∃ h : Nat, h = (p + q) / 2 := ⟨_, rfl⟩
        have hx1 : p ≤ h := by omega
        have hx2 : h < q := by omega
        have hdv : ((p : Int) + (q : Int)) / 2 = (h : Int) := by omega
        have hw3 : IntKind.i64.wrap ((h : Int) + 1) = (h : Int) + 1 := IntWalk.i64_in _ ⟨by omega, by omega⟩
        clear hh
        have hw2 : IntKind.u64.wrap ((p : Int) + (q : Int)) = ((p + q : Nat) : Int) := by rw [IntWalk.u64_in _ ⟨by omega, by omega⟩]; omega
        obtain ⟨hbl, a1, a2, a3⟩ := hr2.cells h (by rw [HN.out]; omega)
        obtain ⟨u, hu⟩ : ∃ u, kq l h = u := ⟨_, rfl⟩
        have HU := Lib.hid hu
        rw [hu] at a1 a2 a3
        have l1 := fun n os => Go.cell_grown (n := n) (os := os) (w := wr) (a := ⟨b, o + h * 3, none⟩) hbl a1
        have l2 := fun n os => Go.cell_grown (n := n) (os := os) (w := wr) (a := ⟨b, o + h * 3 + 1, none⟩) hbl a2
        have l3 := fun n os => Go.cell_grown (n := n) (os := os) (w := wr) (a := ⟨b, o + h * 3 + 2, none⟩) hbl a3
        have i0 := Lib.hid (fun n os => Drawn.calls_grow (orderK_calls u x (Go.Sort.grow (wr.drewN n) os)))
        obtain ⟨z, hz⟩ : ∃ z, cfK u x = z := ⟨_, rfl⟩
        have HZ := Lib.hid hz
        rw [hz] at i0
        have hhn : (h : Int) < (n : Int) := by omega
        have hh0 : (0 : Int) ≤ (h : Int) := by omega
        clear hu hz a1 a2 a3 hr2
        by_cases hz0 : z < 0
        · have hdz : decide (z < (0 : Int)) = true := decide_eq_true hz0
          go_wp2_with fail
          go_quiet_grown (first | exact Calls.grown_of (i0.out _ _))
          go_wp2
          go_roundw
          case rel =>
            refine ⟨h + 1, q, by omega, hqn, by push_cast; rfl, rfl, ⟨fun t ht => ?_, HHi.out⟩, HB.out.trans ((below_grow wr _ _).mono HB.out.size), ((below_grow wr _ _).block _ HX.out.lt).trans HX.out⟩
            by_cases e : t = h
            · subst e; rw [HU.out, HZ.out]; exact hz0
            · refine cfK_good.lt_le (b := kq l h) (inc_lt HI.out t h (by omega) (by rw [HN.out]; omega)) ?_
              rw [HU.out, HZ.out]; omega
          case measure => simp [intOf]; omega
        · have hdz : decide (z < (0 : Int)) = false := decide_eq_false hz0
          go_wp2_with fail
          go_quiet_grown (first | exact Calls.grown_of (i0.out _ _))
          go_wp2
          go_roundw
          case rel =>
            refine ⟨p, h, hx1, by omega, rfl, rfl, ⟨HLo.out, fun t h1 h2 => ?_⟩, HB.out.trans ((below_grow wr _ _).mono HB.out.size), ((below_grow wr _ _).block _ HX.out.lt).trans HX.out⟩
            by_cases e : t = h
            · subst e; rw [HU.out, HZ.out]; omega
            · have k1 := inc_lt HI.out h t (by omega) (by rw [HN.out]; exact h2)
              have k2 : ¬ cfK (kq l t) x < 0 := fun hc => by
                have := cfK_good.lt_le k1 (Int.le_of_lt hc)
                rw [HU.out, HZ.out] at this
                omega
              omega
          case measure => simp [intOf]; omega
      · obtain rfl : p = q := by omega
        have hd : decide ((p : Int) < (p : Int)) = false := decide_eq_false (by omega)
        by_cases hpn : p < n
        · have hdn : decide ((p : Int) < (n : Int)) = true := decide_eq_true (by omega)
          obtain ⟨hbl, a1, a2, a3⟩ := hr2.cells p (by rw [HN.out]; omega)
          obtain ⟨u, hu⟩ : ∃ u, kq l p = u := ⟨_, rfl⟩
          have HU := Lib.hid hu
          rw [hu] at a1 a2 a3
          have l1 := fun n os => Go.cell_grown (n := n) (os := os) (w := wr) (a := ⟨b, o + p * 3, none⟩) hbl a1
          have l2 := fun n os => Go.cell_grown (n := n) (os := os) (w := wr) (a := ⟨b, o + p * 3 + 1, none⟩) hbl a2
          have l3 := fun n os => Go.cell_grown (n := n) (os := os) (w := wr) (a := ⟨b, o + p * 3 + 2, none⟩) hbl a3
          have i0 := Lib.hid (fun n os => Drawn.calls_grow (orderK_calls u x (Go.Sort.grow (wr.drewN n) os)))
          obtain ⟨z, hz⟩ : ∃ z, cfK u x = z := ⟨_, rfl⟩
          have HZ := Lib.hid hz
          rw [hz] at i0
          have hhn : (p : Int) < (n : Int) := by omega
          have hh0 : (0 : Int) ≤ (p : Int) := by omega
          clear hu hz a1 a2 a3 hr2
          go_wp2_with fail
          go_quiet_grown (first | exact Calls.grown_of (i0.out _ _))
          go_wp2
          go_ret2
          refine ⟨p, decide (z = 0), rfl, ⟨by omega, HLo.out, HHi.out, ?_⟩, HB.out.trans ((below_grow wr _ _).mono HB.out.size)⟩
          rw [HU.out, HZ.out, decide_eq_true hpn, Bool.true_and]
        · have hdn : decide ((p : Int) < (n : Int)) = false := decide_eq_false (by omega)
          clear hr2
          go_wp2_with fail
          go_quiet (fail)
          go_wp2
          go_ret2
          exact ⟨p, false, rfl, ⟨by omega, HLo.out, HHi.out, by rw [decide_eq_false hpn]; rfl⟩, HB.out.trans ((below_drewN _ _).mono HB.out.size)⟩
/-- Where a key stands. -/
def findI (l : List Ky) (x : Ky) : Nat := (l.filter fun y => decide (cfK y x < 0)).length
theorem findI_eq : ∀ (l : List Ky) (x : Ky) (i : Nat), i ≤ l.length → (∀ t, t < i → cfK (kq l t) x < 0) → (∀ t, i ≤ t → t < l.length → 0 ≤ cfK (kq l t) x) → findI l x = i
  | [], x, i, hi, _, _ => by have : i = 0 := by simpa using hi
                             subst this; rfl
  | k :: l, x, 0, _, _, h2 => by
    unfold findI
    rw [List.length_eq_zero_iff, List.filter_eq_nil_iff]
    intro y hy
    obtain ⟨j, hj, rfl⟩ := List.getElem_of_mem hy
    have := h2 j (Nat.zero_le _) hj
    have e : kq (k :: l) j = (k :: l)[j] := by simp only [kq, List.getD_eq_getElem?_getD, List.getElem?_eq_getElem hj]; rfl
    rw [e] at this
    simpa using this
  | k :: l, x, i + 1, hi, h1, h2 => by
    have h0 : cfK k x < 0 := h1 0 (Nat.succ_pos _)
    have ih := findI_eq l x i (by simpa using hi) (fun t ht => h1 (t + 1) (by omega)) (fun t ha hb => h2 (t + 1) (by omega) (by simpa using hb))
    unfold findI at ih ⊢
    rw [List.filter_cons_of_pos (by simpa using h0), List.length_cons, ih]
theorem inc_mem {l : List Ky} (h : IncK l) (x : Ky) (i : Nat) (h1 : ∀ t, t < i → cfK (kq l t) x < 0) (h2 : ∀ t, i ≤ t → t < l.length → 0 ≤ cfK (kq l t) x) : (decide (i < l.length) && decide (cfK (kq l i) x = 0)) = decide (x ∈ l) := by
  have hmem : ∀ t, t < l.length → kq l t ∈ l := fun t ht => by
    have e : kq l t = l[t] := by simp only [kq, List.getD_eq_getElem?_getD, List.getElem?_eq_getElem ht]; rfl
    rw [e]; exact List.getElem_mem ht
  have key : (i < l.length ∧ cfK (kq l i) x = 0) ↔ x ∈ l := by
    constructor
    · rintro ⟨a, b⟩
      rw [← cfK_good.eq _ _ b]; exact hmem i a
    · intro hx
      obtain ⟨t, ht, e⟩ := List.getElem_of_mem hx
      have e : kq l t = x := by rw [← e]; simp only [kq, List.getD_eq_getElem?_getD, List.getElem?_eq_getElem ht]; rfl
      have hti : ¬ t < i := fun hlt => by
        have := h1 t hlt
        rw [e, cfK_good.refl] at this
        omega
      by_cases hit : i = t
      · subst hit; exact ⟨ht, by rw [e]; exact cfK_good.refl _⟩
      · have h5 := inc_lt h i t (by omega) ht
        have h6 := h2 i (Nat.le_refl _) (by omega)
        rw [e] at h5
        omega
  by_cases hx : x ∈ l
  · rw [decide_eq_true (key.2 hx).1, decide_eq_true (key.2 hx).2, decide_eq_true hx]; rfl
  · rw [decide_eq_false hx, ← Bool.decide_and, decide_eq_false (fun h => hx (key.1 h))]

set_option maxRecDepth 100000 in
set_option maxHeartbeats 1000000 in
/-- key.Search, at any slice of keys. -/
theorem Search_calls (v : Value) (l : List Ky) (x : Ky) (w : World) (h : KRow w v l) (hn : l.length ≤ 1000000) :
    Calls Tryd.prog 33 #[v, .agg #[.int .i64 x.1, .int .i64 x.2.1, .int .i64 x.2.2]] w fun e w' => (if IncK l then e = .returned (.tuple #[.int .i64 (findI l x : Nat), .bool (decide (x ∈ l)), .int .i64 0]) else e = .returned (.tuple #[.int .i64 0, .bool false, .int .i64 73])) ∧ Below w.heap.size w w' := by
  have HR := Lib.hid h
  have HA0 := Lib.hid ((Below.refl w.heap.size w).alloc (Nat.le_refl _) (.cells #[.int .i64 x.1, .int .i64 x.2.1, .int .i64 x.2.2] 23))
  have HX0 := Lib.hid (show KAt (w.alloc (.cells #[.int .i64 x.1, .int .i64 x.2.1, .int .i64 x.2.2] 23)) w.heap.size x from World.alloc_heap_new w _)
  clear h
  by_cases hI : IncK l
  · simp only [if_pos hI]
    have HI := Lib.hid hI
    have hd := decide_eq_true hI
    clear hI
    go_enter Tryd.func33, Tryd.ntmps33
    go_wp2_with fail
    refine (increasing_calls v l _ (HR.out.below HA0.out) hn).mono ?_
    rintro e w1 ⟨rfl, hb1⟩
    rw [hd]
    have HB1 := Lib.hid (HA0.out.trans (hb1.mono HA0.out.size))
    have hX : KAt w1 w.heap.size x := (hb1.block _ HX0.out.lt).trans HX0.out
    have x1 := (hX.cells 0 (by omega)).1
    have x2 := (hX.cells 1 (by omega)).1
    have x3 := (hX.cells 2 (by omega)).1
    simp only [fldK] at x1 x2 x3
    clear hb1 hX hd
    go_wp2_with fail
    refine (binaryK_calls v l x w1 (HR.out.below HB1.out) hn HI.out).mono ?_
    rintro e w2 ⟨i, f, rfl, ⟨p1, p2, p3, p4⟩, hb2⟩
    have HF := Lib.hid (findI_eq l x i p1 p2 p3)
    have HM := Lib.hid (p4.trans (inc_mem HI.out x i p2 p3))
    have HB2 := Lib.hid (HB1.out.trans (hb2.mono HB1.out.size))
    clear p1 p2 p3 p4 hb2
    go_wp2
    go_ret3
    refine ⟨?_, HB2.out⟩
    rw [HF.out, ← HM.out]
    rfl
  · simp only [if_neg hI]
    have hd := decide_eq_false hI
    clear hI
    go_enter Tryd.func33, Tryd.ntmps33
    go_wp2_with fail
    refine (increasing_calls v l _ (HR.out.below HA0.out) hn).mono ?_
    rintro e w1 ⟨rfl, hb1⟩
    rw [hd]
    have HB1 := Lib.hid (HA0.out.trans (hb1.mono HA0.out.size))
    clear hb1 hd
    go_wp2
    go_ret3
    exact ⟨rfl, HB1.out⟩
end Go.Proofs.YtapaccbffhcjdaaDoor
