/-
  CONTRACTS of the reference's Text and Bytes.
-/
import Derived.Test.YtapaccbffhcjdaaDoorKeyRef2
import Derived.Deep.RegionHeld3
namespace Go.Proofs.YtapaccbffhcjdaaDoor
open Go.RowKit Go.Shelf
open Go.Lib (decDigits)

theorem put_at (n : Nat) (N : Int) (hN : (n : Int) = N) (x : Nat) (v : Value) (l : List UInt8) (w0 w : World) (B : Nat) (h1 : n ≤ 7) (h2 : x ≤ 281474976710656) (h3 : l.length ≤ 100) (h4 : OwnB w B v l) (h5 : B ≤ w0.heap.size) (h6 : Below B w0 w) :
    Calls Tryd.prog 77 #[v, .int .i64 (x : Int), .int .i64 N] w fun e w' => ∃ v', e = .returned v' ∧ OwnB w' B v' (l ++ beL n x) ∧ Below B w0 w' := by
  subst hN
  exact put_calls n x v l w0 w B h1 h2 h3 h4 h5 h6
theorem OwnB.mono {w : World} {b b' : Nat} {v : Value} {l : List UInt8} (h : OwnB w b v l) (hb : b' ≤ b) : OwnB w b' v l := by
  obtain ⟨hl, h | ⟨g, cap, cur, rfl, h1, hg⟩⟩ := h
  · exact ⟨hl, .inl h⟩
  · exact ⟨hl, .inr ⟨g, cap, cur, rfl, Nat.le_trans hb h1, hg⟩⟩
set_option maxRecDepth 100000 in
set_option maxHeartbeats 1000000 in
theorem rTextK_yes (k : Ky) (w : World) (hr : RightK k) :
    Calls Tryd.prog 43 #[.agg #[.int .i64 k.1, .int .i64 k.2.1, .int .i64 k.2.2]] w fun e w' => e = .returned (.tuple #[.string ⟨(textK k).toArray⟩, .int .i64 0]) ∧ Below w.heap.size w w' := by
  have HRt := Lib.hid (fun W => rRight_calls k W)
  rw [decide_eq_true hr] at HRt
  have HB := Lib.hid ((Below.refl w.heap.size w).alloc (Nat.le_refl _) (.cells #[.int .i64 k.1, .int .i64 k.2.1, .int .i64 k.2.2] 23))
  obtain ⟨a, b, c⟩ := k
  obtain ⟨⟨ha0, ha1⟩, ⟨hb0, hb1⟩, ⟨hc0, hc1⟩⟩ := hr
  dsimp only at ha0 ha1 hb0 hb1 hc0 hc1 HRt HB ⊢
  obtain ⟨a, rfl⟩ : ∃ x : Nat, a = (x : Int) := ⟨a.toNat, by omega⟩
  obtain ⟨b, rfl⟩ : ∃ x : Nat, b = (x : Int) := ⟨b.toNat, by omega⟩
  obtain ⟨c, rfl⟩ : ∃ x : Nat, c = (x : Int) := ⟨c.toNat, by omega⟩
  have HTx := Lib.hid (show textK ((a : Int), (b : Int), (c : Int)) = decDigits a ++ [64] ++ decDigits b ++ [35] ++ decDigits c by unfold textK; simp only [Int.toNat_natCast])
  have mixed : Tryd.prog.follows .mixedOrders = true := by kernel_rfl
  have hk0 : KAt (w.alloc (.cells #[.int .i64 (a : Int), .int .i64 (b : Int), .int .i64 (c : Int)] 23)) w.heap.size ((a : Int), (b : Int), (c : Int)) := World.alloc_heap_new w _
  have HK0 := Lib.hid hk0
  clear hk0
  go_enter Tryd.func43, Tryd.ntmps43
  go_wp2_with fail
  refine (HRt.out _).mono ?_
  rintro e w1 ⟨rfl, hb⟩
  have HB1 := Lib.hid (HB.out.trans (hb.mono HB.out.size))
  have hk1 : KAt w1 w.heap.size ((a : Int), (b : Int), (c : Int)) := (hb.block _ HK0.out.lt).trans HK0.out
  have l0 := fun n os => Go.cell_grown (n := n) (os := os) (w := w1) (a := ⟨w.heap.size, 0, none⟩) hk1.lt (hk1.cells 0 (by omega)).1
  have l1 := fun n os => Go.cell_grown (n := n) (os := os) (w := w1) (a := ⟨w.heap.size, 1, none⟩) hk1.lt (hk1.cells 1 (by omega)).1
  have l2 := fun n os => Go.cell_grown (n := n) (os := os) (w := w1) (a := ⟨w.heap.size, 2, none⟩) hk1.lt (hk1.cells 2 (by omega)).1
  simp only [fldK] at l0 l1 l2
  have i0 := Lib.hid (fun n os => Drawn.calls_grow (decimal_calls a (Go.Sort.grow (w1.drewN n) os) (by omega)))
  have i1 := Lib.hid (fun n os => Drawn.calls_grow (decimal_calls b (Go.Sort.grow (w1.drewN n) os) (by omega)))
  have i2 := Lib.hid (fun n os => Drawn.calls_grow (decimal_calls c (Go.Sort.grow (w1.drewN n) os) (by omega)))
  have la := dec_len a (by omega)
  have lb := dec_len b (by omega)
  have lc := dec_len c (by omega)
  clear hb hk1
  generalize decDigits a = da at *
  generalize decDigits b = db at *
  generalize decDigits c = dc at *
  have n1 : ¬ 9223372036854775807 < da.length + 1 := by omega
  have n2 : ¬ 9223372036854775807 < da.length + 1 + db.length := by omega
  have n3 : ¬ 9223372036854775807 < da.length + 1 + db.length + 1 := by omega
  have n4 : ¬ 9223372036854775807 < da.length + 1 + db.length + 1 + dc.length := by omega
  clear la lb lc
  go_wp2_with fail
  go_quiet_grown (first | (with_reducible exact Calls.grown_of (i0.out _ _)) | (with_reducible exact Calls.grown_of (i1.out _ _)) | (with_reducible exact Calls.grown_of (i2.out _ _)))
  go_wp2
  go_ret2
  refine ⟨?_, HB1.out.trans ((below_grow w1 _ _).mono HB1.out.size)⟩
  show Ending.returned (.tuple #[.string ((⟨da.toArray⟩ : ByteArray) ++ ⟨([64] : List UInt8).toArray⟩ ++ ⟨db.toArray⟩ ++ ⟨([35] : List UInt8).toArray⟩ ++ ⟨dc.toArray⟩), .int .i64 0]) = _
  rw [HTx.out, bcat, bcat, bcat, bcat]
theorem rTextK_no (k : Ky) (w : World) (hr : ¬ RightK k) :
    Calls Tryd.prog 43 #[.agg #[.int .i64 k.1, .int .i64 k.2.1, .int .i64 k.2.2]] w fun e w' => e = .returned (.tuple #[.string ⟨#[]⟩, .int .i64 70]) ∧ Below w.heap.size w w' := by
  have HRt := Lib.hid (fun W => rRight_calls k W)
  rw [decide_eq_false hr] at HRt
  have HB := Lib.hid ((Below.refl w.heap.size w).alloc (Nat.le_refl _) (.cells #[.int .i64 k.1, .int .i64 k.2.1, .int .i64 k.2.2] 23))
  clear hr
  go_enter Tryd.func43, Tryd.ntmps43
  go_wp2_with fail
  refine (HRt.out _).mono ?_
  rintro e w1 ⟨rfl, hb⟩
  have HB1 := Lib.hid (HB.out.trans (hb.mono HB.out.size))
  clear hb
  go_wp2
  go_ret2
  exact ⟨rfl, HB1.out⟩

set_option maxRecDepth 100000 in
set_option maxHeartbeats 2000000 in
theorem rBytesK_yes (k : Ky) (w : World) (hr : RightK k) :
    Calls Tryd.prog 42 #[.agg #[.int .i64 k.1, .int .i64 k.2.1, .int .i64 k.2.2]] w fun e w' => (∃ v, e = .returned (.tuple #[v, .int .i64 0]) ∧ OwnB w' w.heap.size v (bytesK k)) ∧ Below w.heap.size w w' := by
  have mixed : Tryd.prog.follows .mixedOrders = true := by kernel_rfl
  have HRt := Lib.hid (fun W => rRight_calls k W)
  rw [decide_eq_true hr] at HRt
  have HB := Lib.hid ((Below.refl w.heap.size w).alloc (Nat.le_refl _) (.cells #[.int .i64 k.1, .int .i64 k.2.1, .int .i64 k.2.2] 23))
  have HK := Lib.hid (show KAt (w.alloc (.cells #[.int .i64 k.1, .int .i64 k.2.1, .int .i64 k.2.2] 23)) w.heap.size k from World.alloc_heap_new w _)
  obtain ⟨a, b, c⟩ := k
  obtain ⟨⟨ha0, ha1⟩, ⟨hb0, hb1⟩, ⟨hc0, hc1⟩⟩ := hr
  dsimp only at ha0 ha1 hb0 hb1 hc0 hc1 HRt HB HK ⊢
  obtain ⟨a, rfl⟩ : ∃ x : Nat, a = (x : Int) := ⟨a.toNat, by omega⟩
  obtain ⟨b, rfl⟩ : ∃ x : Nat, b = (x : Int) := ⟨b.toNat, by omega⟩
  obtain ⟨c, rfl⟩ : ∃ x : Nat, c = (x : Int) := ⟨c.toNat, by omega⟩
  have HX := Lib.hid (show bytesK ((a : Int), (b : Int), (c : Int)) = beL 7 a ++ beL 1 b ++ beL 4 c by unfold bytesK; simp only [Int.toNat_natCast])
  go_enter Tryd.func42, Tryd.ntmps42
  go_wp2_with fail
  refine (HRt.out _).mono ?_
  rintro e w1 ⟨rfl, hb⟩
  have HB1 := Lib.hid (HB.out.trans (hb.mono HB.out.size))
  have HK1 := Lib.hid (HK.out.below hb)
  clear hb
  have hS : ∀ W', Below w1.heap.size w1 W' → W'.cell? ⟨w.heap.size, 0, none⟩ = some (.int .i64 (a : Int)) ∧ W'.cell? ⟨w.heap.size, 1, none⟩ = some (.int .i64 (b : Int)) ∧ W'.cell? ⟨w.heap.size, 2, none⟩ = some (.int .i64 (c : Int)) ∧ Below w1.heap.size w1 W' := fun W' hbw => by
    have hk := HK1.out.below hbw
    have c0 := (hk.cells 0 (by omega)).1
    have c1 := (hk.cells 1 (by omega)).1
    have c2 := (hk.cells 2 (by omega)).1
    exact ⟨c0, c1, c2, hbw⟩
  have HS := Lib.hid hS
  have HP1 := Lib.hid (fun W (h : W.cell? ⟨w.heap.size, 0, none⟩ = some (.int .i64 (a : Int)) ∧ W.cell? ⟨w.heap.size, 1, none⟩ = some (.int .i64 (b : Int)) ∧ W.cell? ⟨w.heap.size, 2, none⟩ = some (.int .i64 (c : Int)) ∧ Below w1.heap.size w1 W) =>
    (put_at 7 7 rfl a (.slice none 0 0) [] w1 W w1.heap.size (by omega) (by omega) (by simp) (OwnB.nil _ _) (Nat.le_refl _) h.2.2.2).mono fun e w' (q : ∃ v', e = .returned v' ∧ OwnB w' w1.heap.size v' ([] ++ beL 7 a) ∧ Below w1.heap.size w1 w') => (show ∃ v', e = .returned v' ∧ OwnB w' w1.heap.size v' (beL 7 a) ∧ (w'.cell? ⟨w.heap.size, 0, none⟩ = some (.int .i64 (a : Int)) ∧ w'.cell? ⟨w.heap.size, 1, none⟩ = some (.int .i64 (b : Int)) ∧ w'.cell? ⟨w.heap.size, 2, none⟩ = some (.int .i64 (c : Int)) ∧ Below w1.heap.size w1 w') from
      q.elim fun v' h => ⟨v', h.1, h.2.1, HS.out _ h.2.2⟩))
  have HP2 := Lib.hid (fun W v (h : W.cell? ⟨w.heap.size, 0, none⟩ = some (.int .i64 (a : Int)) ∧ W.cell? ⟨w.heap.size, 1, none⟩ = some (.int .i64 (b : Int)) ∧ W.cell? ⟨w.heap.size, 2, none⟩ = some (.int .i64 (c : Int)) ∧ Below w1.heap.size w1 W) (ho : OwnB W w1.heap.size v (beL 7 a)) =>
    (put_at 1 1 rfl b v (beL 7 a) w1 W w1.heap.size (by omega) (by omega) (by simp [beL_length]) ho (Nat.le_refl _) h.2.2.2).mono fun e w' (q : ∃ v', e = .returned v' ∧ OwnB w' w1.heap.size v' (beL 7 a ++ beL 1 b) ∧ Below w1.heap.size w1 w') => (show ∃ v', e = .returned v' ∧ OwnB w' w1.heap.size v' (beL 7 a ++ beL 1 b) ∧ (w'.cell? ⟨w.heap.size, 0, none⟩ = some (.int .i64 (a : Int)) ∧ w'.cell? ⟨w.heap.size, 1, none⟩ = some (.int .i64 (b : Int)) ∧ w'.cell? ⟨w.heap.size, 2, none⟩ = some (.int .i64 (c : Int)) ∧ Below w1.heap.size w1 w') from
      q.elim fun v' h => ⟨v', h.1, h.2.1, HS.out _ h.2.2⟩))
  have HP3 := Lib.hid (fun W v (h : W.cell? ⟨w.heap.size, 0, none⟩ = some (.int .i64 (a : Int)) ∧ W.cell? ⟨w.heap.size, 1, none⟩ = some (.int .i64 (b : Int)) ∧ W.cell? ⟨w.heap.size, 2, none⟩ = some (.int .i64 (c : Int)) ∧ Below w1.heap.size w1 W) (ho : OwnB W w1.heap.size v (beL 7 a ++ beL 1 b)) =>
    (put_at 4 4 rfl c v (beL 7 a ++ beL 1 b) w1 W w1.heap.size (by omega) (by omega) (by simp [beL_length]) ho (Nat.le_refl _) h.2.2.2).mono fun e w' (q : ∃ v', e = .returned v' ∧ OwnB w' w1.heap.size v' (beL 7 a ++ beL 1 b ++ beL 4 c) ∧ Below w1.heap.size w1 w') => (show ∃ v', e = .returned v' ∧ OwnB w' w1.heap.size v' (beL 7 a ++ beL 1 b ++ beL 4 c) ∧ (w'.cell? ⟨w.heap.size, 0, none⟩ = some (.int .i64 (a : Int)) ∧ w'.cell? ⟨w.heap.size, 1, none⟩ = some (.int .i64 (b : Int)) ∧ w'.cell? ⟨w.heap.size, 2, none⟩ = some (.int .i64 (c : Int)) ∧ Below w1.heap.size w1 w') from
      q.elim fun v' h => ⟨v', h.1, h.2.1, HS.out _ h.2.2⟩))
  have HD := Lib.hid (hS w1.drew (Below.refl _ _).drew)
  have x0 := (HK1.out.cells 0 (by omega)).1
  have x1 := (HK1.out.cells 1 (by omega)).1
  have x2 := (HK1.out.cells 2 (by omega)).1
  simp only [fldK] at x0 x1 x2
  clear hS ha0 ha1 hb0 hb1 hc0 hc1
  go_wp2_with fail
  clear x0 x1 x2
  go_region_held3 (fun W' => W'.cell? ⟨w.heap.size, 0, none⟩ = some (.int .i64 (a : Int)) ∧ W'.cell? ⟨w.heap.size, 1, none⟩ = some (.int .i64 (b : Int)) ∧ W'.cell? ⟨w.heap.size, 2, none⟩ = some (.int .i64 (c : Int)) ∧ Below w1.heap.size w1 W') (first | exact HD.out | assumption)
    (first
      | (go_at_call 77; (first | (with_reducible refine (HP1.out _ HD.out).mono ?_) | (with_reducible refine (HP2.out _ _ (by assumption) (by assumption)).mono ?_) | (with_reducible refine (HP3.out _ _ (by assumption) (by assumption)).mono ?_)); rintro e w' ⟨v', rfl, ho', hs'⟩))
  all_goals
    go_wp2
    go_ret2
    exact ⟨⟨_, rfl, by rw [HX.out]; exact OwnB.mono (by assumption) HB1.out.size⟩, HB1.out.trans (Below.mono (by first | exact hs'.2.2.2 | assumption) HB1.out.size)⟩
theorem rBytesK_no (k : Ky) (w : World) (hr : ¬ RightK k) :
    Calls Tryd.prog 42 #[.agg #[.int .i64 k.1, .int .i64 k.2.1, .int .i64 k.2.2]] w fun e w' => e = .returned (.tuple #[.slice none 0 0, .int .i64 70]) ∧ Below w.heap.size w w' := by
  have HRt := Lib.hid (fun W => rRight_calls k W)
  rw [decide_eq_false hr] at HRt
  have HB := Lib.hid ((Below.refl w.heap.size w).alloc (Nat.le_refl _) (.cells #[.int .i64 k.1, .int .i64 k.2.1, .int .i64 k.2.2] 23))
  clear hr
  go_enter Tryd.func42, Tryd.ntmps42
  go_wp2_with fail
  refine (HRt.out _).mono ?_
  rintro e w1 ⟨rfl, hb⟩
  have HB1 := Lib.hid (HB.out.trans (hb.mono HB.out.size))
  clear hb
  go_wp2
  go_ret2
  exact ⟨rfl, HB1.out⟩
end Go.Proofs.YtapaccbffhcjdaaDoor
