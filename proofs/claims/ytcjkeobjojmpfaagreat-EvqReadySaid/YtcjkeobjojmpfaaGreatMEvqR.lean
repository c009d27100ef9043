import Derived.Test.YtcjkeobjojmpfaaGreatMEvqIns
import Derived.Test.YtcjkeobjojmpfaaGreatMHeapC
import Derived.Shelf.SlSortCmp.QuietGrown
section
/-
  CONTRACTS of the law's less and inOrder.
-/
namespace Go.Proofs.YtcjkeobjojmpfaaGreat
open Go.RowKit Go.Shelf

theorem insV_at {x : Ev} : ∀ (O : List Ev) (n : Nat), n ≤ O.length → (∀ j : Nat, j < n → LtV (vn O j) x) → (n < O.length → ¬ LtV (vn O n) x) → O.take n ++ x :: O.drop n = insV x O
  | [], n, h, _, _ => by simp [insV]
  | y :: O, 0, _, _, h => by
    have := h (by simp)
    simp [insV, show ¬ LtV y x from this]
  | y :: O, n + 1, h, h1, h2 => by
    have hy : LtV y x := h1 0 (by omega)
    have ih := insV_at O n (by simpa using h) (fun j hj => h1 (j + 1) (by omega)) (fun hn => h2 (by simpa using hn))
    simp [insV, hy, ih]
set_option maxRecDepth 100000 in
set_option maxHeartbeats 2000000 in
theorem less_calls (a b : Ev) (w : World) :
    Calls Tryz.prog 61 #[vV a, vV b] w fun e w' => e = .returned (.bool (decide (LtV a b))) ∧ Below w.heap.size w w' := by
  have HD := Lib.hid (show LtV a b ↔ a.1.1 < b.1.1 ∨ (a.1.1 = b.1.1 ∧ (a.1.2.1 < b.1.2.1 ∨ (a.1.2.1 = b.1.2.1 ∧ a.1.2.2 < b.1.2.2))) from Iff.rfl)
  unfold vV
  by_cases h1 : a.1.1 = b.1.1
  · by_cases h2 : a.1.2.1 = b.1.2.1
    · rw [show decide (LtV a b) = decide (a.1.2.2 < b.1.2.2) by rw [decide_eq_decide, HD.out]; simp [h1, h2]]
      go_enter Tryz.func61, Tryz.ntmps61
      go_wp2_with fail
      go_ret
      exact ⟨rfl, ((Below.refl _ w).alloc (Nat.le_refl _) _).alloc (by simp) _⟩
    · rw [show decide (LtV a b) = decide (a.1.2.1 < b.1.2.1) by rw [decide_eq_decide, HD.out]; simp [h1, h2]]
      go_enter Tryz.func61, Tryz.ntmps61
      go_wp2_with fail
      go_ret
      exact ⟨rfl, ((Below.refl _ w).alloc (Nat.le_refl _) _).alloc (by simp) _⟩
  · rw [show decide (LtV a b) = decide (a.1.1 < b.1.1) by rw [decide_eq_decide, HD.out]; simp [h1]]
    go_enter Tryz.func61, Tryz.ntmps61
    go_wp2_with fail
    go_ret
    exact ⟨rfl, ((Below.refl _ w).alloc (Nat.le_refl _) _).alloc (by simp) _⟩
set_option maxRecDepth 100000 in
set_option maxHeartbeats 4000000 in
theorem inOrder_calls {w : World} (lv : Value) (l : List Ev) (hv : LV w lv l) (hlen : l.length ≤ 200) :
    Calls Tryz.prog 40 #[lv] w fun e w' => ∃ v, e = .returned v ∧ w'.ownsRow w.heap.size 33 5 v l.length (cellsV (inOrd l)) ∧ Below w.heap.size w w' := by
  have mixed : Tryz.prog.follows .mixedOrders = true := by kernel_rfl
  obtain ⟨la, lc, rfl, hlc, hle⟩ := hv.shape
  have HV := Lib.hid hv
  clear hv
  go_enter Tryz.func40, Tryz.ntmps40
  go_wp2_with fail
  go_loopw [3, 9] (fun s3 s9 wr => ∃ k : Nat, k ≤ l.length ∧ s9 = .int .i64 (k : Int) ∧ wr.ownsRow w.heap.size 33 5 s3 k (cellsV (inOrd (l.take k))) ∧ Below w.heap.size w wr) (fun _ s9 _ => l.length - (intOf s9).toNat)
  case atStart => exact ⟨0, Nat.zero_le _, by simp, World.ownsRow_nil _ _ _ _, Below.refl _ _⟩
  case round =>
    obtain ⟨k, hk, rfl, ho, hbw⟩ := hrel
    by_cases hlt : k < l.length
    · have e1 : (k : Int) < (l.length : Int) := by omega
      have hrow : ∃ g, la = some ⟨g, 0, none⟩ ∧ VAt wr g (k * 5) (vn l k) := by
        rcases HV.out with ⟨_, e⟩ | ⟨g, c, e, hr, _⟩
        · rw [e] at hlt; cases hlt
        · simp at e
          exact ⟨g, e.1, (hr.cell k hlt).keep (hbw.block g hr.lt)⟩
      obtain ⟨g, rfl, v0, v1, v2, v3, v4⟩ := hrow
      obtain ⟨x, hxe⟩ : ∃ x, vn l k = x := ⟨_, rfl⟩
      rw [hxe] at v0 v1 v2 v3 v4
      have HXe := Lib.hid (show inOrd (l.take (k + 1)) = insV x (inOrd (l.take k)) by rw [take_vn _ _ hlt, inOrd_snoc, hxe])
      obtain ⟨O, hO⟩ : ∃ O, inOrd (l.take k) = O := ⟨_, rfl⟩
      have hOl : O.length = k := by rw [← hO, inOrd_len, List.length_take]; omega
      rw [hO] at ho HXe
      obtain ⟨hlv, hof⟩ := LV.of_owns (t := O) (base := w.heap.size) (w := wr) (tv := u3) (by rw [hOl]; exact ho)
      obtain ⟨oa, oc, rfl, -, -⟩ := hlv.shape
      rw [hOl] at hlv hof ho ⊢
      have HOw := Lib.hid ho
      have HLv := Lib.hid hlv
      have HBW := Lib.hid hbw
      have HOl := Lib.hid hOl
      clear ho hlv hof hxe hO
      go_wp2_with fail
      have hVB := VB.new wr x
      have hBa : Below wr.heap.size wr (wr.alloc (.cells #[.int .i64 x.1.1, .int .i64 x.1.2.1, .int .i64 x.1.2.2, .int .i64 x.2.1, .int .i64 x.2.2] 33)) := (Below.refl _ wr).alloc (Nat.le_refl _) _
      have hlv2 := HLv.out.below hBa
      have ho2 := ownsRow_keep HOw.out (fun k hk => hBa.block k ((HOw.out.lt k hk).2))
      have hBW2 := HBW.out.trans (hBa.mono HBW.out.size)
      obtain ⟨wa, hwa⟩ : ∃ wa, wr.alloc (.cells #[.int .i64 x.1.1, .int .i64 x.1.2.1, .int .i64 x.1.2.2, .int .i64 x.2.1, .int .i64 x.2.2] 33) = wa := ⟨_, rfl⟩
      rw [hwa] at hVB hlv2 ho2 hBW2 ⊢
      obtain ⟨bx, hbx⟩ : ∃ bx, wr.heap.size = bx := ⟨_, rfl⟩
      rw [hbx] at hVB ⊢
      have HVB := Lib.hid hVB
      have HLv2 := Lib.hid hlv2
      have HOw2 := Lib.hid ho2
      have HBW2 := Lib.hid hBW2
      have HIn := Lib.hid (show ∀ W (n : Nat), Below wa.heap.size wa W → n ≤ k → (∀ j : Nat, j < n → LtV (vn O j) x) → (n < k → ¬ LtV (vn O n) x) → Calls Tryz.prog 35 #[.slice oa k oc, .int .i64 (n : Int), .slice (some ⟨W.heap.size, 0, none⟩) 1 1] (W.alloc (.cells #[.int .i64 x.1.1, .int .i64 x.1.2.1, .int .i64 x.1.2.2, .int .i64 x.2.1, .int .i64 x.2.2] 33)) fun e w' => ∃ v', e = .returned v' ∧ w'.ownsRow w.heap.size 33 5 v' (k + 1) (cellsV (inOrd (l.take (k + 1)))) ∧ Below w.heap.size w w' from fun W n hb hn h1 h2 => by
        have hbW := HBW2.out.trans (hb.mono HBW2.out.size)
        have hbE : Below W.heap.size W (W.alloc (.cells #[.int .i64 x.1.1, .int .i64 x.1.2.1, .int .i64 x.1.2.2, .int .i64 x.2.1, .int .i64 x.2.2] 33)) := (Below.refl _ W).alloc (Nat.le_refl _) _
        have hoW := ownsRow_keep HOw2.out (fun k hk => hb.block k ((HOw2.out.lt k hk).2))
        have hoE := ownsRow_keep hoW (fun k hk => hbE.block k ((hoW.lt k hk).2))
        have hins := insertV_calls w.heap.size k n W.heap.size (.slice oa k oc) x O (W.alloc (.cells #[.int .i64 x.1.1, .int .i64 x.1.2.1, .int .i64 x.1.2.2, .int .i64 x.2.1, .int .i64 x.2.2] 33)) (Nat.le_trans hbW.size hbE.size) hoE (VB.new W x) (fun e => by have := (hoW.lt _ e).2; omega) hn (by omega)
        refine hins.mono ?_
        rintro e w' ⟨v', q1, q2, q3⟩
        rw [insV_at O n (by rw [HOl.out]; exact hn) h1 (by rw [HOl.out]; exact h2), ← HXe.out] at q2
        exact ⟨v', q1, q2, (hbW.trans (hbE.mono hbW.size)).trans q3⟩)
      have HLe := Lib.hid (less_calls)
      unfold vV at HLe
      clear hwa hbx hVB hBa hlv2 ho2 hBW2 v0 v1 v2 v3 v4 hbw
      go_loopw [6] (fun jv wr => ∃ n : Nat, n ≤ k ∧ jv = .int .i64 (n : Int) ∧ Below wa.heap.size wa wr ∧ ∀ j : Nat, j < n → LtV (vn O j) x) (fun jv _ => k - (intOf jv).toNat)
      case atStart => exact ⟨0, Nat.zero_le _, by simp, Below.refl _ _, fun j hj => absurd hj (Nat.not_lt_zero j)⟩
      case round =>
        obtain ⟨n, hn, rfl, hb, hno⟩ := hrel
        have HNo := Lib.hid hno
        have HB := Lib.hid hb
        by_cases hlt2 : n < k
        · have e2 : (n : Int) < (k : Int) := by omega
          have hrow2 : ∃ g2, oa = some ⟨g2, 0, none⟩ ∧ VAt wr g2 (n * 5) (vn O n) := by
            rcases HLv2.out with ⟨_, e⟩ | ⟨g, c, e, hr, _⟩
            · have := HOl.out; rw [e] at this; simp at this; omega
            · simp at e
              exact ⟨g, e.1, (hr.cell n (by rw [HOl.out]; exact hlt2)).keep (hb.block g hr.lt)⟩
          obtain ⟨g2, rfl, y0, y1, y2, y3, y4⟩ := hrow2
          have hxb := HVB.out.below hb
          obtain ⟨x0, x1, x2, x3, x4, -⟩ := hxb.cells
          have lx := hxb.lt
          have lg : g2 < wr.heap.size := by
            rcases HLv2.out with ⟨e, _⟩ | ⟨g, c, e, hr, _⟩
            · cases e
            · simp at e
              have := hr.lt
              have := hb.size
              omega
          obtain ⟨y, hy⟩ : ∃ y, vn O n = y := ⟨_, rfl⟩
          rw [hy] at y0 y1 y2 y3 y4
          have HY := Lib.hid hy
          have Gy0 := fun m os => Go.cell_grown (n := m) (os := os) (w := wr) (a := ⟨g2, n * 5, none⟩) lg y0
          have Gy1 := fun m os => Go.cell_grown (n := m) (os := os) (w := wr) (a := ⟨g2, n * 5 + 1, none⟩) lg y1
          have Gy2 := fun m os => Go.cell_grown (n := m) (os := os) (w := wr) (a := ⟨g2, n * 5 + 2, none⟩) lg y2
          have Gy3 := fun m os => Go.cell_grown (n := m) (os := os) (w := wr) (a := ⟨g2, n * 5 + 3, none⟩) lg y3
          have Gy4 := fun m os => Go.cell_grown (n := m) (os := os) (w := wr) (a := ⟨g2, n * 5 + 4, none⟩) lg y4
          have Gx0 := fun m os => Go.cell_grown (n := m) (os := os) (w := wr) (a := ⟨bx, 0, none⟩) lx x0
          have Gx1 := fun m os => Go.cell_grown (n := m) (os := os) (w := wr) (a := ⟨bx, 1, none⟩) lx x1
          have Gx2 := fun m os => Go.cell_grown (n := m) (os := os) (w := wr) (a := ⟨bx, 2, none⟩) lx x2
          have Gx3 := fun m os => Go.cell_grown (n := m) (os := os) (w := wr) (a := ⟨bx, 3, none⟩) lx x3
          have Gx4 := fun m os => Go.cell_grown (n := m) (os := os) (w := wr) (a := ⟨bx, 4, none⟩) lx x4
          have o0 := fun m os => Drawn.calls_grow (less_calls y x (Go.Sort.grow (wr.drewN m) os))
          unfold vV at o0
          clear hno hb hy hxb y0 y1 y2 y3 y4 x0 x1 x2 x3 x4
          by_cases hl : LtV y x
          · rw [show decide (LtV y x) = true by simp [hl]] at o0
            have O0 := Lib.hid o0
            have HLt := Lib.hid hl
            clear hl o0
            go_wp2_with fail
            go_quiet_grown (first | (with_reducible exact Calls.grown_of (O0.out _ _)))
            go_wp2_with fail
            go_roundw
            case rel =>
              refine ⟨n + 1, hlt2, by go_num, HB.out.trans ((below_grow wr nq osq).mono HB.out.size), fun j hj => ?_⟩
              rcases Nat.lt_or_ge j n with c | c
              · exact HNo.out j c
              · obtain rfl : j = n := by omega
                rw [HY.out]; exact HLt.out
            case measure => simp [intOf]; omega
          · rw [show decide (LtV y x) = false by simp [hl]] at o0
            have O0 := Lib.hid o0
            have HLt := Lib.hid hl
            have HEnd := Lib.hid (fun m os => HIn.out (Go.Sort.grow (wr.drewN m) os) n (HB.out.trans ((below_grow wr m os).mono HB.out.size)) (by omega) HNo.out (fun _ => by rw [HY.out]; exact hl))
            have hbx5 := HB.out
            clear hl o0
            go_wp2_with fail
            go_quiet_grown (first | (with_reducible exact Calls.grown_of (O0.out _ _)))
            have hE5 := HEnd.out nq osq
            have hb5 := hbx5.trans ((below_grow wr nq osq).mono hbx5.size)
            obtain ⟨W5, hW5⟩ : ∃ W5, Go.Sort.grow (wr.drewN nq) osq = W5 := ⟨_, rfl⟩
            rw [hW5] at hE5 hb5 ⊢
            obtain ⟨r0, r1, r2, r3, r4, -⟩ := (HVB.out.below hb5).cells
            have HE5 := Lib.hid hE5
            clear hE5 hb5 hW5 Gx0 Gx1 Gx2 Gx3 Gx4 Gy0 Gy1 Gy2 Gy3 Gy4 HEnd hbx5
            go_wp2_with (first | (go_at_call 35; refine HE5.out.mono ?_; rintro e w6 ⟨v', rfl, q2, q3⟩; have Q2 := Lib.hid q2; have Q3 := Lib.hid q3; clear q2 q3) | fail)
            go_roundw
            case rel => exact ⟨k + 1, hlt, by go_num, Q2.out, Q3.out⟩
            case measure => simp [intOf]; omega
        · obtain rfl : n = k := by omega
          have HEnd := Lib.hid (fun m os => HIn.out (Go.Sort.grow (wr.drewN m) os) n (HB.out.trans ((below_grow wr m os).mono HB.out.size)) (Nat.le_refl _) HNo.out (fun h => absurd h (Nat.lt_irrefl _)))
          have hxb := HVB.out.below hb
          obtain ⟨x0, x1, x2, x3, x4, -⟩ := hxb.cells
          have lx := hxb.lt
          have Gx0 := fun m os => Go.cell_grown (n := m) (os := os) (w := wr) (a := ⟨bx, 0, none⟩) lx x0
          have Gx1 := fun m os => Go.cell_grown (n := m) (os := os) (w := wr) (a := ⟨bx, 1, none⟩) lx x1
          have Gx2 := fun m os => Go.cell_grown (n := m) (os := os) (w := wr) (a := ⟨bx, 2, none⟩) lx x2
          have Gx3 := fun m os => Go.cell_grown (n := m) (os := os) (w := wr) (a := ⟨bx, 3, none⟩) lx x3
          have Gx4 := fun m os => Go.cell_grown (n := m) (os := os) (w := wr) (a := ⟨bx, 4, none⟩) lx x4
          have hbx5 := HB.out
          clear hno hb hxb x0 x1 x2 x3 x4
          go_wp2_with fail
          go_quiet_grown (fail)
          have hE5 := HEnd.out nq osq
          have hb5 := hbx5.trans ((below_grow wr nq osq).mono hbx5.size)
          obtain ⟨W5, hW5⟩ : ∃ W5, Go.Sort.grow (wr.drewN nq) osq = W5 := ⟨_, rfl⟩
          rw [hW5] at hE5 hb5 ⊢
          obtain ⟨r0, r1, r2, r3, r4, -⟩ := (HVB.out.below hb5).cells
          have HE5 := Lib.hid hE5
          clear hE5 hb5 hW5 Gx0 Gx1 Gx2 Gx3 Gx4 HEnd hbx5
          go_wp2_with (first | (go_at_call 35; refine HE5.out.mono ?_; rintro e w6 ⟨v', rfl, q2, q3⟩; have Q2 := Lib.hid q2; have Q3 := Lib.hid q3; clear q2 q3) | fail)
          go_roundw
          case rel => exact ⟨n + 1, hlt, by go_num, Q2.out, Q3.out⟩
          case measure => simp [intOf]; omega
    · obtain rfl : k = l.length := by omega
      rw [List.take_length] at ho
      have e : ∃ a c, u3 = .slice a l.length c := by
        rcases ho.2 with ⟨rfl, e⟩ | ⟨g, cap', cur, rfl, _⟩
        · exact ⟨none, 0, by rw [← e]⟩
        · exact ⟨_, _, rfl⟩
      obtain ⟨a, c, rfl⟩ := e
      go_wp2_with fail
      go_ret
      exact ⟨_, rfl, ho, hbw⟩
end Go.Proofs.YtcjkeobjojmpfaaGreat
end

section
/-
  ROWS OF Small (layer 10); CONTRACTS of the law's made and at.
-/
namespace Go.Proofs.YtcjkeobjojmpfaaGreat
open Go.RowKit Go.Shelf

def vS (x : Sv) : Value := .agg #[.int .u8 (x.1 : Int), .int .u8 (x.2.1 : Int), .int .u8 (x.2.2.1 : Int), .int .u8 (x.2.2.2 : Int)]
def svq (l : List Sv) (j : Nat) : Sv := l.getD j (0, 0, 0, 0)
/-- THE SLICE v OF Small READS AS l. -/
def SvRow (w : World) (v : Value) (l : List Sv) : Prop := (∀ x ∈ l, SvOk x) ∧ ((l = [] ∧ ∃ a c, v = .slice a 0 c ∧ c ≤ maxLen) ∨ ∃ b o c, v = .slice (some ⟨b, o, none⟩) l.length c ∧ b < w.heap.size ∧ l.length ≤ c ∧ c ≤ maxLen ∧
  ∀ j, j < l.length → w.cell? ⟨b, o + j * 4, none⟩ = some (.int .u8 ((svq l j).1 : Int)) ∧ w.cell? ⟨b, o + j * 4 + 1, none⟩ = some (.int .u8 ((svq l j).2.1 : Int)) ∧ w.cell? ⟨b, o + j * 4 + 2, none⟩ = some (.int .u8 ((svq l j).2.2.1 : Int)) ∧ w.cell? ⟨b, o + j * 4 + 3, none⟩ = some (.int .u8 ((svq l j).2.2.2 : Int)))
theorem SvRow.below {w w' : World} {v : Value} {l : List Sv} (h : SvRow w v l) (hb : Below w.heap.size w w') : SvRow w' v l := by
  obtain ⟨h0, h | ⟨b, o, c, rfl, h1, h2, h3, h4⟩⟩ := h
  · exact ⟨h0, .inl h⟩
  · refine ⟨h0, .inr ⟨b, o, c, rfl, Nat.lt_of_lt_of_le h1 hb.size, h2, h3, fun j hj => ?_⟩⟩
    rw [cell_blk (hb.block b h1), cell_blk (hb.block b h1), cell_blk (hb.block b h1), cell_blk (hb.block b h1)]
    exact h4 j hj
theorem SvRow.shape {w : World} {v : Value} {l : List Sv} (h : SvRow w v l) : ∃ a c, v = .slice a l.length c ∧ l.length ≤ c ∧ c ≤ maxLen := by
  obtain ⟨_, ⟨rfl, a, c, rfl, hc⟩ | ⟨b, o, c, rfl, _, h1, h2, _⟩⟩ := h
  · exact ⟨a, c, rfl, Nat.zero_le _, hc⟩
  · exact ⟨_, c, rfl, h1, h2⟩
theorem svq_ok {l : List Sv} (h : ∀ x ∈ l, SvOk x) (j : Nat) (hj : j < l.length) : SvOk (svq l j) := by
  unfold svq
  rw [List.getD_eq_getElem?_getD, List.getElem?_eq_getElem hj]
  exact h _ (List.getElem_mem hj)
set_option maxHeartbeats 1000000 in
theorem madeV_calls (x : Sv) (hx : SvOk x) (w : World) :
    Calls Tryz.prog 39 #[.agg #[.int .u8 (x.1 : Int), .int .u8 (x.2.1 : Int), .int .u8 (x.2.2.1 : Int), .int .u8 (x.2.2.2 : Int)]] w fun e w' => e = .returned (vV (madeV x)) ∧ Below w.heap.size w w' := by
  obtain ⟨a, b, c, d⟩ := x
  obtain ⟨h1, h2, h3, h4⟩ := hx
  dsimp only at h1 h2 h3 h4
  unfold madeV vV
  dsimp only
  go_enter Tryz.func39, Tryz.ntmps39
  go_wp2
  exact bodyPost_ret (v := .agg #[.int .i64 ((a : Int) % 16), .int .i64 ((b : Int) % 5), .int .i64 ((c : Int) % 32), .int .i64 (1 + (d : Int) % 16), .int .i64 ((a : Int) - (d : Int))]) (by simp [results, Tryz.results39, go_sem]) rfl ⟨rfl, ((Below.refl _ w).alloc (Nat.le_refl _) _).alloc (by simp) _⟩
set_option maxHeartbeats 1000000 in
theorem atV_calls (t s q : Int) (w : World) :
    Calls Tryz.prog 38 #[.int .i64 t, .int .i64 s, .int .i64 q] w fun e w' => e = .returned (.agg #[.int .i64 t, .int .i64 s, .int .i64 q, .int .i64 1, .int .i64 0]) ∧ Below w.heap.size w w' := by
  go_enter Tryz.func38, Tryz.ntmps38
  go_wp2
  refine bodyPost_ret (v := .agg #[.int .i64 t, .int .i64 s, .int .i64 q, .int .i64 1, .int .i64 0]) (by simp [results, Tryz.results38, go_sem]) rfl ⟨rfl, (Below.refl _ w).alloc (Nat.le_refl _) _⟩
end Go.Proofs.YtcjkeobjojmpfaaGreat
end
