import Derived.Test.YtcjkeobjojmpfaaGreatMHeapD
import Derived.Test.YtcjkeobjojmpfaaGreatMRegionInv
section
/-
  CONTRACT of heap's sink.
-/
namespace Go.Proofs.YtcjkeobjojmpfaaGreat
open Go.RowKit Go.Shelf

attribute [local go_sem] Oper.semAt_some

/-- THE MARKS that ranges over iterators have left: blocks from B on. -/
def Marks (B : Nat) : List Deferred → World → Prop
  | [], _ => True
  | d :: ds, w => ∃ D, d = { target := .collected D, args := #[] } ∧ B ≤ D ∧ w.heap[D]? = some (.deferred (some [])) ∧ d ∉ ds ∧ Marks B ds w
theorem Marks.keep {B : Nat} : ∀ {ds : List Deferred} {w w' : World}, Marks B ds w → (∀ D, B ≤ D → ({ target := .collected D, args := #[] } : Deferred) ∈ ds → w.heap[D]? = some (.deferred (some [])) → w'.heap[D]? = w.heap[D]?) → Marks B ds w'
  | [], _, _, _, _ => trivial
  | d :: ds, w, w', ⟨D, h1, h2, h3, h4, h5⟩, hk => ⟨D, h1, h2, (hk D h2 (by rw [h1]; exact List.mem_cons_self) h3).trans h3, h4, h5.keep fun E e1 e2 e3 => hk E e1 (List.mem_cons_of_mem _ e2) e3⟩
theorem Marks.lt {B : Nat} : ∀ {ds : List Deferred} {w : World} {D : Nat}, Marks B ds w → ({ target := .collected D, args := #[] } : Deferred) ∈ ds → D < w.heap.size
  | [], _, _, _, h => by cases h
  | d :: ds, w, D, ⟨E, h1, h2, h3, h4, h5⟩, h => by
    rcases List.mem_cons.1 h with e | e
    · rw [h1] at e; cases e; exact (Array.getElem?_eq_some_iff.1 h3).1
    · exact h5.lt e
theorem Marks.below {B : Nat} {ds : List Deferred} {w w' : World} (h : Marks B ds w) (hb : Below w.heap.size w w') : Marks B ds w' :=
  h.keep fun D _ hm _ => hb.block D (h.lt hm)
/-- A function without results leaves through its marks. -/
theorem marks_leave {n : Nat} {F : Fence} {P : Program} {fn : Func} {tmps : Array Value} {R : Ending → World → Prop} {B : Nat} :
    ∀ (ds : List Deferred) (w : World), Marks B ds w → (∀ w', Off (fun k => B ≤ k) w w' → LeavesInM F n P fn tmps R [] .returning w') → LeavesInM F n P fn tmps R ds .returning w
  | [], w, _, h => h w (Off.refl _ _)
  | d :: ds, w, ⟨D, h1, h2, h3, h4, h5⟩, h => by
    refine ⟨by simp, .inl ⟨D, _, by rw [h1], run_takeDeferred h3, marks_leave ds _ (h5.keep fun E e1 e2 e3 => ?_) fun w' hw => h w' ?_⟩⟩
    · exact World.putObj_heap_other (fun e => h4 (by rw [h1, ← e]; exact e2))
    · exact Off.to (Off.of_grown (grownBy_putObj' w D _) (fun k e => by cases e; exact h2)) hw

set_option maxRecDepth 100000 in
set_option maxHeartbeats 8000000 in
theorem sink_in (r : Nat) (hr5 : 5 ≤ r) {w : World} {q g x cap xc n : Nat} {t : List En} {ix : Nat → Int} (h : HB w q g x cap xc n t ix) (i0 : Nat) (hi0 : i0 < t.length) (hs : Sinks t i0) :
    CallsIn Fence.wide r Tryz.prog 124 #[.pointer (some ⟨q, 0, none⟩), .int .i64 i0] w fun e w' => e = .returned (.tuple #[]) ∧ ∃ t' ix', HB w' q g x cap xc n t' ix' ∧ t'.length = t.length ∧ (∀ y, y ∈ t' ↔ y ∈ t) ∧ HOrd t' ∧ Off (Q3 q g x) w w' := by
  have mixed : Tryz.prog.follows .mixedOrders = true := by kernel_rfl
  have hcapn := h.agr.len
  have hn4 := h.caps.2.2.2
  have HH := Lib.hid h
  have HR := Lib.hid hs
  obtain ⟨m, hm⟩ : ∃ m, t.length = m := ⟨_, rfl⟩
  rw [hm] at hcapn hi0
  have HM := Lib.hid hm
  have HLt := Lib.hid h.lt
  clear h hs hm
  refine callsIn_of_wp_marks Tryz.func124 rfl trivial ?_ rfl
  simp only [Tryz.ntmps124, List.size_toArray, List.length_cons, List.length_nil, Nat.reduceAdd, Nat.reduceSub, Array.replicate_succ, Array.replicate_zero, List.push_toArray, List.append_toArray, List.nil_append, List.cons_append]
  gi_wp2_with fail
  refine wpIn_wide.2 (wp_scope_straight ((wpIn_wide (n := r)).1 ?_))
  gi_wp2_with fail
  apply wpIn_label
  gi_wp2_with fail
  have b1 := Boxed.new w 84 (.pointer (some ⟨q, 0, none⟩))
  have hB0 : Below w.heap.size w (w.alloc (.cells #[.pointer (some ⟨q, 0, none⟩)] 84)) := (Below.refl _ w).alloc (Nat.le_refl _) _
  refine wpIn_loop (fun a wr => ∃ (i : Nat) (u : List En) (iy : Nat → Int) (ds : List Deferred) (u4 u5 u6 u7 u8 u9 u10 u11 u12 u13 u14 u15 u16 u17 u18 u19 u20 u21 u22 u23 u24 u25 u26 u27 u28 u29 u30 u31 u32 u33 u34 u35 : Value), a = { tmps := #[.pointer (some ⟨q, 0, none⟩), .int .i64 (i : Int), .pointer (some ⟨w.heap.size, 0, none⟩), undef, u4, u5, u6, u7, u8, u9, u10, u11, u12, u13, u14, u15, u16, u17, u18, u19, u20, u21, u22, u23, u24, u25, u26, u27, u28, u29, u30, u31, u32, u33, u34, u35], defers := ds } ∧ i < m ∧ HB wr q g x cap xc n u iy ∧ u.length = m ∧ (∀ y, y ∈ u ↔ y ∈ t) ∧ Sinks u i ∧ Off (Q3 q g x) w wr ∧ Boxed wr w.heap.size 84 (.pointer (some ⟨q, 0, none⟩)) ∧ Marks (w.heap.size + 1) ds wr) (fun a _ => m - (intOf (a.tmps.getD 1 undef)).toNat) ?start ?round
  case start =>
    exact ⟨i0, t, ix, [], undef, undef, undef, undef, undef, undef, undef, undef, undef, undef, undef, undef, undef, undef, undef, undef, undef, undef, undef, undef, undef, undef, undef, undef, undef, undef, undef, undef, undef, undef, undef, undef, rfl, hi0, HH.out.below hB0, HM.out, fun _ => Iff.rfl, HR.out, Off.of_below hB0, b1, trivial⟩
  case round =>
    clear b1 hB0 HH HR
    rintro a wr ⟨i, u, iy, ds, u4, u5, u6, u7, u8, u9, u10, u11, u12, u13, u14, u15, u16, u17, u18, u19, u20, u21, u22, u23, u24, u25, u26, u27, u28, u29, u30, u31, u32, u33, u34, u35, rfl, hi, hH, hul, hmem, hsi, hO, hbx, hmk⟩
    have H1 := Lib.hid hH; have HU := Lib.hid hul; have HMem := Lib.hid hmem; have HSi := Lib.hid hsi; have HO := Lib.hid hO; have HBx := Lib.hid hbx; have HMk := Lib.hid hmk
    have cb := hbx.cell
    have lb := hbx.lt
    clear hH hul hmem hsi hO hbx hmk
    gi_wp2_with fail
    refine ⟨trivial, (by intro _; omega), (below_in (r - 1) q i _).mono ?_⟩
    rintro e w' ⟨rfl, rfl⟩
    gi_wp2_with fail
    obtain ⟨N, hN1, hN2, hN3⟩ : ∃ N, N ≤ 4 ∧ (∀ k, k < N → 4 * i + 1 + k < m) ∧ (N < 4 → m ≤ 4 * i + 1 + N) := by
      by_cases c : 4 * i + 5 ≤ m
      · exact ⟨4, by omega, fun k hk => by omega, fun hk => by omega⟩
      · exact ⟨m - (4 * i + 1), by omega, fun k hk => by omega, fun hk => by omega⟩
    have hB2 : Below wr.heap.size wr (((wr.alloc (.cells #[.int .i64 (i : Int)] 3)).alloc (.cells #[.pointer (some ⟨q, 0, none⟩)] 84)).alloc (.cells #[.int .i64 (i : Int)] 3)) := (((Below.refl _ wr).alloc (Nat.le_refl _) _).alloc (by simp) _).alloc (by simp; omega) _
    have bF : Boxed (((wr.alloc (.cells #[.int .i64 (i : Int)] 3)).alloc (.cells #[.pointer (some ⟨q, 0, none⟩)] 84)).alloc (.cells #[.int .i64 (i : Int)] 3)) wr.heap.size 3 (.int .i64 (i : Int)) := ((Boxed.new wr 3 (.int .i64 (i : Int))).alloc _).alloc _
    have bQ : Boxed (((wr.alloc (.cells #[.int .i64 (i : Int)] 3)).alloc (.cells #[.pointer (some ⟨q, 0, none⟩)] 84)).alloc (.cells #[.int .i64 (i : Int)] 3)) (wr.heap.size + 1) 84 (.pointer (some ⟨q, 0, none⟩)) := by
      have := (Boxed.new (wr.alloc (.cells #[.int .i64 (i : Int)] 3)) 84 (.pointer (some ⟨q, 0, none⟩))).alloc (.cells #[.int .i64 (i : Int)] 3)
      simpa only [World.size_alloc] using this
    have bI : Boxed (((wr.alloc (.cells #[.int .i64 (i : Int)] 3)).alloc (.cells #[.pointer (some ⟨q, 0, none⟩)] 84)).alloc (.cells #[.int .i64 (i : Int)] 3)) (wr.heap.size + 1 + 1) 3 (.int .i64 (i : Int)) := by
      have := Boxed.new ((wr.alloc (.cells #[.int .i64 (i : Int)] 3)).alloc (.cells #[.pointer (some ⟨q, 0, none⟩)] 84)) 3 (.int .i64 (i : Int))
      simpa only [World.size_alloc] using this
    have cq := H1.out.cells.1
    rw [HU.out] at cq
    have hcap4 : i < 100000 := by omega
    refine wpIn_rangeKept (encs := fun k => #[.int .i64 ((4 * i + 1 + k : Nat) : Int)]) (N := N) (St := Kids q (wr.heap.size + 1 + 1) (wr.heap.size + 1) i m cap (some ⟨g, 0, none⟩)) rfl (by omega) (gf := 138) (lb := #[.pointer (some ⟨wr.heap.size + 1 + 1, 0, none⟩), .pointer (some ⟨wr.heap.size + 1, 0, none⟩)]) rfl trivial (enters_of Tryz.func138 (by kernel_rfl) rfl)
      (below1_kept (r - 1) (by omega) q (wr.heap.size + 1 + 1) (wr.heap.size + 1) i m cap N (some ⟨g, 0, none⟩) hcap4 hN1 hN2 hN3)
      (fun _ => rfl)
      (fun k W => ((∃ f : Nat, Boxed W wr.heap.size 3 (.int .i64 (f : Int)) ∧ First u i (4 * i + 1 + k) f) ∧ Boxed W (wr.heap.size + 1 + 1) 3 (.int .i64 (i : Int)) ∧ Boxed W (wr.heap.size + 1) 84 (.pointer (some ⟨q, 0, none⟩))) ∧ Below wr.heap.size wr W)
      (fun _ _ _ => False)
      (fun k W h => ⟨h.1.2.1, h.1.2.2, (cell_blk (h.2.block q H1.out.lt.1) 0).trans cq⟩)
      (OwnFrom.and (OwnFrom.and (Own.from (fun s X Y row hs hg hr => by obtain ⟨f, e1, e2⟩ := hs; exact ⟨f, boxed_own _ _ (fun _ : Unit => _) () X Y row e1 hg hr, e2⟩) _) (OwnFrom.and (Own.from (boxed_own _ _ (fun _ => _)) _) (Own.from (boxed_own _ _ (fun _ => _)) _))) (ownFrom_below (Nat.le_refl _) (by simp; omega)))
      (fun c => ownFrom_pure _ _)
      ⟨⟨⟨i, bF, First.begins u i⟩, bI, bQ⟩, hB2⟩
      (fun k a' _ => a' = { tmps := #[.pointer (some ⟨q, 0, none⟩), .int .i64 (i : Int), .pointer (some ⟨w.heap.size, 0, none⟩), undef, .pointer (some ⟨wr.heap.size, 0, none⟩), .int .i64 ((4 * i + 1 + k : Nat) : Int), .int .i64 (i : Int), .pointer (some ⟨q, 0, none⟩), .int .i64 (i : Int), .func (.func 138) #[] #[.pointer (some ⟨wr.heap.size + 1 + 1, 0, none⟩), .pointer (some ⟨wr.heap.size + 1, 0, none⟩)], .int .i64 ((4 * i + 1 + k : Nat) : Int), u11, u12, u13, u14, u15, u16, u17, u18, u19, u20, u21, u22, u23, u24, u25, u26, u27, u28, u29, u30, u31, u32, u33, u34, u35], defers := [] })
      (fun k a' => ownFrom_pure _ _) ?assign ?body ?done ?stop
    case assign =>
      intro l k W K hk hI hK
      gi_wp2
      exact hK _ _ (KeepsFrom.refl _ _) hI rfl
    case body =>
      rintro l k a' W hk ⟨⟨⟨f, hf, hfi⟩, hbi, hbq⟩, hB⟩ rfl
      have HF := Lib.hid hf; have HFi := Lib.hid hfi; have HBi := Lib.hid hbi; have HBq := Lib.hid hbq; have HB := Lib.hid hB
      have HJm := Lib.hid (hN2 k hk)
      obtain ⟨Jn, hJn⟩ : ∃ Jn, 4 * i + 1 + k = Jn := ⟨_, rfl⟩
      have hJm := HJm.out
      rw [hJn] at hJm ⊢
      have hfm : f < m := by rcases hfi.1 with e | e <;> omega
      have HJn := Lib.hid hJn
      have HW := Lib.hid (H1.out.below hB)
      have hbw : Boxed W w.heap.size 84 (.pointer (some ⟨q, 0, none⟩)) := (hB.block _ lb).trans HBx.out
      obtain ⟨A, hA⟩ : ∃ A, en u Jn = A := ⟨_, rfl⟩
      obtain ⟨C, hC⟩ : ∃ C, en u f = C := ⟨_, rfl⟩
      obtain ⟨z, hz⟩ : ∃ z, cfE A C = z := ⟨_, rfl⟩
      have o0 := Lib.hid (fun W => order_calls A C W)
      rw [hz] at o0
      have HA := Lib.hid hA; have HC := Lib.hid hC; have HZ := Lib.hid hz
      have C0 := Lib.hid (show ∀ wc, Below W.heap.size W wc → wc.cell? ⟨w.heap.size, 0, none⟩ = some (.pointer (some ⟨q, 0, none⟩)) ∧ wc.cell? ⟨q, 0, none⟩ = some (.slice (some ⟨g, 0, none⟩) m cap) ∧ wc.cell? ⟨wr.heap.size, 0, none⟩ = some (.int .i64 (f : Int)) ∧ wc.cell? ⟨g, Jn * 4, none⟩ = some (.int .i64 A.1.1) ∧ wc.cell? ⟨g, Jn * 4 + 1, none⟩ = some (.int .i64 A.1.2.1) ∧ wc.cell? ⟨g, Jn * 4 + 2, none⟩ = some (.int .i64 A.1.2.2) ∧ wc.cell? ⟨g, Jn * 4 + 3, none⟩ = some (.int .i64 (A.2 : Int)) ∧
          (wc.cell? ⟨g, f * 4, none⟩ = some (.int .i64 C.1.1) ∧ wc.cell? ⟨g, f * 4 + 1, none⟩ = some (.int .i64 C.1.2.1)) ∧ (wc.cell? ⟨g, f * 4 + 2, none⟩ = some (.int .i64 C.1.2.2) ∧ wc.cell? ⟨g, f * 4 + 3, none⟩ = some (.int .i64 (C.2 : Int))) from fun wc hb => by
        have h1 := HW.out.below hb
        obtain ⟨a0, a1, a2, a3⟩ := h1.tree.cell Jn (by rw [HU.out]; exact hJm)
        obtain ⟨b0, b1, b2, b3⟩ := h1.tree.cell f (by rw [HU.out]; exact hfm)
        rw [hA] at a0 a1 a2 a3
        rw [hC] at b0 b1 b2 b3
        have c := h1.cells.1
        rw [HU.out] at c
        exact ⟨(cell_blk (hb.block _ hbw.lt) 0).trans hbw.cell, c, (cell_blk (hb.block _ HF.out.lt) 0).trans HF.out.cell, a0, a1, a2, a3, ⟨b0, b1⟩, ⟨b2, b3⟩⟩)
      have hJ1 : (Jn : Int) < (m : Int) := by omega
      have hf1 : (f : Int) < (m : Int) := by omega
      clear hf hfi hbi hbq hB hA hC hz hbw hN2 hN3 hN1 bF bQ bI hB2 cq cb lb
      gi_wp2_with fail
      refine wpIn_region_inv (by kernel_rfl) (by kernel_rfl) (fun B a wc => a = { tmps := #[.pointer (some ⟨q, 0, none⟩), .int .i64 (i : Int), .pointer (some ⟨w.heap.size, 0, none⟩), undef, .pointer (some ⟨wr.heap.size, 0, none⟩), .int .i64 (Jn : Int), .int .i64 (i : Int), .pointer (some ⟨q, 0, none⟩), .int .i64 (i : Int), .func (.func 138) #[] #[.pointer (some ⟨wr.heap.size + 1 + 1, 0, none⟩), .pointer (some ⟨wr.heap.size + 1, 0, none⟩)], .int .i64 (Jn : Int), bif B 0 then .pointer (some ⟨q, 0, none⟩) else u11, bif B 1 then .pointer (some ⟨q, 0, none⟩) else u12, bif B 2 then .pointer (some ⟨q, 0, none⟩) else u13, bif B 3 then .slice (some ⟨g, 0, none⟩) m cap else u14, bif B 4 then .int .i64 (Jn : Int) else u15, bif B 5 then .pointer (some ⟨g, Jn * 4, none⟩) else u16, bif B 6 then .agg #[.int .i64 A.1.1, .int .i64 A.1.2.1, .int .i64 A.1.2.2, .int .i64 (A.2 : Int)] else u17, bif B 7 then .pointer (some ⟨q, 0, none⟩) else u18, bif B 8 then .pointer (some ⟨q, 0, none⟩) else u19, bif B 9 then .pointer (some ⟨q, 0, none⟩) else u20, bif B 10 then .slice (some ⟨g, 0, none⟩) m cap else u21, bif B 11 then .int .i64 (f : Int) else u22, bif B 12 then .pointer (some ⟨g, f * 4, none⟩) else u23, bif B 13 then .agg #[.int .i64 C.1.1, .int .i64 C.1.2.1, .int .i64 C.1.2.2, .int .i64 (C.2 : Int)] else u24, bif B 14 then .int .i64 z else u25, bif B 15 then .bool (decide (z < 0)) else u26, u27, u28, u29, u30, u31, u32, u33, u34, u35], defers := [] } ∧ Below W.heap.size W wc) ?init ?step ?fin
      case init => exact ⟨rfl, (Below.refl _ _).drew⟩
      case step =>
        intro B j a wc hj hbj hcl hw hI K hK
        obtain ⟨rfl, hB⟩ := hI
        have hj : j < 16 := hj
        clear hcl
        obtain rfl | rfl | rfl | rfl | rfl | rfl | rfl | rfl | rfl | rfl | rfl | rfl | rfl | rfl | rfl | rfl : j = 0 ∨ j = 1 ∨ j = 2 ∨ j = 3 ∨ j = 4 ∨ j = 5 ∨ j = 6 ∨ j = 7 ∨ j = 8 ∨ j = 9 ∨ j = 10 ∨ j = 11 ∨ j = 12 ∨ j = 13 ∨ j = 14 ∨ j = 15 := by omega
        all_goals (simp [waits, Region.binds] at hw)
        · have c0 := C0.out wc hB
          obtain ⟨c1, c2, c3, c4, c5, c6, c7, c8, c9⟩ := c0
          simp only [hbj, cond_false]
          refine wpOpIn_step rfl ?_
          intro K' hK'
          go_simp
          exact hK' _ _ (hK _ _ ⟨by simp [upd], hB⟩)
        · have c0 := C0.out wc hB
          obtain ⟨c1, c2, c3, c4, c5, c6, c7, c8, c9⟩ := c0
          simp only [hbj, hw, cond_true, cond_false]
          refine wpOpIn_step rfl ?_
          intro K' hK'
          go_simp
          exact hK' _ _ (hK _ _ ⟨by simp [upd, hw], hB⟩)
        · have c0 := C0.out wc hB
          obtain ⟨c1, c2, c3, c4, c5, c6, c7, c8, c9⟩ := c0
          simp only [hbj, hw, cond_true, cond_false]
          refine wpOpIn_step rfl ?_
          intro K' hK'
          go_simp
          exact hK' _ _ (hK _ _ ⟨by simp [upd, hw], hB⟩)
        · have c0 := C0.out wc hB
          obtain ⟨c1, c2, c3, c4, c5, c6, c7, c8, c9⟩ := c0
          simp only [hbj, hw, cond_true, cond_false]
          refine wpOpIn_step rfl ?_
          intro K' hK'
          go_simp
          exact hK' _ _ (hK _ _ ⟨by simp [upd, hw], hB⟩)
        · have c0 := C0.out wc hB
          obtain ⟨c1, c2, c3, c4, c5, c6, c7, c8, c9⟩ := c0
          simp only [hbj, cond_false]
          refine wpOpIn_step rfl ?_
          intro K' hK'
          go_simp
          exact hK' _ _ (hK _ _ ⟨by simp [upd], hB⟩)
        · have c0 := C0.out wc hB
          obtain ⟨c1, c2, c3, c4, c5, c6, c7, c8, c9⟩ := c0
          simp only [hbj, hw, cond_true, cond_false]
          refine wpOpIn_step rfl ?_
          intro K' hK'
          go_simp
          exact hK' _ _ (hK _ _ ⟨by simp [upd, hw], hB⟩)
        · have c0 := C0.out wc hB
          obtain ⟨c1, c2, c3, c4, c5, c6, c7, c8, c9⟩ := c0
          simp only [hbj, hw, cond_true, cond_false]
          refine wpOpIn_step rfl ?_
          intro K' hK'
          go_simp
          exact hK' _ _ (hK _ _ ⟨by simp [upd, hw], hB⟩)
        · have c0 := C0.out wc hB
          obtain ⟨c1, c2, c3, c4, c5, c6, c7, c8, c9⟩ := c0
          simp only [hbj, cond_false]
          refine wpOpIn_step rfl ?_
          intro K' hK'
          go_simp
          exact hK' _ _ (hK _ _ ⟨by simp [upd], hB⟩)
        · have c0 := C0.out wc hB
          obtain ⟨c1, c2, c3, c4, c5, c6, c7, c8, c9⟩ := c0
          simp only [hbj, hw, cond_true, cond_false]
          refine wpOpIn_step rfl ?_
          intro K' hK'
          go_simp
          exact hK' _ _ (hK _ _ ⟨by simp [upd, hw], hB⟩)
        · have c0 := C0.out wc hB
          obtain ⟨c1, c2, c3, c4, c5, c6, c7, c8, c9⟩ := c0
          simp only [hbj, hw, cond_true, cond_false]
          refine wpOpIn_step rfl ?_
          intro K' hK'
          go_simp
          exact hK' _ _ (hK _ _ ⟨by simp [upd, hw], hB⟩)
        · have c0 := C0.out wc hB
          obtain ⟨c1, c2, c3, c4, c5, c6, c7, c8, c9⟩ := c0
          simp only [hbj, hw, cond_true, cond_false]
          refine wpOpIn_step rfl ?_
          intro K' hK'
          go_simp
          exact hK' _ _ (hK _ _ ⟨by simp [upd, hw], hB⟩)
        · have c0 := C0.out wc hB
          obtain ⟨c1, c2, c3, c4, c5, c6, c7, c8, c9⟩ := c0
          simp only [hbj, cond_false]
          refine wpOpIn_step rfl ?_
          intro K' hK'
          go_simp
          exact hK' _ _ (hK _ _ ⟨by simp [upd], hB⟩)
        · have c0 := C0.out wc hB
          obtain ⟨c1, c2, c3, c4, c5, c6, c7, c8, c9⟩ := c0
          simp only [hbj, hw, cond_true, cond_false]
          refine wpOpIn_step rfl ?_
          intro K' hK'
          go_simp
          exact hK' _ _ (hK _ _ ⟨by simp [upd, hw], hB⟩)
        · have c0 := C0.out wc hB
          obtain ⟨c1, c2, c3, c4, c5, c6, c7, c8, c9⟩ := c0
          simp only [hbj, hw, cond_true, cond_false]
          refine wpOpIn_step rfl ?_
          intro K' hK'
          go_simp
          exact hK' _ _ (hK _ _ ⟨by simp [upd, hw], hB⟩)
        · have c0 := C0.out wc hB
          obtain ⟨c1, c2, c3, c4, c5, c6, c7, c8, c9⟩ := c0
          simp only [hbj, hw, cond_true, cond_false]
          refine wpOpIn_step rfl ?_
          intro K' hK'
          go_simp
          refine ⟨trivial, (by intro _; omega), (CallsIn.inRound l (callsIn_wide.2 (o0.out wc))).mono ?_⟩
          rintro e w' ⟨rfl, hb⟩
          exact hK' _ _ (hK _ _ ⟨by simp [upd, hw], hB.trans (hb.mono hB.size)⟩)
        · have c0 := C0.out wc hB
          obtain ⟨c1, c2, c3, c4, c5, c6, c7, c8, c9⟩ := c0
          simp only [hbj, hw, cond_true, cond_false]
          refine wpOpIn_step rfl ?_
          intro K' hK'
          go_simp
          exact hK' _ _ (hK _ _ ⟨by simp [upd, hw], hB⟩)
      case fin =>
        intro B a wc hall hI
        obtain ⟨rfl, hB⟩ := hI
        simp only [hall 0 (by decide), hall 1 (by decide), hall 2 (by decide), hall 3 (by decide), hall 4 (by decide), hall 5 (by decide), hall 6 (by decide), hall 7 (by decide), hall 8 (by decide), hall 9 (by decide), hall 10 (by decide), hall 11 (by decide), hall 12 (by decide), hall 13 (by decide), hall 14 (by decide), hall 15 (by decide), cond_true]
        clear hall
        have HBw := Lib.hid hB
        have cS := (C0.out wc hB).2.2.1
        have HSl := Lib.hid HF.out.lt
        have fS : wc.frozen? ⟨wr.heap.size, 0, none⟩ = false := (by
          have := hB.block _ HF.out.lt
          have e : wc.frozen? ⟨wr.heap.size, 0, none⟩ = W.frozen? ⟨wr.heap.size, 0, none⟩ := by simp [World.frozen?, this]
          rw [e]; exact HF.out.frozen)
        clear hB C0 o0
        have HF2 := Lib.hid (show Boxed wc wr.heap.size 3 (.int .i64 (f : Int)) from (HBw.out.block _ HF.out.lt).trans HF.out)
        have HBi2 := Lib.hid (show Boxed wc (wr.heap.size + 1 + 1) 3 (.int .i64 (i : Int)) from (HBw.out.block _ HBi.out.lt).trans HBi.out)
        have HBq2 := Lib.hid (show Boxed wc (wr.heap.size + 1) 84 (.pointer (some ⟨q, 0, none⟩)) from (HBw.out.block _ HBq.out.lt).trans HBq.out)
        have HB2 := Lib.hid (HB.out.trans (HBw.out.mono HB.out.size))
        have HKf := Lib.hid (fun B => KeepsFrom.of_grownBy (B := B) (W := W) (W' := wc) (row := none) (⟨HBw.out.os, HBw.out.tape, HBw.out.output, HBw.out.size, fun k hk _ => HBw.out.block k hk⟩) (fun j e => by cases e))
        by_cases hz0 : z < 0
        · have hd : decide (z < 0) = true := decide_eq_true hz0
          gi_wp2
          refine ⟨(HKf.out _).trans ((KeepsOthers.setCell _ _ _).from _), ⟨⟨Jn, HF2.out.set _, ?_⟩, HBi2.out.other (by omega) _, HBq2.out.other (by omega) _⟩, HB2.out.setCell (p := ⟨wr.heap.size, 0, none⟩) (Nat.le_refl _) _⟩
          rw [show 4 * i + 1 + (k + 1) = Jn + 1 by have := HJn.out; omega]
          have := HFi.out
          rw [HJn.out] at this
          exact this.lesser (by have := HJn.out; omega) (by rw [HA.out, HC.out]; exact cfE_neg.1 (by rw [HZ.out]; exact hz0))
        · have hd : decide (z < 0) = false := decide_eq_false hz0
          gi_wp2
          refine ⟨HKf.out _, ⟨⟨f, HF2.out, ?_⟩, HBi2.out, HBq2.out⟩, HB2.out⟩
          rw [show 4 * i + 1 + (k + 1) = Jn + 1 by have := HJn.out; omega]
          have := HFi.out
          rw [HJn.out] at this
          exact this.stays (by rw [HA.out, HC.out]; intro hlt; have := cfE_neg.2 hlt; rw [HZ.out] at this; omega)
    case done =>
      rintro D W hD ⟨⟨⟨f, hf, hfi⟩, hbi, hbq⟩, hB⟩ hK
      have HF := Lib.hid hf; have HFi := Lib.hid hfi; have HBd := Lib.hid hB; have HKk := Lib.hid hK
      have hfm : f < m := by rcases hfi.1 with e | e; omega; have := hN2 (f - (4 * i + 1)) (by omega); omega
      have HW := Lib.hid (H1.out.below hB)
      have cF := hf.cell
      have cB := (cell_blk (hB.block _ lb) 0).trans cb
      have HMk2 := Lib.hid (HMk.out.below hB)
      have HD := Lib.hid hD
      have HBx2 := Lib.hid (show Boxed W w.heap.size 84 (.pointer (some ⟨q, 0, none⟩)) from (hB.block _ lb).trans HBx.out)
      have HDn := Lib.hid (show ({ target := .collected D, args := #[] } : Deferred) ∉ ds from fun hm => by have := HMk.out.lt hm; simp at hD; omega)
      have HMk3 := Lib.hid (show Marks (w.heap.size + 1) ({ target := .collected D, args := #[] } :: ds) W from ⟨D, rfl, by simp at hD; omega, hK, HDn.out, HMk2.out⟩)
      have HO2 := Lib.hid (HO.out.to (Off.of_below (F := Q3 q g x) hB))
      have HN := Lib.hid (And.intro hN1 (And.intro hN2 hN3))
      have hmN : 4 * i + 1 + N ≤ m ∨ N = 0 := by by_cases c : N = 0; exact .inr c; have := hN2 (N - 1) (by omega); omega
      have HmN := Lib.hid hmN
      clear hf hfi hbi hbq hB hK hD bF bQ bI hB2 cq cb hN1 hN2 hN3 hmN
      by_cases e : f = i
      · subst e
        have he : ((f : Int) == (f : Int)) = true := by simp
        have HOrd' := Lib.hid (HSi.out.ends HFi.out (by have := HN.out.2.2; have := HN.out.1; rw [HU.out]; omega))
        gi_wp2_with fail
        simp only [Exit.noGoto]
        refine marks_leave (B := w.heap.size + 1) _ _ HMk3.out ?_
        intro w' hO'
        obtain ⟨q1, q2, q3⟩ := HLt.out
        refine ⟨.tuple #[], by simp [results, Tryz.f124, go_sem], rfl, u, iy, HW.out.off hO' ⟨by omega, by omega, by omega⟩, HU.out.trans HM.out.symm, HMem.out, HOrd'.out, HO2.out.trans hO' fun j hj hG => by omega⟩
      · have he : ((f : Int) == (i : Int)) = false := by rw [beq_eq_false_iff_ne]; omega
        have HSw := Lib.hid (swap_calls HW.out i f (by rw [HU.out]; exact hi) (by rw [HU.out]; exact hfm))
        have HHi := Lib.hid hi
        gi_wp2_with fail
        refine ⟨trivial, (by intro _; omega), (callsIn_wide.2 HSw.out).mono ?_⟩
        rintro e w2 ⟨rfl, ix2, hH2, hOs⟩
        have hql := HLt.out
        have nW : ¬ Q3 q g x wr.heap.size := by rintro (c | c | c) <;> omega
        have nB : ¬ Q3 q g x w.heap.size := by rintro (c | c | c) <;> omega
        have cF2 := (cell_blk (hOs.block _ HF.out.lt nW) 0).trans cF
        have HH2 := Lib.hid hH2
        have HBx3 := Lib.hid (show Boxed w2 w.heap.size 84 (.pointer (some ⟨q, 0, none⟩)) from (hOs.block _ HBx2.out.lt nB).trans HBx2.out)
        have HMk4 := Lib.hid (HMk3.out.keep fun E e1 _ e3 => hOs.block E (Array.getElem?_eq_some_iff.1 e3).1 (by rintro (c | c | c) <;> omega))
        have HO3 := Lib.hid (HO2.out.to hOs)
        have hN0 : 4 * i + 1 + N ≤ m := by
          rcases HmN.out with c | c
          · exact c
          · rcases HFi.out.1 with d | d
            · exact absurd d e
            · omega
        have HSt := Lib.hid (HSi.out.step (by rw [HU.out]; exact hi) HFi.out e (by have := HN.out.1; rw [HU.out]; omega) (by have := HN.out.2.2; have := HN.out.1; rw [HU.out]; omega))
        have hif : i < f := by rcases HFi.out.1 with d | d <;> omega
        clear hH2 hOs nW nB hql cF cB
        gi_wp2
        refine ⟨⟨f, swE u i f, ix2, _, _, _, _, _, _, _, _, _, _, _, _, _, _, _, _, _, _, _, _, _, _, _, _, _, _, _, _, _, _, _, _, _, rfl, hfm, HH2.out, by rw [swE_len]; exact HU.out, fun y => (swE_mem (by rw [HU.out]; exact hi) (by rw [HU.out]; exact hfm) y).trans (HMem.out y), HSt.out, HO3.out, HBx3.out, HMk4.out⟩, ?_⟩
        show m - (intOf (.int .i64 (f : Int))).toNat < m - (intOf (.int .i64 (i : Int))).toNat
        simp [intOf]; omega
    case stop =>
      rintro D c k W hD hk h hK
      exact h.elim
theorem sink_calls {w : World} {q g x cap xc n : Nat} {t : List En} {ix : Nat → Int} (h : HB w q g x cap xc n t ix) (i0 : Nat) (hi0 : i0 < t.length) (hs : Sinks t i0) :
    Calls Tryz.prog 124 #[.pointer (some ⟨q, 0, none⟩), .int .i64 i0] w fun e w' => e = .returned (.tuple #[]) ∧ ∃ t' ix', HB w' q g x cap xc n t' ix' ∧ t'.length = t.length ∧ (∀ y, y ∈ t' ↔ y ∈ t) ∧ HOrd t' ∧ Off (Q3 q g x) w w' :=
  (callsIn_wide (n := 5)).1 (sink_in 5 (by omega) h i0 hi0 hs)
set_option maxHeartbeats 1000000 in
theorem settle_calls {w : World} {q g x cap xc n : Nat} {t : List En} {ix : Nat → Int} (h : HB w q g x cap xc n t ix) (i0 : Nat) (hi0 : i0 < t.length) (hs : Exc t i0) :
    Calls Tryz.prog 112 #[.pointer (some ⟨q, 0, none⟩), .int .i64 i0] w fun e w' => e = .returned (.tuple #[]) ∧ ∃ t' ix', HB w' q g x cap xc n t' ix' ∧ t'.length = t.length ∧ (∀ y, y ∈ t' ↔ y ∈ t) ∧ HOrd t' ∧ Off (Q3 q g x) w w' := by
  have HR := Lib.hid (rise_calls h i0 (hs.rises hi0))
  have HS := Lib.hid (fun (W : World) (t' : List En) (ix' : Nat → Int) (h' : HB W q g x cap xc n t' ix') (hl : t'.length = t.length) (hk : Sinks t' i0) => sink_calls h' i0 (by rw [hl]; exact hi0) hk)
  clear h hs hi0
  go_enter Tryz.func112, Tryz.ntmps112
  go_wp2_with (first
    | (go_at_call 82; refine HR.out.mono ?_; rintro e w1 ⟨rfl, t1, ix1, h1, l1, m1, s1, o1⟩; have HS1 := Lib.hid (HS.out w1 t1 ix1 h1 l1 s1); have HL1 := Lib.hid l1; have HM1 := Lib.hid m1; have HO1 := Lib.hid o1; clear h1 l1 m1 s1 o1)
    | (go_at_call 124; refine HS1.out.mono ?_; rintro e w2 ⟨rfl, t2, ix2, h2, l2, m2, s2, o2⟩; have H2 := Lib.hid h2; have HL2 := Lib.hid l2; have HM2 := Lib.hid m2; have HO2 := Lib.hid o2; have HS2 := Lib.hid s2; clear h2 l2 m2 s2 o2)
    | fail)
  go_end0
  exact ⟨rfl, t2, ix2, H2.out, HL2.out.trans HL1.out, fun y => (HM2.out y).trans (HM1.out y), HS2.out, HO1.out.to HO2.out⟩
end Go.Proofs.YtcjkeobjojmpfaaGreat
end

section
/-
  CONTRACT of heap's cut.
-/
namespace Go.Proofs.YtcjkeobjojmpfaaGreat
open Go.RowKit Go.Shelf

theorem HOrd.take {t : List En} (h : HOrd t) (m : Nat) : HOrd (t.take m) := fun j h1 h2 => by
  rw [List.length_take] at h2
  rw [en_take _ _ _ (by omega), en_take _ _ _ (by omega)]
  exact h j h1 (by omega)
theorem cut_last {t : List En} {i m : Nat} (hm : t.length = m + 1) (hi : i < t.length) : en (swE t i m) m = en t i := by
  rw [en_sw t hi (by omega), if_pos rfl]
theorem cut_mid {t : List En} {i m : Nat} (hm : t.length = m + 1) (hi : i < m) : (swE t i m).take m = (t.take m).set i (en t m) := by
  refine en_ext (by simp [swE_len]) fun k hk => ?_
  rw [List.length_take, swE_len] at hk
  rw [en_take _ _ _ (by omega), en_sw t (by omega) (by omega), en_set _ _ _ _ (by rw [List.length_take]; omega), if_neg (by omega), en_take _ _ _ (by omega)]
theorem cut_end {t : List En} {m : Nat} (hm : t.length = m + 1) : (swE t m m).take m = t.take m := by
  refine en_ext (by simp [swE_len]) fun k hk => ?_
  rw [List.length_take, swE_len] at hk
  rw [en_take _ _ _ (by omega), en_sw t (by omega) (by omega), en_take _ _ _ (by omega), if_neg (by omega), if_neg (by omega)]
theorem take_len {t : List En} {m : Nat} (hm : t.length = m + 1) : (t.take m).length = m := by rw [List.length_take]; omega
theorem HB.drew {w : World} {q g x cap xc n : Nat} {t : List En} {ix : Nat → Int} (h : HB w q g x cap xc n t ix) : HB w.drew q g x cap xc n t ix := h.keep rfl rfl rfl
/-- Another block's cell stored. -/
theorem HB.away {w : World} {q g x cap xc n : Nat} {t : List En} {ix : Nat → Int} (h : HB w q g x cap xc n t ix) {b : Nat} (hb : ¬ Q3 q g x b) (i : Nat) (v : Value) : HB (w.setCell ⟨b, i, none⟩ v) q g x cap xc n t ix :=
  h.keep (heap_setO _ _ _ fun e => hb (.inl e.symm)) (heap_setO _ _ _ fun e => hb (.inr (.inl e.symm))) (heap_setO _ _ _ fun e => hb (.inr (.inr e.symm)))
theorem Off.new {F : Nat → Prop} {a w : World} (h : Off F a w) {b : Nat} (hb : a.heap.size ≤ b) (i : Nat) (v : Value) : Off F a (w.setCell ⟨b, i, none⟩ v) := h.set (.inr hb) i v
/-- The tree's length cut, and the last place's index taken away. -/
theorem HB.cut {w : World} {q g x cap xc n : Nat} {u : List En} {ix : Nat → Int} (h : HB w q g x cap xc n u ix) (m : Nat) (hm : u.length = m + 1) (E : En) (hE : en u m = E) :
    HB ((w.setCell ⟨q, 0, none⟩ (.slice (some ⟨g, 0, none⟩) m cap)).setCell ⟨x, E.2, none⟩ (.int .i64 (-1))) q g x cap xc n (u.take m) (fun p => if p = E.2 then -1 else ix p) := by
  obtain ⟨n1, n2, n3⟩ := h.ne
  subst hE
  have hp := (h.agr.1 m (by omega)).1
  refine ⟨?_, ((h.tree.take m).away (Ne.symm n1) _ _).away n3 _ _, (h.index.away (Ne.symm n2) _ _).set hp (-1), h.ne, h.caps, h.agr.drop m hm (fun _ => rfl)⟩
  rw [heap_setO _ _ _ n2, take_len hm]
  have := heap_setC h.own 0 (.slice (some ⟨g, 0, none⟩) m cap)
  simpa using this

set_option maxRecDepth 100000 in
set_option maxHeartbeats 4000000 in
theorem cut_calls {w : World} {q g x cap xc n : Nat} {t : List En} {ix : Nat → Int} (h : HB w q g x cap xc n t ix) (ho : HOrd t) (i : Nat) (hi : i < t.length) :
    Calls Tryz.prog 89 #[.pointer (some ⟨q, 0, none⟩), .int .i64 i] w fun e w' => e = .returned (vE (en t i)) ∧ ∃ t' ix', HB w' q g x cap xc n t' ix' ∧ HOrd t' ∧ (∀ M, Has t M → Has t' (updM M (en t i).2 none)) ∧ Off (Q3 q g x) w w' := by
  have mixed : Tryz.prog.follows .mixedOrders = true := by kernel_rfl
  obtain ⟨m, hm⟩ : ∃ m, t.length = m + 1 := ⟨t.length - 1, by omega⟩
  have hcapn := h.agr.len
  have hn4 := h.caps.2.2.2
  have hcap := h.tree.le
  have HH := Lib.hid h
  have HO := Lib.hid ho
  have HM := Lib.hid hm
  obtain ⟨c0, c1, c2, -⟩ := h.cells
  rw [hm] at c0
  obtain ⟨x0, x1, x2, x3⟩ := h.tree.cell i hi
  obtain ⟨E, hE⟩ : ∃ E, en t i = E := ⟨_, rfl⟩
  rw [hE] at x0 x1 x2 x3 ⊢
  have HE := Lib.hid hE
  have hi1 : (i : Int) < ((m + 1 : Nat) : Int) := by omega
  have lq := h.lt.1
  have lg := h.lt.2.1
  have lx := h.lt.2.2
  have hmc : m ≤ cap := by omega
  have hwm : IntKind.i64.wrap ((m : Int) + 1 - 1) = (m : Int) := by rw [IntKind.wrap_i64]; omega
  have hwm2 : IntKind.i64.wrap (((m + 1 : Nat) : Int) - 1) = (m : Int) := by rw [IntKind.wrap_i64]; omega
  clear h ho hE
  unfold vE
  go_enter Tryz.func89, Tryz.ntmps89
  go_upto_region 1 with fail
  go_cut [5, 6] from 5 to 19 (fun s5 s6 wx => ∃ pb, s5 = .pointer (some ⟨pb, 0, none⟩) ∧ s6 = .int .i64 (m : Int) ∧ BoxE wx pb E ∧ w.heap.size < pb ∧ wx.heap[w.heap.size]? = some (.cells #[.int .i64 0, .int .i64 0, .int .i64 0, .int .i64 0] 117 (0, 0)) ∧ Below w.heap.size w wx)
  case first =>
    go_region
    all_goals
      go_wp2_with fail
      go_meet
      refine ⟨_, rfl, rfl, new_new _ _ _, by omega, new_old _ _ _, ?_⟩
      exact Below.drew (Below.alloc (Below.alloc (Below.refl _ _) (Nat.le_refl _) _) (by simp) _)
  case rest =>
    obtain ⟨pb, rfl, rfl, hpb, hl1, hr, hB1⟩ := hcut
    have HH1 := Lib.hid (HH.out.below hB1)
    have HO1 := Lib.hid (Off.of_below (F := Q3 q g x) hB1)
    have HSw := Lib.hid (swap_calls HH1.out i m hi (by rw [hm]; omega))
    have nB : ¬ Q3 q g x pb := by rintro (c | c | c) <;> omega
    have nR : ¬ Q3 q g x w.heap.size := by rintro (c | c | c) <;> omega
    have HPb := Lib.hid hpb; have HRr := Lib.hid hr
    have HN := Lib.hid (And.intro nB nR)
    have HLs := Lib.hid (And.intro hl1 (show w.heap.size < wc.heap.size from (Array.getElem?_eq_some_iff.1 hr).1))
    clear hpb hr hB1 c0 c1 c2 x0 x1 x2 x3 nB nR
    go_upto_region 3 with (go_at_call 107; refine HSw.out.mono ?_; rintro e w2 ⟨rfl, ix2, hH2, hO2⟩)
    have hu : (swE t i m).length = m + 1 := by rw [swE_len]; exact hm
    obtain ⟨d0, d1, -, df⟩ := hH2.cells
    rw [hu] at d0
    have hEu : en (swE t i m) m = E := by rw [cut_last hm hi]; exact HE.out
    have hPl := (hH2.agr.1 m (by rw [hu]; omega)).1
    rw [hEu] at hPl
    have HPl := Lib.hid hPl
    have yE := hH2.index.cell _ hPl
    have fX := hH2.index.frozen
    have HP2 := Lib.hid (show BoxE w2 pb E from (hO2.block _ (Array.getElem?_eq_some_iff.1 HPb.out).1 HN.out.1).trans HPb.out)
    have HR2 := Lib.hid ((hO2.block _ (Array.getElem?_eq_some_iff.1 HRr.out).1 HN.out.2).trans HRr.out)
    have HC := Lib.hid (hH2.cut m hu E hEu)
    have HO2 := Lib.hid (HO1.out.to hO2)
    have HU := Lib.hid hu
    have HH2 := Lib.hid hH2
    have HEu := Lib.hid hEu
    have hE2 : (E.2 : Int) < (n : Int) := by omega
    have nqx : x ≠ q := hH2.ne.2.1.symm
    have nqx2 : q ≠ x := hH2.ne.2.1
    have pbq : pb ≠ q := by omega
    have pbx : pb ≠ x := by omega
    have qpb : q ≠ pb := by omega
    have xpb : x ≠ pb := by omega
    obtain ⟨p0, p1, p2, p3, -⟩ := HP2.out.cells
    clear hH2 hO2 hu hEu hPl
    go_upto_region 4 with fail
    go_cut [] from 33 to 39 (fun wx => wx = ((w2.setCell ⟨q, 0, none⟩ (.slice (some ⟨g, 0, none⟩) m cap)).setCell ⟨x, E.2, none⟩ (.int .i64 (-1))).drew)
    case first =>
      go_region
      all_goals
        go_wp2_with fail
        go_meet
        rfl
    case rest =>
      have HWd := Lib.hid (show HB wc q g x cap xc n ((swE t i m).take m) (fun p => if p = E.2 then -1 else ix2 p) by rw [hcut]; exact HC.out.drew)
      have HPw := Lib.hid (show BoxE wc pb E by rw [hcut]; exact blk_drew ((heap_setO _ _ _ pbx).trans ((heap_setO _ _ _ pbq).trans HP2.out)))
      have HRw := Lib.hid (show BoxE wc w.heap.size ((0, 0, 0), 0) by rw [hcut]; exact blk_drew ((heap_setO _ _ _ (by omega)).trans ((heap_setO _ _ _ (by omega)).trans HR2.out)))
      have HOw := Lib.hid (show Off (Q3 q g x) w wc by rw [hcut]; exact Off.drew (Off.set (Off.set HO2.out (.inl (.inl rfl)) _ _) (.inl (.inr (.inr rfl))) _ _))
      have HHas := Lib.hid (show ∀ M, Has t M → Has ((swE t i m).take m) (updM M E.2 none) by
        intro M hM
        have := (hM.mem (fun y => swE_mem hi (by omega) y)).drop HH2.out.agr m HU.out
        rwa [HEu.out] at this)
      clear hcut HC HP2 HR2 HO2 p0 p1 p2 p3 d0 d1 df yE fX
      by_cases e : i < m
      · have he : (i : Int) < (m : Int) := by omega
        have HSt := Lib.hid (settle_calls HWd.out i (by rw [take_len HU.out]; exact e) (by rw [cut_mid HM.out e]; exact (HO.out.take m).exc i _ (by rw [take_len HM.out]; exact e)))
        have HN2 := Lib.hid HN.out
        go_wp2_with (first | (go_at_call 112; refine HSt.out.mono ?_; rintro e w3 ⟨rfl, t3, ix3, h3, l3, m3, s3, o3⟩; have H3 := Lib.hid h3; have HM3 := Lib.hid m3; have HO3 := Lib.hid o3; have HS3 := Lib.hid s3; have hp3 : BoxE w3 pb E := (o3.block _ (Array.getElem?_eq_some_iff.1 HPw.out).1 HN2.out.1).trans HPw.out; have hr3 := (o3.block _ (Array.getElem?_eq_some_iff.1 HRw.out).1 HN2.out.2).trans HRw.out; obtain ⟨p0, p1, p2, p3, -⟩ := hp3.cells; obtain ⟨r0, r1, r2, r3, rf⟩ := BoxE.cells (w := w3) (p := w.heap.size) (e := ((0, 0, 0), 0)) hr3; clear h3 l3 m3 s3 o3 hp3 hr3) | fail)
        refine bodyPost_ret (v := .agg #[.int .i64 E.1.1, .int .i64 E.1.2.1, .int .i64 E.1.2.2, .int .i64 (E.2 : Int)]) (by simp [results, Tryz.results89, go_sem, r0, r1, r2, r3]) rfl ⟨rfl, t3, ix3, (((H3.out.away HN2.out.2 _ _).away HN2.out.2 _ _).away HN2.out.2 _ _).away HN2.out.2 _ _, HS3.out, fun M hM => (HHas.out M hM).mem HM3.out, ((((HOw.out.to HO3.out).new (Nat.le_refl _) _ _).new (Nat.le_refl _) _ _).new (Nat.le_refl _) _ _).new (Nat.le_refl _) _ _⟩
      · have he : ¬ (i : Int) < (m : Int) := by omega
        obtain rfl : i = m := by omega
        obtain ⟨p0, p1, p2, p3, -⟩ := HPw.out.cells
        obtain ⟨r0, r1, r2, r3, rf⟩ := HRw.out.cells
        go_wp2_with fail
        refine bodyPost_ret (v := .agg #[.int .i64 E.1.1, .int .i64 E.1.2.1, .int .i64 E.1.2.2, .int .i64 (E.2 : Int)]) (by simp [results, Tryz.results89, go_sem, r0, r1, r2, r3]) rfl ⟨rfl, _, ⟨_, (((HWd.out.away HN.out.2 _ _).away HN.out.2 _ _).away HN.out.2 _ _).away HN.out.2 _ _⟩, by rw [cut_end HM.out]; exact HO.out.take _, HHas.out, (((HOw.out.new (Nat.le_refl _) _ _).new (Nat.le_refl _) _ _).new (Nat.le_refl _) _ _).new (Nat.le_refl _) _ _⟩
end Go.Proofs.YtcjkeobjojmpfaaGreat
end
