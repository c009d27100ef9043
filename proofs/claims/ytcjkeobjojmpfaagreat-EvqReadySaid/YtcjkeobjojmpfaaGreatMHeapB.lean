import Derived.Test.YtcjkeobjojmpfaaGreatMHeapA
import Derived.Deep.Cut
import Derived.Deep.DeepCutAuto
/-
  CONTRACTS of heap's is, find, swap.
-/
namespace Go.Proofs.YtcjkeobjojmpfaaGreat
open Go.RowKit

/-- THE BLOCK q IS A HEAP's, with the values tv and iv. -/
abbrev Own (w : World) (q : Nat) (tv iv : Value) : Prop := w.heap[q]? = some (.cells #[tv, iv, .bool true] 120 (0, 0))
theorem own_cells {w : World} {q : Nat} {tv iv : Value} (s : Own w q tv iv) : w.cell? ⟨q, 0, none⟩ = some tv ∧ w.cell? ⟨q, 1, none⟩ = some iv ∧ w.cell? ⟨q, 2, none⟩ = some (.bool true) ∧ ∀ i, w.frozen? ⟨q, i, none⟩ = false :=
  ⟨by simp [World.cell?, s], by simp [World.cell?, s], by simp [World.cell?, s], fun i => by simp [World.frozen?, s]⟩
set_option maxHeartbeats 1000000 in
theorem is_calls {w : World} {q : Nat} {tv iv : Value} (s : Own w q tv iv) :
    Calls Tryz.prog 83 #[.pointer (some ⟨q, 0, none⟩)] w fun e w' => e = .returned (.bool true) ∧ w = w' := by
  obtain ⟨c0, c1, c2, f⟩ := own_cells s
  clear f s
  go_enter Tryz.func83, Tryz.ntmps83
  go_wp2
  go_ret
  exact ⟨rfl, rfl⟩
set_option maxHeartbeats 1000000 in
theorem find_out {w : World} {q x n xc : Nat} {tv : Value} (s : Own w q tv (.slice (some ⟨x, 0, none⟩) n xc)) (p : Int) (hp : p < 0 ∨ (n : Int) ≤ p) :
    Calls Tryz.prog 81 #[.pointer (some ⟨q, 0, none⟩), .int .i64 p] w fun e w' => e = .returned (.tuple #[.int .i64 0, .int .i64 80]) ∧ w = w' := by
  obtain ⟨c0, c1, c2, f⟩ := own_cells s
  have HI := Lib.hid (is_calls s)
  clear f s c0 c2
  rcases hp with hp | hp
  · go_enter Tryz.func81, Tryz.ntmps81
    go_wp2_with (first | (go_at_call 83; refine HI.out.mono ?_; rintro e w' ⟨rfl, rfl⟩) | fail)
    go_ret2
    exact ⟨rfl, rfl⟩
  · have h1 : ¬ p < 0 := by omega
    have h2 : p ≥ (n : Int) := hp
    go_enter Tryz.func81, Tryz.ntmps81
    go_wp2_with (first | (go_at_call 83; refine HI.out.mono ?_; rintro e w' ⟨rfl, rfl⟩) | fail)
    go_ret2
    exact ⟨rfl, rfl⟩
set_option maxHeartbeats 1000000 in
theorem find_none {w : World} {q x n xc : Nat} {tv : Value} {ix : Nat → Int} (s : Own w q tv (.slice (some ⟨x, 0, none⟩) n xc)) (hx : XRow w x n ix) (p : Nat) (hp : p < n) (hi : ix p = -1) :
    Calls Tryz.prog 81 #[.pointer (some ⟨q, 0, none⟩), .int .i64 p] w fun e w' => e = .returned (.tuple #[.int .i64 0, .int .i64 6]) ∧ w = w' := by
  obtain ⟨c0, c1, c2, f⟩ := own_cells s
  have HI := Lib.hid (is_calls s)
  have cx : w.cell? ⟨x, p, none⟩ = some (.int .i64 (-1)) := by rw [hx.cell p hp, hi]
  have h1 : ¬ (p : Int) < 0 := by omega
  have h2 : ¬ (p : Int) ≥ (n : Int) := by omega
  have h3 : (p : Int) < (n : Int) := by omega
  clear f s c0 c2 hx hi
  go_enter Tryz.func81, Tryz.ntmps81
  go_wp2_with (first | (go_at_call 83; refine HI.out.mono ?_; rintro e w' ⟨rfl, rfl⟩) | fail)
  go_ret2
  exact ⟨rfl, rfl⟩
set_option maxHeartbeats 1000000 in
theorem find_ok {w : World} {q x n xc : Nat} {tv : Value} {ix : Nat → Int} (s : Own w q tv (.slice (some ⟨x, 0, none⟩) n xc)) (hx : XRow w x n ix) (p : Nat) (hp : p < n) (i : Nat) (hi : ix p = i) :
    Calls Tryz.prog 81 #[.pointer (some ⟨q, 0, none⟩), .int .i64 p] w fun e w' => e = .returned (.tuple #[.int .i64 i, .int .i64 0]) ∧ w = w' := by
  obtain ⟨c0, c1, c2, f⟩ := own_cells s
  have HI := Lib.hid (is_calls s)
  have cx : w.cell? ⟨x, p, none⟩ = some (.int .i64 i) := by rw [hx.cell p hp, hi]
  have h1 : ¬ (p : Int) < 0 := by omega
  have h2 : ¬ (p : Int) ≥ (n : Int) := by omega
  have h3 : (p : Int) < (n : Int) := by omega
  have h4 : ((i : Int) == -1) = false := by rw [beq_eq_false_iff_ne]; omega
  clear f s c0 c2 hx hi
  go_enter Tryz.func81, Tryz.ntmps81
  go_wp2_with (first | (go_at_call 83; refine HI.out.mono ?_; rintro e w' ⟨rfl, rfl⟩) | fail)
  go_ret2
  exact ⟨rfl, rfl⟩
theorem ERow.drew {w : World} {g cap : Nat} {t : List En} (h : ERow w g cap t) : ERow w.drew g cap t := h.keep rfl
theorem XRow.drew {w : World} {g n : Nat} {ix : Nat → Int} (h : XRow w g n ix) : XRow w.drew g n ix := h.keep rfl
theorem ERow.away {w : World} {g cap : Nat} {t : List En} (h : ERow w g cap t) {b : Nat} (hb : g ≠ b) (i : Nat) (v : Value) : ERow (w.setCell ⟨b, i, none⟩ v) g cap t := h.keep (heap_setO w i v hb)
theorem XRow.away {w : World} {g n : Nat} {ix : Nat → Int} (h : XRow w g n ix) {b : Nat} (hb : g ≠ b) (i : Nat) (v : Value) : XRow (w.setCell ⟨b, i, none⟩ v) g n ix := h.keep (heap_setO w i v hb)
theorem new_old (w : World) (o1 o2 : Obj) : ((w.alloc o1).alloc o2).drew.heap[w.heap.size]? = some o1 := by
  show ((w.heap.push o1).push o2)[w.heap.size]? = _
  rw [Array.getElem?_push, if_neg (by simp), Array.getElem?_push, if_pos rfl]
theorem new_new (w : World) (o1 o2 : Obj) : ((w.alloc o1).alloc o2).drew.heap[w.heap.size + 1]? = some o2 := by
  show ((w.heap.push o1).push o2)[w.heap.size + 1]? = _
  rw [Array.getElem?_push, if_pos (by simp)]
theorem blk_drew {w : World} {b : Nat} {o : Option Obj} (h : w.heap[b]? = o) : w.drew.heap[b]? = o := h
/-- The tree's two stores. -/
theorem ERow.sw {w : World} {g cap : Nat} {t : List En} (h : ERow w g cap t) {i j : Nat} (hi : i < t.length) (hj : j < t.length) (A B : En) (hA : en t i = A) (hB : en t j = B) :
    ERow ((((((((w.setCell ⟨g, i * 4, none⟩ (.int .i64 B.1.1)).setCell ⟨g, i * 4 + 1, none⟩ (.int .i64 B.1.2.1)).setCell ⟨g, i * 4 + 2, none⟩ (.int .i64 B.1.2.2)).setCell ⟨g, i * 4 + 3, none⟩ (.int .i64 (B.2 : Int))).setCell ⟨g, j * 4, none⟩ (.int .i64 A.1.1)).setCell ⟨g, j * 4 + 1, none⟩ (.int .i64 A.1.2.1)).setCell ⟨g, j * 4 + 2, none⟩ (.int .i64 A.1.2.2)).setCell ⟨g, j * 4 + 3, none⟩ (.int .i64 (A.2 : Int))) g cap (swE t i j) := by
  have := (h.set hi B).set (i := j) (by rw [List.length_set]; exact hj) A
  unfold swE
  rw [hA, hB]
  exact this
/-- What another block's eight stores leave. -/
theorem eight (w : World) {b g : Nat} (h : b ≠ g) (i0 i1 i2 i3 i4 i5 i6 i7 : Nat) (v0 v1 v2 v3 v4 v5 v6 v7 : Value) :
    ((((((((w.setCell ⟨g, i0, none⟩ v0).setCell ⟨g, i1, none⟩ v1).setCell ⟨g, i2, none⟩ v2).setCell ⟨g, i3, none⟩ v3).setCell ⟨g, i4, none⟩ v4).setCell ⟨g, i5, none⟩ v5).setCell ⟨g, i6, none⟩ v6).setCell ⟨g, i7, none⟩ v7).heap[b]? = w.heap[b]? := by
  rw [heap_setO _ _ _ h, heap_setO _ _ _ h, heap_setO _ _ _ h, heap_setO _ _ _ h, heap_setO _ _ _ h, heap_setO _ _ _ h, heap_setO _ _ _ h, heap_setO _ _ _ h]
/-- THE BLOCK p IS A BOX with the entry e. -/
abbrev BoxE (w : World) (p : Nat) (e : En) : Prop := w.heap[p]? = some (.cells #[.int .i64 e.1.1, .int .i64 e.1.2.1, .int .i64 e.1.2.2, .int .i64 (e.2 : Int)] 117 (0, 0))
theorem BoxE.cells {w : World} {p : Nat} {e : En} (h : BoxE w p e) : w.cell? ⟨p, 0, none⟩ = some (.int .i64 e.1.1) ∧ w.cell? ⟨p, 1, none⟩ = some (.int .i64 e.1.2.1) ∧ w.cell? ⟨p, 2, none⟩ = some (.int .i64 e.1.2.2) ∧ w.cell? ⟨p, 3, none⟩ = some (.int .i64 (e.2 : Int)) ∧ ∀ i, w.frozen? ⟨p, i, none⟩ = false :=
  ⟨by simp [World.cell?, h], by simp [World.cell?, h], by simp [World.cell?, h], by simp [World.cell?, h], fun i => by simp [World.frozen?, h]⟩
set_option maxRecDepth 100000 in
set_option maxHeartbeats 4000000 in
theorem swap_calls {w : World} {q g x cap xc n : Nat} {t : List En} {ix : Nat → Int} (h : HB w q g x cap xc n t ix) (i j : Nat) (hi : i < t.length) (hj : j < t.length) :
    Calls Tryz.prog 107 #[.pointer (some ⟨q, 0, none⟩), .int .i64 i, .int .i64 j] w fun e w' => e = .returned (.tuple #[]) ∧ ∃ ix', HB w' q g x cap xc n (swE t i j) ix' ∧ Off (Q3 q g x) w w' := by
  have mixed : Tryz.prog.follows .mixedOrders = true := by kernel_rfl
  obtain ⟨c0, c1, c2, f⟩ := h.cells
  obtain ⟨xi0, xi1, xi2, xi3⟩ := h.tree.cell i hi
  obtain ⟨xj0, xj1, xj2, xj3⟩ := h.tree.cell j hj
  obtain ⟨n1, n2, n3⟩ := h.ne
  obtain ⟨l1, l2, l3⟩ := h.lt
  obtain ⟨a1, a2⟩ := h.agr.1 i hi
  obtain ⟨b1, b2⟩ := h.agr.1 j hj
  have HH := Lib.hid h
  have ya := h.index.cell _ a1
  have yb := h.index.cell _ b1
  obtain ⟨A, hA⟩ : ∃ A, en t i = A := ⟨_, rfl⟩
  obtain ⟨B, hB⟩ : ∃ B, en t j = B := ⟨_, rfl⟩
  rw [hA] at xi0 xi1 xi2 xi3 a1 ya
  rw [hB] at xj0 xj1 xj2 xj3 b1 yb
  have hi1 : (i : Int) < (t.length : Int) := by omega
  have hj1 : (j : Int) < (t.length : Int) := by omega
  have ha1 : (A.2 : Int) < (n : Int) := by omega
  have hb1 : (B.2 : Int) < (n : Int) := by omega
  have HA := Lib.hid hA
  have HBb := Lib.hid hB
  clear h hA hB a2 b2 ya yb f c1 c2
  go_enter Tryz.func107, Tryz.ntmps107
  go_upto_region 0 with fail
  go_cut [6, 7] from 6 to 21 (fun s6 s7 wx => ∃ pa pb, s6 = .pointer (some ⟨pa, 0, none⟩) ∧ s7 = .pointer (some ⟨pb, 0, none⟩) ∧ BoxE wx pa A ∧ BoxE wx pb B ∧ (w.heap.size ≤ pa ∧ w.heap.size ≤ pb) ∧ Below w.heap.size w wx)
  case first =>
    go_region
    all_goals
      go_wp2_with fail
      go_meet
      refine ⟨_, _, rfl, rfl, by first | exact new_old _ _ _ | exact new_new _ _ _, by first | exact new_old _ _ _ | exact new_new _ _ _, ⟨by omega, by omega⟩, ?_⟩
      refine Below.drew (Below.alloc (Below.alloc (Below.refl _ _) (Nat.le_refl _) _) (by simp) _)
  case rest =>
    obtain ⟨pa, pb, rfl, rfl, hpa, hpb, ⟨hl1, hl2⟩, hB1⟩ := hcut
    have HA1 := Lib.hid hpa
    have HB1x := Lib.hid hpb
    obtain ⟨p0, p1, p2, p3, -⟩ := hpa.cells
    obtain ⟨r0, r1, r2, r3, -⟩ := hpb.cells
    have k0 := (cell_blk (hB1.block _ l1) 0).trans c0
    have HH1 := Lib.hid (HH.out.below hB1)
    have HO1 := Lib.hid (Off.of_below (F := Q3 q g x) hB1)
    obtain ⟨y0, y1, y2, y3⟩ := HH1.out.tree.cell i hi
    obtain ⟨z0, z1, z2, z3⟩ := HH1.out.tree.cell j hj
    have fg := HH1.out.tree.frozen
    rw [HA.out] at y0 y1 y2 y3
    rw [HBb.out] at z0 z1 z2 z3
    clear xi0 xi1 xi2 xi3 xj0 xj1 xj2 xj3 c0 hB1 hpa hpb
    go_upto_region 1 with fail
    go_cut [] from 22 to 35 (fun wx => ERow wx g cap (swE t i j) ∧ XRow wx x n ix ∧ Own wx q (.slice (some ⟨g, 0, none⟩) t.length cap) (.slice (some ⟨x, 0, none⟩) n xc) ∧ BoxE wx pa A ∧ BoxE wx pb B ∧ Off (Q3 q g x) w wx)
    case first =>
      have HE := Lib.hid (ERow.sw HH1.out.tree hi hj A B HA.out HBb.out)
      have n1' := Lib.hid n1; have n3' := Lib.hid n3.symm; have HX := Lib.hid HH1.out.index; have HQ := Lib.hid HH1.out.own
      have npa := Lib.hid (show pa ≠ g by omega)
      have npb := Lib.hid (show pb ≠ g by omega)
      clear p0 p1 p2 p3 r0 r1 r2 r3
      obtain ⟨p0, p1, p2, p3, -⟩ := HA1.out.cells
      obtain ⟨r0, r1, r2, r3, -⟩ := HB1x.out.cells
      have mpa := npa.out
      have mpb := npb.out
      have mga := npa.out.symm
      have mgb := npb.out.symm
      clear n1 n2 n3 l1 l2 l3 a1 b1 ha1 hb1 hl1 hl2
      by_cases e : i = j
      · subst e
        have hAB : A = B := HA.out.symm.trans HBb.out
        subst hAB
        clear z0 z1 z2 z3 hj hj1
        go_region
        all_goals
          go_wp2_with fail
          go_meet
          refine ⟨HE.out.drew, (HX.out.keep (eight _ n3'.out _ _ _ _ _ _ _ _ _ _ _ _ _ _ _ _)).drew, blk_drew ((eight _ n1'.out _ _ _ _ _ _ _ _ _ _ _ _ _ _ _ _).trans HQ.out), blk_drew ((eight _ npa.out _ _ _ _ _ _ _ _ _ _ _ _ _ _ _ _).trans HA1.out), blk_drew ((eight _ npb.out _ _ _ _ _ _ _ _ _ _ _ _ _ _ _ _).trans HB1x.out), ?_⟩
          refine Off.drew ?_
          repeat' (refine Off.set ?_ (.inl (.inr (.inl rfl))) _ _)
          exact HO1.out
      · have e1 : j ≠ i := fun q => e q.symm
        have e2 : i * 4 ≠ j * 4 := by omega
        have e3 : j * 4 ≠ i * 4 := by omega
        have d1 : j * 4 ≠ i * 4 + 1 := by omega
        have d2 : j * 4 ≠ i * 4 + 2 := by omega
        have d3 : j * 4 ≠ i * 4 + 3 := by omega
        have d4 : j * 4 + 1 ≠ i * 4 := by omega
        have d5 : j * 4 + 1 ≠ i * 4 + 2 := by omega
        have d6 : j * 4 + 1 ≠ i * 4 + 3 := by omega
        have d7 : j * 4 + 2 ≠ i * 4 := by omega
        have d8 : j * 4 + 2 ≠ i * 4 + 1 := by omega
        have d9 : j * 4 + 2 ≠ i * 4 + 3 := by omega
        have f7 : j * 4 + 3 ≠ i * 4 := by omega
        have f8 : j * 4 + 3 ≠ i * 4 + 1 := by omega
        have f9 : j * 4 + 3 ≠ i * 4 + 2 := by omega
        go_region
        all_goals
          go_wp2_with fail
          go_meet
          refine ⟨HE.out.drew, (HX.out.keep (eight _ n3'.out _ _ _ _ _ _ _ _ _ _ _ _ _ _ _ _)).drew, blk_drew ((eight _ n1'.out _ _ _ _ _ _ _ _ _ _ _ _ _ _ _ _).trans HQ.out), blk_drew ((eight _ npa.out _ _ _ _ _ _ _ _ _ _ _ _ _ _ _ _).trans HA1.out), blk_drew ((eight _ npb.out _ _ _ _ _ _ _ _ _ _ _ _ _ _ _ _).trans HB1x.out), ?_⟩
          refine Off.drew ?_
          repeat' (refine Off.set ?_ (.inl (.inr (.inl rfl))) _ _)
          exact HO1.out
    case rest =>
      obtain ⟨hE, hX, hQ, hpa, hpb, hO⟩ := hcut
      have HE := Lib.hid hE
      have HX := Lib.hid hX
      have HQ := Lib.hid hQ
      have HO := Lib.hid hO
      obtain ⟨-, k1, -, -⟩ := own_cells hQ
      obtain ⟨-, -, -, p3', -⟩ := hpa.cells
      obtain ⟨-, -, -, r3', -⟩ := hpb.cells
      have ya := hX.cell _ a1
      have yb := hX.cell _ b1
      have fx := hX.frozen
      have HN := Lib.hid (And.intro n2 n3)
      have xa : pa ≠ x := by omega
      have xb : pb ≠ x := by omega
      have xa' : x ≠ pa := by omega
      have xb' : x ≠ pb := by omega
      clear p0 p1 p2 p3 r0 r1 r2 r3 y0 y1 y2 y3 z0 z1 z2 z3 k0 fg hE hX hQ hpa hpb hO n1 n2 n3 l1 l2 l3 hl1 hl2
      have hinj := Lib.hid (fun q => HH.out.agr.inj hi hj q)
      have fin := Lib.hid (show ∀ W : World, W.heap[q]? = wc.heap[q]? → ERow W g cap (swE t i j) → XRow W x n (fun p => if p = B.2 then (i : Int) else if p = A.2 then (j : Int) else ix p) → HB W q g x cap xc n (swE t i j) (fun p => if p = B.2 then (i : Int) else if p = A.2 then (j : Int) else ix p) by
        intro W h1 h2 h3
        refine ⟨?_, h2, h3, HH.out.ne, HH.out.caps, HH.out.agr.sw hi hj (fun p => by rw [HA.out, HBb.out])⟩
        rw [swE_len, h1]
        exact HQ.out)
      have HS := Lib.hid ((HX.out.set a1 (j : Int)).set b1 (i : Int))
      have hxg := Lib.hid HN.out.2
      have hxq := Lib.hid HN.out.1
      by_cases e : A.2 = B.2
      · obtain ⟨D, hD⟩ : ∃ D, B.2 = D := ⟨_, rfl⟩
        rw [hD] at e yb HS fin r3' b1 hb1
        rw [e] at ya HS fin p3'
        have HD := Lib.hid (And.intro e hD)
        clear a1 ha1 ya e hD
        go_wp2_with fail
        go_region
        all_goals
          go_wp2_with fail
          go_end0
          refine ⟨rfl, _, fin.out _ (blk_drew (by rw [heap_setO _ _ _ hxq.out, heap_setO _ _ _ hxq.out])) (((HE.out.away hxg.out _ _).away hxg.out _ _).drew) HS.out.drew, ?_⟩
          exact Off.drew (Off.set (Off.set HO.out (.inl (.inr (.inr rfl))) _ _) (.inl (.inr (.inr rfl))) _ _)
      · have m2 : ¬ B.2 = A.2 := fun q => e q.symm
        go_wp2_with fail
        go_region
        all_goals
          go_wp2_with fail
          go_end0
          refine ⟨rfl, _, fin.out _ (blk_drew (by rw [heap_setO _ _ _ hxq.out, heap_setO _ _ _ hxq.out])) (((HE.out.away hxg.out _ _).away hxg.out _ _).drew) HS.out.drew, ?_⟩
          exact Off.drew (Off.set (Off.set HO.out (.inl (.inr (.inr rfl))) _ _) (.inl (.inr (.inr rfl))) _ _)
end Go.Proofs.YtcjkeobjojmpfaaGreat
