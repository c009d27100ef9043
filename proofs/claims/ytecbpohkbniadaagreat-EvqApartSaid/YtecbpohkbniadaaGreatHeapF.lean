/-
  CONTRACT of heap's cut.
-/
import Derived.Test.YtecbpohkbniadaaGreatHeapE
namespace Go.Proofs.YtecbpohkbniadaaGreat
open Go.RowKit Go.Shelf

theorem HOrd.take {t : List En} (h : HOrd t) (m : Nat) : HOrd (t.take m) := fun j h1 h2 => by
  rw [List.length_take] at h2
  rw [en_take _ _ _ (by omega), en_take _ _ _ (by omega)]
  exact h j h1 (by omega)
theorem cut_last {t : List En} {i m : Nat} (hm : t.length = m + 1) (hi : i < t.length) : en (swE t i m) m = en t i := by
  rw [en_sw t hi (by omega), if_pos rfl]
theorem cut_mid {t : List En} {i m : Nat} (hm : t.length = m + 1) (hi : i < m) : (swE t i m).take m = (t.take m).set i (en t m) := by
  refine en_ext (by simp [swE_len]) fun k hk => ?_
  rw [List.length_take, swE_len] at hk
  rw [en_take _ _ _ (by omega), en_sw t (by omega) (by omega), en_set _ _ _ _ (by rw [List.length_take]; omega), if_neg (by omega), en_take _ _ _ (by omega)]
theorem cut_end {t : List En} {m : Nat} (hm : t.length = m + 1) : (swE t m m).take m = t.take m := by
  refine en_ext (by simp [swE_len]) fun k hk => ?_
  rw [List.length_take, swE_len] at hk
  rw [en_take _ _ _ (by omega), en_sw t (by omega) (by omega), en_take _ _ _ (by omega), if_neg (by omega), if_neg (by omega)]
theorem take_len {t : List En} {m : Nat} (hm : t.length = m + 1) : (t.take m).length = m := by rw [List.length_take]; omega
theorem HB.drew {w : World} {q g x cap xc n : Nat} {t : List En} {ix : Nat → Int} (h : HB w q g x cap xc n t ix) : HB w.drew q g x cap xc n t ix := h.keep rfl rfl rfl
/-- Another block's cell stored. -/
theorem HB.away {w : World} {q g x cap xc n : Nat} {t : List En} {ix : Nat → Int} (h : HB w q g x cap xc n t ix) {b : Nat} (hb : ¬ Q3 q g x b) (i : Nat) (v : Value) : HB (w.setCell ⟨b, i, none⟩ v) q g x cap xc n t ix :=
  h.keep (heap_setO _ _ _ fun e => hb (.inl e.symm)) (heap_setO _ _ _ fun e => hb (.inr (.inl e.symm))) (heap_setO _ _ _ fun e => hb (.inr (.inr e.symm)))
theorem Off.new {F : Nat → Prop} {a w : World} (h : Off F a w) {b : Nat} (hb : a.heap.size ≤ b) (i : Nat) (v : Value) : Off F a (w.setCell ⟨b, i, none⟩ v) := h.set (.inr hb) i v
/-- The tree's length cut, and the last place's index taken away. -/
theorem HB.cut {w : World} {q g x cap xc n : Nat} {u : List En} {ix : Nat → Int} (h : HB w q g x cap xc n u ix) (m : Nat) (hm : u.length = m + 1) (E : En) (hE : en u m = E) :
    HB ((w.setCell ⟨q, 0, none⟩ (.slice (some ⟨g, 0, none⟩) m cap)).setCell ⟨x, E.2, none⟩ (.int .i64 (-1))) q g x cap xc n (u.take m) (fun p => if p = E.2 then -1 else ix p) := by
  obtain ⟨n1, n2, n3⟩ := h.ne
  subst hE
  have hp := (h.agr.1 m (by omega)).1
  refine ⟨?_, ((h.tree.take m).away (Ne.symm n1) _ _).away n3 _ _, (h.index.away (Ne.symm n2) _ _).set hp (-1), h.ne, h.caps, h.agr.drop m hm (fun _ => rfl)⟩
  rw [heap_setO _ _ _ n2, take_len hm]
  have := heap_setC h.own 0 (.slice (some ⟨g, 0, none⟩) m cap)
  simpa using this

set_option maxRecDepth 100000 in
set_option maxHeartbeats 4000000 in
theorem cut_calls {w : World} {q g x cap xc n : Nat} {t : List En} {ix : Nat → Int} (h : HB w q g x cap xc n t ix) (ho : HOrd t) (i : Nat) (hi : i < t.length) :
    Calls Tryz.prog 113 #[.pointer (some ⟨q, 0, none⟩), .int .i64 i] w fun e w' => e = .returned (vE (en t i)) ∧ ∃ t' ix', HB w' q g x cap xc n t' ix' ∧ HOrd t' ∧ (∀ M, Has t M → Has t' (updM M (en t i).2 none)) ∧ Off (Q3 q g x) w w' := by
  have mixed : Tryz.prog.follows .mixedOrders = true := by kernel_rfl
  obtain ⟨m, hm⟩ : ∃ m, t.length = m + 1 := ⟨t.length - 1, by omega⟩
  have hcapn := h.agr.len
  have hn4 := h.caps.2.2.2
  have hcap := h.tree.le
  have HH := Lib.hid h
  have HO := Lib.hid ho
  have HM := Lib.hid hm
  obtain ⟨c0, c1, c2, -⟩ := h.cells
  rw [hm] at c0
  obtain ⟨x0, x1, x2, x3⟩ := h.tree.cell i hi
  obtain ⟨E, hE⟩ : ∃ E, en t i = E := ⟨_, rfl⟩
  rw [hE] at x0 x1 x2 x3 ⊢
  have HE := Lib.hid hE
  have hi1 : (i : Int) < ((m + 1 : Nat) : Int) := by omega
  have lq := h.lt.1
  have lg := h.lt.2.1
  have lx := h.lt.2.2
  have hmc : m ≤ cap := by omega
  have hwm : IntKind.i64.wrap ((m : Int) + 1 - 1) = (m : Int) := by rw [IntKind.wrap_i64]; omega
  have hwm2 : IntKind.i64.wrap (((m + 1 : Nat) : Int) - 1) = (m : Int) := by rw [IntKind.wrap_i64]; omega
  clear h ho hE
  unfold vE
  go_enter Tryz.func113, Tryz.ntmps113
  go_upto_region 1 with fail
  go_cut [5, 6] from 5 to 19 (fun s5 s6 wx => ∃ pb, s5 = .pointer (some ⟨pb, 0, none⟩) ∧ s6 = .int .i64 (m : Int) ∧ BoxE wx pb E ∧ w.heap.size < pb ∧ wx.heap[w.heap.size]? = some (.cells #[.int .i64 0, .int .i64 0, .int .i64 0, .int .i64 0] 144 (0, 0)) ∧ Below w.heap.size w wx)
  case first =>
    go_region
    all_goals
      go_wp2_with fail
      go_meet
      refine ⟨_, rfl, rfl, new_new _ _ _, by omega, new_old _ _ _, ?_⟩
      exact Below.drew (Below.alloc (Below.alloc (Below.refl _ _) (Nat.le_refl _) _) (by simp) _)
  case rest =>
    obtain ⟨pb, rfl, rfl, hpb, hl1, hr, hB1⟩ := hcut
    have HH1 := Lib.hid (HH.out.below hB1)
    have HO1 := Lib.hid (Off.of_below (F := Q3 q g x) hB1)
    have HSw := Lib.hid (swap_calls HH1.out i m hi (by rw [hm]; omega))
    have nB : ¬ Q3 q g x pb := by rintro (c | c | c) <;> omega
    have nR : ¬ Q3 q g x w.heap.size := by rintro (c | c | c) <;> omega
    have HPb := Lib.hid hpb; have HRr := Lib.hid hr
    have HN := Lib.hid (And.intro nB nR)
    have HLs := Lib.hid (And.intro hl1 (show w.heap.size < wc.heap.size from (Array.getElem?_eq_some_iff.1 hr).1))
    clear hpb hr hB1 c0 c1 c2 x0 x1 x2 x3 nB nR
    go_upto_region 3 with (go_at_call 131; refine HSw.out.mono ?_; rintro e w2 ⟨rfl, ix2, hH2, hO2⟩)
    have hu : (swE t i m).length = m + 1 := by rw [swE_len]; exact hm
    obtain ⟨d0, d1, -, df⟩ := hH2.cells
    rw [hu] at d0
    have hEu : en (swE t i m) m = E := by rw [cut_last hm hi]; exact HE.out
    have hPl := (hH2.agr.1 m (by rw [hu]; omega)).1
    rw [hEu] at hPl
    have HPl := Lib.hid hPl
    have yE := hH2.index.cell _ hPl
    have fX := hH2.index.frozen
    have HP2 := Lib.hid (show BoxE w2 pb E from (hO2.block _ (Array.getElem?_eq_some_iff.1 HPb.out).1 HN.out.1).trans HPb.out)
    have HR2 := Lib.hid ((hO2.block _ (Array.getElem?_eq_some_iff.1 HRr.out).1 HN.out.2).trans HRr.out)
    have HC := Lib.hid (hH2.cut m hu E hEu)
    have HO2 := Lib.hid (HO1.out.to hO2)
    have HU := Lib.hid hu
    have HH2 := Lib.hid hH2
    have HEu := Lib.hid hEu
    have hE2 : (E.2 : Int) < (n : Int) := by omega
    have nqx : x ≠ q := hH2.ne.2.1.symm
    have nqx2 : q ≠ x := hH2.ne.2.1
    have pbq : pb ≠ q := by omega
    have pbx : pb ≠ x := by omega
    have qpb : q ≠ pb := by omega
    have xpb : x ≠ pb := by omega
    obtain ⟨p0, p1, p2, p3, -⟩ := HP2.out.cells
    clear hH2 hO2 hu hEu hPl
    go_upto_region 4 with fail
    go_cut [] from 33 to 39 (fun wx => wx = ((w2.setCell ⟨q, 0, none⟩ (.slice (some ⟨g, 0, none⟩) m cap)).setCell ⟨x, E.2, none⟩ (.int .i64 (-1))).drew)
    case first =>
      go_region
      all_goals
        go_wp2_with fail
        go_meet
        rfl
    case rest =>
      have HWd := Lib.hid (show HB wc q g x cap xc n ((swE t i m).take m) (fun p => if p = E.2 then -1 else ix2 p) by rw [hcut]; exact HC.out.drew)
      have HPw := Lib.hid (show BoxE wc pb E by rw [hcut]; exact blk_drew ((heap_setO _ _ _ pbx).trans ((heap_setO _ _ _ pbq).trans HP2.out)))
      have HRw := Lib.hid (show BoxE wc w.heap.size ((0, 0, 0), 0) by rw [hcut]; exact blk_drew ((heap_setO _ _ _ (by omega)).trans ((heap_setO _ _ _ (by omega)).trans HR2.out)))
      have HOw := Lib.hid (show Off (Q3 q g x) w wc by rw [hcut]; exact Off.drew (Off.set (Off.set HO2.out (.inl (.inl rfl)) _ _) (.inl (.inr (.inr rfl))) _ _))
      have HHas := Lib.hid (show ∀ M, Has t M → Has ((swE t i m).take m) (updM M E.2 none) by
        intro M hM
        have := (hM.mem (fun y => swE_mem hi (by omega) y)).drop HH2.out.agr m HU.out
        rwa [HEu.out] at this)
      clear hcut HC HP2 HR2 HO2 p0 p1 p2 p3 d0 d1 df yE fX
      by_cases e : i < m
      · have he : (i : Int) < (m : Int) := by omega
        have HSt := Lib.hid (settle_calls HWd.out i (by rw [take_len HU.out]; exact e) (by rw [cut_mid HM.out e]; exact (HO.out.take m).exc i _ (by rw [take_len HM.out]; exact e)))
        have HN2 := Lib.hid HN.out
        go_wp2_with (first | (go_at_call 136; refine HSt.out.mono ?_; rintro e w3 ⟨rfl, t3, ix3, h3, l3, m3, s3, o3⟩; have H3 := Lib.hid h3; have HM3 := Lib.hid m3; have HO3 := Lib.hid o3; have HS3 := Lib.hid s3; have hp3 : BoxE w3 pb E := (o3.block _ (Array.getElem?_eq_some_iff.1 HPw.out).1 HN2.out.1).trans HPw.out; have hr3 := (o3.block _ (Array.getElem?_eq_some_iff.1 HRw.out).1 HN2.out.2).trans HRw.out; obtain ⟨p0, p1, p2, p3, -⟩ := hp3.cells; obtain ⟨r0, r1, r2, r3, rf⟩ := BoxE.cells (w := w3) (p := w.heap.size) (e := ((0, 0, 0), 0)) hr3; clear h3 l3 m3 s3 o3 hp3 hr3) | fail)
        refine bodyPost_ret (v := .agg #[.int .i64 E.1.1, .int .i64 E.1.2.1, .int .i64 E.1.2.2, .int .i64 (E.2 : Int)]) (by simp [results, Tryz.results113, go_sem, r0, r1, r2, r3]) rfl ⟨rfl, t3, ix3, (((H3.out.away HN2.out.2 _ _).away HN2.out.2 _ _).away HN2.out.2 _ _).away HN2.out.2 _ _, HS3.out, fun M hM => (HHas.out M hM).mem HM3.out, ((((HOw.out.to HO3.out).new (Nat.le_refl _) _ _).new (Nat.le_refl _) _ _).new (Nat.le_refl _) _ _).new (Nat.le_refl _) _ _⟩
      · have he : ¬ (i : Int) < (m : Int) := by omega
        obtain rfl : i = m := by omega
        obtain ⟨p0, p1, p2, p3, -⟩ := HPw.out.cells
        obtain ⟨r0, r1, r2, r3, rf⟩ := HRw.out.cells
        go_wp2_with fail
        refine bodyPost_ret (v := .agg #[.int .i64 E.1.1, .int .i64 E.1.2.1, .int .i64 E.1.2.2, .int .i64 (E.2 : Int)]) (by simp [results, Tryz.results113, go_sem, r0, r1, r2, r3]) rfl ⟨rfl, _, ⟨_, (((HWd.out.away HN.out.2 _ _).away HN.out.2 _ _).away HN.out.2 _ _).away HN.out.2 _ _⟩, by rw [cut_end HM.out]; exact HO.out.take _, HHas.out, (((HOw.out.new (Nat.le_refl _) _ _).new (Nat.le_refl _) _ _).new (Nat.le_refl _) _ _).new (Nat.le_refl _) _ _⟩
end Go.Proofs.YtecbpohkbniadaaGreat
