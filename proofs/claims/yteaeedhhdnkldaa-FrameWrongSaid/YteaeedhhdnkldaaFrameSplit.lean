/-
  CONTRACT of frame.Split: the bodies of bytes as frames, each with memory of its own, how many bytes these frames have, and what is wrong with the rest; nothing that was there is written.
-/
import Derived.Test.YteaeedhhdnkldaaMat
import Derived.BigRegionIn
namespace Go.Proofs.Yteaeedhhdnkldaa
open Go.RowKit Go.Shelf Pl

attribute [local go_sem] Oper.semAt_some

/-- Where the last frame ends. -/
def lastE (l : List Bl) : Nat := (l.getLast?.map (·.1)).getD 0
def splS (bs : List Nat) : Nat := lastE (frq bs)
def splB (bs : List Nat) : List (List Nat) := (frq bs).map (·.2)
def splE (bs : List Nat) : Nat := if splS bs = bs.length then 0 else ferr (bs.drop (splS bs))
theorem frA_ends (n : Nat) : ∀ (a : Nat) (l : List Nat), l.length ≤ n → ∀ p ∈ frA a l, p.1 ≤ a + l.length := by
  induction n with
  | zero => intro a l h p hp; have : l = [] := List.eq_nil_of_length_eq_zero (by omega); subst this; rw [frA_end a (by rw [ferr_nil]; decide)] at hp; simp at hp
  | succ n ih =>
    intro a l h p hp
    by_cases he : ferr l = 0
    · have h3 := fsize_pos he
      have h4 := fsize_le (l := l)
      rw [frA_step a he] at hp
      rcases List.mem_cons.1 hp with rfl | hp
      · dsimp only; omega
      · have := ih (a + fsize l) (l.drop (fsize l)) (by rw [List.length_drop]; omega) p hp
        rw [List.length_drop] at this
        omega
    · rw [frA_end a he] at hp; simp at hp
theorem splS_le (bs : List Nat) : splS bs ≤ bs.length := by
  unfold splS lastE
  cases h : (frq bs).getLast? with
  | none => simp
  | some p => have := frA_ends _ 0 bs (Nat.le_refl _) p (List.mem_of_getLast? h); simp; omega
theorem lastE_snoc (l : List Bl) (p : Bl) : lastE (l ++ [p]) = p.1 := by simp [lastE]

/-- What Split's loop keeps. -/
def SpI (w : World) (sv : Value) {w0 : World} (pre : List (Yb w0)) (W : World) : Prop :=
  Boxed W (w.heap.size + 2) 22 sv ∧ Boxed W (w.heap.size + 1) 3 (.int .i64 (lastE (pre.map Yb.bl) : Nat)) ∧ ∃ v, Boxed W w.heap.size 45 v ∧ MOwn W w.heap.size v (pre.map fun x => x.1.2.2) ∧ v.ownBlock ≠ some (w.heap.size + 2)
theorem spI_own (w : World) (sv : Value) {w0 : World} : Own (SpI w sv (w0 := w0)) := by
  rintro s A B row ⟨h1, h2, v, h7, h8, h9⟩ hg hr
  exact ⟨cells_keep h1 hg hr, cells_keep h2 hg hr, v, cells_keep h7 hg hr, h8.own hg hr, h9⟩
theorem Yb.open {w0 : World} (x : Yb w0) : ∃ en a2 c2 fbs, x.1 = (en, .slice a2 fbs.length c2, fbs) ∧ en ≤ 1000000 ∧ fbs.length ≤ 16384 ∧ BRow w0 (.slice a2 fbs.length c2) fbs := by
  obtain ⟨⟨en, vv, fbs⟩, hx1, hx3, hx4⟩ := x
  dsimp only at hx1 hx3 hx4
  obtain ⟨a2, c2, rfl⟩ := hx4.shape
  exact ⟨en, a2, c2, fbs, rfl, hx1, hx3, hx4⟩
theorem frames_stops (n : Nat) (hn : 1 ≤ n) (Bs : Nat) (sv : Value) (bs : List Nat) (w0 : World) (hrow : BRow w0 sv bs) (hlen : bs.length ≤ 1000000) (w : World) (hB : Below w0.heap.size w0 w) (hbox : Boxed w Bs 22 sv) :
    SeqStopsK Fence.wide n Try.prog 132 #[.pointer (some ⟨Bs, 0, none⟩)] (encB (w0 := w0)) (KpB w0.heap.size Bs) (fun ys => ys.map Yb.bl = frq bs) (fun pre => pre.map Yb.bl <+: frq bs) (frq bs).length w := fun l J Jx W hW hJ _ hY h0 =>
  frames1_in n hn l Bs sv bs w0 hrow hlen J Jx W hJ hY (hB.trans (hW.mono hB.size)) ((hW.block Bs hbox.lt).trans hbox) h0

/-- What a round of Split's loop leaves. -/
theorem m_end {w W w4 W5 : World} {sv v v' u : Value} {L : List (List Nat)} {V : List Value} {fbs : List Nat} {e0 : Int} {B0 : Nat} (hB : Below w.heap.size w W) (I1 : Boxed W (w.heap.size + 1) 3 (.int .i64 e0)) (I2 : Boxed W (w.heap.size + 2) 22 sv) (H0 : Boxed W w.heap.size 45 v)
    (hV2 : W.ownsRow w.heap.size 22 1 v L.length V) (hV : MVal W w.heap.size V L) (hb4 : Below W.drew.heap.size W.drew w4) (ho5 : Own8 w4 W.drew.heap.size u fbs) {tmp : Obj} (hgrow : (w4.alloc tmp).grownBy W5 v.ownBlock) (hown' : W5.ownsRow w.heap.size 22 1 v' (L.length + 1) (V ++ [u])) (hne : v.ownBlock ≠ some (w.heap.size + 2)) (hat : v'.ownBlock = v.ownBlock ∨ v'.ownBlock = some (w4.alloc tmp).heap.size) (e : Int) :
    Boxed W5 w.heap.size 45 v ∧ Boxed (W5.setCell ⟨w.heap.size, 0, none⟩ v') (w.heap.size + 1) 3 (.int .i64 e0) ∧ KeepsFrom B0 W ((W5.setCell ⟨w.heap.size, 0, none⟩ v').setCell ⟨w.heap.size + 1, 0, none⟩ (.int .i64 e)) ∧ KpB w.heap.size (w.heap.size + 2) W ((W5.setCell ⟨w.heap.size, 0, none⟩ v').setCell ⟨w.heap.size + 1, 0, none⟩ (.int .i64 e)) ∧
    (Boxed ((W5.setCell ⟨w.heap.size, 0, none⟩ v').setCell ⟨w.heap.size + 1, 0, none⟩ (.int .i64 e)) (w.heap.size + 2) 22 sv ∧ Boxed ((W5.setCell ⟨w.heap.size, 0, none⟩ v').setCell ⟨w.heap.size + 1, 0, none⟩ (.int .i64 e)) (w.heap.size + 1) 3 (.int .i64 e) ∧ ∃ v, Boxed ((W5.setCell ⟨w.heap.size, 0, none⟩ v').setCell ⟨w.heap.size + 1, 0, none⟩ (.int .i64 e)) w.heap.size 45 v ∧ MOwn ((W5.setCell ⟨w.heap.size, 0, none⟩ v').setCell ⟨w.heap.size + 1, 0, none⟩ (.int .i64 e)) w.heap.size v (L ++ [fbs]) ∧ v.ownBlock ≠ some (w.heap.size + 2)) ∧
    Below w.heap.size w ((W5.setCell ⟨w.heap.size, 0, none⟩ v').setCell ⟨w.heap.size + 1, 0, none⟩ (.int .i64 e)) := by
  have hbW4 : Below W.heap.size W w4 := ((Below.refl _ W).drew).trans hb4
  have hw4 : w.heap.size ≤ w4.heap.size := Nat.le_trans hB.size hbW4.size
  have K0 : Boxed w4 w.heap.size 45 v := (hbW4.block _ H0.lt).trans H0
  have hR4 := ownsRow_below hV2 hbW4
  have hV4 := hV.below hbW4
  obtain ⟨q1, q2, q3, q4, q5⟩ := K0.appended (by decide) hR4 hw4 (by omega) hown' hgrow
  have hM5 : MVal W5 w.heap.size (V ++ [u]) (L ++ [fbs]) := hV4.snoc hR4 (own_base ho5 hB.size) hgrow hV.lt (fun k hk => (ho5.lt k hk).1)
  have hM6 : MVal (W5.setCell ⟨w.heap.size, 0, none⟩ v') w.heap.size (V ++ [u]) (L ++ [fbs]) := hM5.keep (grownBy_setCell' _ _ _) fun r c t e hh => by
    cases e; rw [show W5.heap[w.heap.size]? = _ from q1] at hh; cases hh; decide
  have box : ∀ (b : Nat) (t : TypeId) (x : Value), Boxed W b t x → Boxed w4 b t x := fun b t x hb => (hbW4.block b hb.lt).trans hb
  have k1 : Boxed (W5.setCell ⟨w.heap.size, 0, none⟩ v') (w.heap.size + 1) 3 (.int .i64 e0) := boxed_other (box _ _ _ I1) (by decide) hR4 hgrow (by omega)
  have k2 : Boxed (W5.setCell ⟨w.heap.size, 0, none⟩ v') (w.heap.size + 2) 22 sv :=
    (((box _ _ _ I2).alloc tmp).kept hgrow (fun e => hne e.symm)).other (by omega) v'
  have hM7 : MVal ((W5.setCell ⟨w.heap.size, 0, none⟩ v').setCell ⟨w.heap.size + 1, 0, none⟩ (.int .i64 e)) w.heap.size (V ++ [u]) (L ++ [fbs]) := hM6.keep (grownBy_setCell' _ _ _) fun r c t e hh => by
    cases e; rw [show (W5.setCell ⟨w.heap.size, 0, none⟩ v').heap[w.heap.size + 1]? = _ from k1] at hh; cases hh; decide
  have hR7 : ((W5.setCell ⟨w.heap.size, 0, none⟩ v').setCell ⟨w.heap.size + 1, 0, none⟩ (.int .i64 e)).ownsRow w.heap.size 22 1 v' (L.length + 1) (V ++ [u]) := q3.kept (grownBy_setCell' _ _ _) (.inr (k1.not_row (by decide) q3).symm)
  have kp : KeepsOthers W ((W5.setCell ⟨w.heap.size, 0, none⟩ v').setCell ⟨w.heap.size + 1, 0, none⟩ (.int .i64 e)) := by
    have k2 : KeepsOthers W.drew w4 := KeepsOthers.of_grownBy (grownBy_of_below hb4 none) fun j o ej => by cases ej
    exact (((KeepsOthers.drew W).trans k2).trans q4).trans (KeepsOthers.setCell _ _ _)
  have j2 := k2.other (show w.heap.size + 2 ≠ w.heap.size + 1 by omega) (.int .i64 e)
  have hBW7 : Below w.heap.size W ((W5.setCell ⟨w.heap.size, 0, none⟩ v').setCell ⟨w.heap.size + 1, 0, none⟩ (.int .i64 e)) := ((hbW4.mono hB.size).trans q5).setCell (p := ⟨w.heap.size + 1, 0, none⟩) (by simp) _
  refine ⟨q1, k1, kp.from _, ⟨hBW7, j2.trans I2.symm⟩, ⟨j2, k1.set _, v', q2.other (by omega) _, ⟨V ++ [u], by rw [List.length_append]; exact hR7, hM7⟩, ?_⟩, hB.trans hBW7⟩
  rcases hat with e1 | e1
  · rw [e1]; exact hne
  · rw [e1]
    have h3 := I2.lt
    have h4 := hbW4.size
    simp
    omega

set_option maxRecDepth 100000 in
set_option maxHeartbeats 2000000 in
theorem split3_in (n : Nat) (hn : 3 ≤ n) (v : Value) (bs : List Nat) (w : World) (hrow : BRow w v bs) (hlen : bs.length ≤ 1000000) :
    CallsIn Fence.wide n Try.prog 32 #[v] w fun e W' => ∃ v', e = .returned (.tuple #[v', .int .i64 (splS bs), .int .i64 (splE bs)]) ∧ MOwn W' w.heap.size v' (splB bs) ∧ Below w.heap.size w W' := by
  have h1 : 1 ≤ n := by omega
  obtain ⟨sa, sc, rfl⟩ := hrow.shape
  refine callsIn_of_wp_marks Try.func32 rfl trivial ?_ rfl
  simp only [Try.ntmps32, List.size_toArray, List.length_cons, List.length_nil, Nat.reduceAdd, Nat.reduceSub, Array.replicate_succ, Array.replicate_zero, List.push_toArray, List.append_toArray, List.nil_append, List.cons_append]
  gi_wp2_with (refine ⟨trivial, ?_⟩; gi_at_call 102; refine (frames_in (n - 1) _ _ _ _).mono ?_; rintro e w' ⟨rfl, rfl⟩)
  obtain ⟨W0, hW0⟩ : ∃ W0, ((w.alloc (.cells #[.slice none 0 0] 45)).alloc (.cells #[.int .i64 0] 3)).alloc (.cells #[.slice sa bs.length sc] 22) = W0 := ⟨_, rfl⟩
  have hsz : W0.heap.size = w.heap.size + 3 := by rw [← hW0]; simp
  have hB0 : Below w.heap.size w W0 := by
    rw [← hW0]
    exact (((Below.refl _ w).alloc (Nat.le_refl _) _).alloc (by simp) _).alloc (by simp; omega) _
  have b0 : Boxed W0 w.heap.size 45 (.slice none 0 0) := by
    rw [← hW0]; exact ((Boxed.new w _ _).alloc _).alloc _
  have b1 : Boxed W0 (w.heap.size + 1) 3 (.int .i64 0) := by
    rw [← hW0]; have := Boxed.new (w.alloc (.cells #[.slice none 0 0] 45)) 3 (.int .i64 0); simp only [World.size_alloc] at this; exact this.alloc _
  have b2 : Boxed W0 (w.heap.size + 2) 22 (.slice sa bs.length sc) := by
    rw [← hW0]; have := Boxed.new ((w.alloc (.cells #[.slice none 0 0] 45)).alloc (.cells #[.int .i64 0] 3)) 22 (.slice sa bs.length sc); simp only [World.size_alloc] at this; exact this
  rw [hW0]
  clear hW0
  have hI0 : SpI w (.slice sa bs.length sc) (w0 := w) [] W0 := ⟨b2, b1, _, b0, mown_nil _ _, by simp [Value.ownBlock]⟩
  refine wpIn_rangeFunc_ownH (encs := encB (w0 := w)) (Kp := KpB w.heap.size (w.heap.size + 2)) rfl h1 (gf := 132) (lb := #[.pointer (some ⟨w.heap.size + 2, 0, none⟩)]) rfl trivial (enters_of Try.func132 (by kernel_rfl) rfl)
    (frames_stops (n - 1) (by omega) (w.heap.size + 2) (.slice sa bs.length sc) bs w hrow hlen _ hB0 b2)
    (fun h k => ⟨h.1.trans k.1, k.2.trans h.2⟩)
    (fun W l o o' hl h hc hw => ⟨belowK_b (w := w) (Nat.le_refl _) W l o o' (by omega) h hc hw, World.putObj_heap_other (by omega)⟩)
    (Below.refl _ _) (fun _ => rfl)
    (fun pre W => SpI w (.slice sa bs.length sc) pre W ∧ Below w.heap.size w W)
    (fun c pre W => False)
    ?hI ?hIx ⟨hI0, hB0⟩
    (fun x a' W => a' = { tmps := #[.slice sa bs.length sc, undef, .slice none 0 0, .int .i64 0, .int .i64 0, .pointer (some ⟨w.heap.size, 0, none⟩), .pointer (some ⟨w.heap.size + 1, 0, none⟩), .int .i64 (x.1.1 : Nat), x.1.2.1, undef, undef, undef, .slice sa bs.length sc, .func (.func 132) #[] #[.pointer (some ⟨w.heap.size + 1 + 1, 0, none⟩)], .int .i64 (x.1.1 : Nat), x.1.2.1, undef, undef, undef, undef, undef, undef, undef, undef, undef, undef, undef, undef, undef, undef, undef, undef, undef, undef, undef, undef, undef, undef, undef], defers := [] })
    ?hAx ?assign ?body ?done ?stop
  case hI => exact OwnFrom.and (Own.from (spI_own _ _) _) (ownFrom_below (Nat.le_refl _) (by omega))
  case hIx => exact fun c s A B row h _ _ => h.elim
  case hAx => exact fun x a' s A B row h hg hr => h
  case assign =>
    rintro l pre x W K ⟨hi, hB⟩ hK
    obtain ⟨en, a2, c2, fbs, hxe, -, -, -⟩ := x.open
    have HI := Lib.hid hi
    have HB := Lib.hid hB
    clear hi hB
    simp only [encB, hxe] at hK ⊢
    clear hxe
    gi_wp2
    exact hK _ _ (KeepsFrom.refl _ _) ⟨Below.refl _ _, rfl⟩ ⟨HI.out, HB.out⟩ rfl
  case body =>
    rintro l pre x a' W hl hr ⟨hI, hB⟩ rfl hlt
    have hpl : pre.length ≤ 1000000 := by have := frq_length bs; omega
    obtain ⟨en, a2, c2, fbs, hxe, hx1, hx3, hx4⟩ := x.open
    have HL := Lib.hid (show lastE ((pre ++ [x]).map Yb.bl) = en by rw [List.map_append, List.map_cons, List.map_nil, lastE_snoc]; unfold Yb.bl; rw [hxe])
    have HM := Lib.hid (show (pre ++ [x]).map (fun x => x.1.2.2) = pre.map (fun x => x.1.2.2) ++ [fbs] by rw [List.map_append, List.map_cons, List.map_nil, hxe])
    simp only [hxe]
    obtain ⟨i2, i1, v, h0, ⟨V, hV2, hV⟩, hne⟩ := hI
    have c0 : W.cell? ⟨w.heap.size, 0, none⟩ = some v := h0.cell
    have HC := Lib.hid (clone_calls (.slice a2 fbs.length c2) fbs W.drew (hx4.below hB.drew) (by omega))
    have I1 := Lib.hid i1; have I2 := Lib.hid i2; have H0 := Lib.hid h0; have HB := Lib.hid hB; have HV := Lib.hid hV; have HV2 := Lib.hid hV2; have HNE := Lib.hid hne
    clear i1 i2 h0 hB hV hV2 hne hx4 hxe b0 b1 b2 hB0 hI0 hrow hlt
    gi_wp2_with fail
    refine wpIn_region_any (by kernel_rfl) ?_
    change wpAnyIn _ _ _ _ _ _ _ _ _ (World.drew _)
    refine wpAnyIn_ready (rs := [0, 1]) (by kernel_rfl) (by simp) ?_
    refine AllReadyIn.cons rfl (fun K hK => ?_) (AllReadyIn.cons rfl (fun K hK => ?_) AllReadyIn.nil)
    · go_simp
      refine hK _ _ ?_
      clear hK K
      refine wpAnyIn_ready (rs := [1]) (by kernel_rfl) (by simp) ?_
      refine AllReadyIn.cons rfl (fun K hK => ?_) AllReadyIn.nil
      go_simp
      refine hK _ _ ?_
      clear hK K
      refine wpAnyIn_ready (rs := [2]) (by kernel_rfl) (by simp) ?_
      refine AllReadyIn.cons rfl (fun K hK => ?_) AllReadyIn.nil
      go_simp
      refine ⟨(by first | trivial | (intro _; omega)), ?_⟩
      refine ⟨(by first | trivial | (intro _; omega)), ?_⟩
      refine (CallsIn.inRound l (callsIn_wide.2 HC.out)).mono ?_
      rintro e w4 ⟨v5, rfl, ho5, hb4⟩
      obtain ⟨a5, c5, rfl⟩ := owns_shape ho5
      have hbW4 : Below W.heap.size W w4 := ((Below.refl _ W).drew).trans hb4
      have c4 : w4.cell? ⟨w.heap.size, 0, none⟩ = some v := Boxed.cell (t := 45) ((hbW4.block _ H0.out.lt).trans H0.out)
      have c4' := cell_alloc' c4 (.cells #[.slice a5 fbs.length c5] 22)
      have HO5 := Lib.hid ho5; have HB4 := Lib.hid hb4; have HR4 := Lib.hid (ownsRow_below HV2.out hbW4); have HS4 := Lib.hid (Nat.le_trans HB.out.size hbW4.size)
      clear ho5 hb4 hbW4
      refine hK _ _ ?_
      clear hK K
      refine wpAnyIn_ready (rs := [3]) (by kernel_rfl) (by simp) ?_
      refine AllReadyIn.cons rfl (fun K hK => ?_) AllReadyIn.nil
      go_simp
      refine hK _ _ ?_
      clear hK K
      refine wpAnyIn_ready (rs := [4]) (by kernel_rfl) (by simp) ?_
      refine AllReadyIn.cons rfl (fun K hK => ?_) AllReadyIn.nil
      refine stepIn_appendM rfl (.tmp 16) (.tmp 19) rfl w.heap.size v pre.length V (by first | rfl | simp [Act.eval, Act.put]) (by have := HR4.out.alloc (.cells #[.slice a5 fbs.length c5] 22); rwa [List.length_map] at this) ⟨w4.heap.size, 0, none⟩ 1 1 [.slice a5 fbs.length c5] (by first | rfl | simp [Act.eval, Act.put]) rfl (cell_one_new _ _ _) (by intro u hu; simp at hu; subst hu; rfl) (by omega) (by have := HS4.out; simp; omega) ?_
      intro v' W5 hown' hgrow hat
      obtain ⟨g', cap', rfl⟩ := ownsRow_succ hown'
      have hfin := m_end (B0 := W0.heap.size) HB.out I1.out I2.out H0.out HV2.out HV.out HB4.out HO5.out hgrow (by rw [List.length_map]; exact hown') HNE.out hat (en : Nat)
      have c6 : W5.cell? ⟨w.heap.size, 0, none⟩ = some v := hfin.1.cell
      have f6 : W5.frozen? ⟨w.heap.size, 0, none⟩ = false := hfin.1.frozen
      have c7 : (W5.setCell ⟨w.heap.size, 0, none⟩ (.slice (some ⟨g', 0, none⟩) (pre.length + 1) cap')).cell? ⟨w.heap.size + 1, 0, none⟩ = some (.int .i64 (lastE (pre.map Yb.bl) : Nat)) := hfin.2.1.cell
      have f7 : (W5.setCell ⟨w.heap.size, 0, none⟩ (.slice (some ⟨g', 0, none⟩) (pre.length + 1) cap')).frozen? ⟨w.heap.size + 1, 0, none⟩ = false := hfin.2.1.frozen
      have FIN := Lib.hid hfin.2.2
      clear hfin hown' hgrow hat
      refine hK _ _ ?_
      clear hK K
      refine wpAnyIn_ready (rs := [5]) (by kernel_rfl) (by simp) ?_
      refine AllReadyIn.cons rfl (fun K hK => ?_) AllReadyIn.nil
      go_simp
      refine hK _ _ ?_
      clear hK K
      refine wpAnyIn_done (by kernel_rfl) ?_ _
      gi_wp2
      exact ⟨FIN.out.1, FIN.out.2.1, ⟨FIN.out.2.2.1.1, by rw [HL.out]; exact FIN.out.2.2.1.2.1, by rw [HM.out]; exact FIN.out.2.2.1.2.2⟩, FIN.out.2.2.2⟩
    · go_simp
      refine hK _ _ ?_
      clear hK K
      refine wpAnyIn_ready (rs := [0, 2]) (by kernel_rfl) (by simp) ?_
      refine AllReadyIn.cons rfl (fun K hK => ?_) (AllReadyIn.cons rfl (fun K hK => ?_) AllReadyIn.nil)
      · go_simp
        refine hK _ _ ?_
        clear hK K
        refine wpAnyIn_ready (rs := [2]) (by kernel_rfl) (by simp) ?_
        refine AllReadyIn.cons rfl (fun K hK => ?_) AllReadyIn.nil
        go_simp
        refine ⟨(by first | trivial | (intro _; omega)), ?_⟩
        refine ⟨(by first | trivial | (intro _; omega)), ?_⟩
        refine (CallsIn.inRound l (callsIn_wide.2 HC.out)).mono ?_
        rintro e w4 ⟨v5, rfl, ho5, hb4⟩
        obtain ⟨a5, c5, rfl⟩ := owns_shape ho5
        have hbW4 : Below W.heap.size W w4 := ((Below.refl _ W).drew).trans hb4
        have c4 : w4.cell? ⟨w.heap.size, 0, none⟩ = some v := Boxed.cell (t := 45) ((hbW4.block _ H0.out.lt).trans H0.out)
        have c4' := cell_alloc' c4 (.cells #[.slice a5 fbs.length c5] 22)
        have HO5 := Lib.hid ho5; have HB4 := Lib.hid hb4; have HR4 := Lib.hid (ownsRow_below HV2.out hbW4); have HS4 := Lib.hid (Nat.le_trans HB.out.size hbW4.size)
        clear ho5 hb4 hbW4
        refine hK _ _ ?_
        clear hK K
        refine wpAnyIn_ready (rs := [3]) (by kernel_rfl) (by simp) ?_
        refine AllReadyIn.cons rfl (fun K hK => ?_) AllReadyIn.nil
        go_simp
        refine hK _ _ ?_
        clear hK K
        refine wpAnyIn_ready (rs := [4]) (by kernel_rfl) (by simp) ?_
        refine AllReadyIn.cons rfl (fun K hK => ?_) AllReadyIn.nil
        refine stepIn_appendM rfl (.tmp 16) (.tmp 19) rfl w.heap.size v pre.length V (by first | rfl | simp [Act.eval, Act.put]) (by have := HR4.out.alloc (.cells #[.slice a5 fbs.length c5] 22); rwa [List.length_map] at this) ⟨w4.heap.size, 0, none⟩ 1 1 [.slice a5 fbs.length c5] (by first | rfl | simp [Act.eval, Act.put]) rfl (cell_one_new _ _ _) (by intro u hu; simp at hu; subst hu; rfl) (by omega) (by have := HS4.out; simp; omega) ?_
        intro v' W5 hown' hgrow hat
        obtain ⟨g', cap', rfl⟩ := ownsRow_succ hown'
        have hfin := m_end (B0 := W0.heap.size) HB.out I1.out I2.out H0.out HV2.out HV.out HB4.out HO5.out hgrow (by rw [List.length_map]; exact hown') HNE.out hat (en : Nat)
        have c6 : W5.cell? ⟨w.heap.size, 0, none⟩ = some v := hfin.1.cell
        have f6 : W5.frozen? ⟨w.heap.size, 0, none⟩ = false := hfin.1.frozen
        have c7 : (W5.setCell ⟨w.heap.size, 0, none⟩ (.slice (some ⟨g', 0, none⟩) (pre.length + 1) cap')).cell? ⟨w.heap.size + 1, 0, none⟩ = some (.int .i64 (lastE (pre.map Yb.bl) : Nat)) := hfin.2.1.cell
        have f7 : (W5.setCell ⟨w.heap.size, 0, none⟩ (.slice (some ⟨g', 0, none⟩) (pre.length + 1) cap')).frozen? ⟨w.heap.size + 1, 0, none⟩ = false := hfin.2.1.frozen
        have FIN := Lib.hid hfin.2.2
        clear hfin hown' hgrow hat
        refine hK _ _ ?_
        clear hK K
        refine wpAnyIn_ready (rs := [5]) (by kernel_rfl) (by simp) ?_
        refine AllReadyIn.cons rfl (fun K hK => ?_) AllReadyIn.nil
        go_simp
        refine hK _ _ ?_
        clear hK K
        refine wpAnyIn_done (by kernel_rfl) ?_ _
        gi_wp2
        exact ⟨FIN.out.1, FIN.out.2.1, ⟨FIN.out.2.2.1.1, by rw [HL.out]; exact FIN.out.2.2.1.2.1, by rw [HM.out]; exact FIN.out.2.2.1.2.2⟩, FIN.out.2.2.2⟩
      · go_simp
        refine ⟨(by first | trivial | (intro _; omega)), ?_⟩
        refine ⟨(by first | trivial | (intro _; omega)), ?_⟩
        refine (CallsIn.inRound l (callsIn_wide.2 HC.out)).mono ?_
        rintro e w4 ⟨v5, rfl, ho5, hb4⟩
        obtain ⟨a5, c5, rfl⟩ := owns_shape ho5
        have hbW4 : Below W.heap.size W w4 := ((Below.refl _ W).drew).trans hb4
        have c4 : w4.cell? ⟨w.heap.size, 0, none⟩ = some v := Boxed.cell (t := 45) ((hbW4.block _ H0.out.lt).trans H0.out)
        have c4' := cell_alloc' c4 (.cells #[.slice a5 fbs.length c5] 22)
        have HO5 := Lib.hid ho5; have HB4 := Lib.hid hb4; have HR4 := Lib.hid (ownsRow_below HV2.out hbW4); have HS4 := Lib.hid (Nat.le_trans HB.out.size hbW4.size)
        clear ho5 hb4 hbW4
        refine hK _ _ ?_
        clear hK K
        refine wpAnyIn_ready (rs := [0, 3]) (by kernel_rfl) (by simp) ?_
        refine AllReadyIn.cons rfl (fun K hK => ?_) (AllReadyIn.cons rfl (fun K hK => ?_) AllReadyIn.nil)
        · go_simp
          refine hK _ _ ?_
          clear hK K
          refine wpAnyIn_ready (rs := [3]) (by kernel_rfl) (by simp) ?_
          refine AllReadyIn.cons rfl (fun K hK => ?_) AllReadyIn.nil
          go_simp
          refine hK _ _ ?_
          clear hK K
          refine wpAnyIn_ready (rs := [4]) (by kernel_rfl) (by simp) ?_
          refine AllReadyIn.cons rfl (fun K hK => ?_) AllReadyIn.nil
          refine stepIn_appendM rfl (.tmp 16) (.tmp 19) rfl w.heap.size v pre.length V (by first | rfl | simp [Act.eval, Act.put]) (by have := HR4.out.alloc (.cells #[.slice a5 fbs.length c5] 22); rwa [List.length_map] at this) ⟨w4.heap.size, 0, none⟩ 1 1 [.slice a5 fbs.length c5] (by first | rfl | simp [Act.eval, Act.put]) rfl (cell_one_new _ _ _) (by intro u hu; simp at hu; subst hu; rfl) (by omega) (by have := HS4.out; simp; omega) ?_
          intro v' W5 hown' hgrow hat
          obtain ⟨g', cap', rfl⟩ := ownsRow_succ hown'
          have hfin := m_end (B0 := W0.heap.size) HB.out I1.out I2.out H0.out HV2.out HV.out HB4.out HO5.out hgrow (by rw [List.length_map]; exact hown') HNE.out hat (en : Nat)
          have c6 : W5.cell? ⟨w.heap.size, 0, none⟩ = some v := hfin.1.cell
          have f6 : W5.frozen? ⟨w.heap.size, 0, none⟩ = false := hfin.1.frozen
          have c7 : (W5.setCell ⟨w.heap.size, 0, none⟩ (.slice (some ⟨g', 0, none⟩) (pre.length + 1) cap')).cell? ⟨w.heap.size + 1, 0, none⟩ = some (.int .i64 (lastE (pre.map Yb.bl) : Nat)) := hfin.2.1.cell
          have f7 : (W5.setCell ⟨w.heap.size, 0, none⟩ (.slice (some ⟨g', 0, none⟩) (pre.length + 1) cap')).frozen? ⟨w.heap.size + 1, 0, none⟩ = false := hfin.2.1.frozen
          have FIN := Lib.hid hfin.2.2
          clear hfin hown' hgrow hat
          refine hK _ _ ?_
          clear hK K
          refine wpAnyIn_ready (rs := [5]) (by kernel_rfl) (by simp) ?_
          refine AllReadyIn.cons rfl (fun K hK => ?_) AllReadyIn.nil
          go_simp
          refine hK _ _ ?_
          clear hK K
          refine wpAnyIn_done (by kernel_rfl) ?_ _
          gi_wp2
          exact ⟨FIN.out.1, FIN.out.2.1, ⟨FIN.out.2.2.1.1, by rw [HL.out]; exact FIN.out.2.2.1.2.1, by rw [HM.out]; exact FIN.out.2.2.1.2.2⟩, FIN.out.2.2.2⟩
        · go_simp
          refine hK _ _ ?_
          clear hK K
          refine wpAnyIn_ready (rs := [0]) (by kernel_rfl) (by simp) ?_
          refine AllReadyIn.cons rfl (fun K hK => ?_) AllReadyIn.nil
          go_simp
          refine hK _ _ ?_
          clear hK K
          refine wpAnyIn_ready (rs := [4]) (by kernel_rfl) (by simp) ?_
          refine AllReadyIn.cons rfl (fun K hK => ?_) AllReadyIn.nil
          refine stepIn_appendM rfl (.tmp 16) (.tmp 19) rfl w.heap.size v pre.length V (by first | rfl | simp [Act.eval, Act.put]) (by have := HR4.out.alloc (.cells #[.slice a5 fbs.length c5] 22); rwa [List.length_map] at this) ⟨w4.heap.size, 0, none⟩ 1 1 [.slice a5 fbs.length c5] (by first | rfl | simp [Act.eval, Act.put]) rfl (cell_one_new _ _ _) (by intro u hu; simp at hu; subst hu; rfl) (by omega) (by have := HS4.out; simp; omega) ?_
          intro v' W5 hown' hgrow hat
          obtain ⟨g', cap', rfl⟩ := ownsRow_succ hown'
          have hfin := m_end (B0 := W0.heap.size) HB.out I1.out I2.out H0.out HV2.out HV.out HB4.out HO5.out hgrow (by rw [List.length_map]; exact hown') HNE.out hat (en : Nat)
          have c6 : W5.cell? ⟨w.heap.size, 0, none⟩ = some v := hfin.1.cell
          have f6 : W5.frozen? ⟨w.heap.size, 0, none⟩ = false := hfin.1.frozen
          have c7 : (W5.setCell ⟨w.heap.size, 0, none⟩ (.slice (some ⟨g', 0, none⟩) (pre.length + 1) cap')).cell? ⟨w.heap.size + 1, 0, none⟩ = some (.int .i64 (lastE (pre.map Yb.bl) : Nat)) := hfin.2.1.cell
          have f7 : (W5.setCell ⟨w.heap.size, 0, none⟩ (.slice (some ⟨g', 0, none⟩) (pre.length + 1) cap')).frozen? ⟨w.heap.size + 1, 0, none⟩ = false := hfin.2.1.frozen
          have FIN := Lib.hid hfin.2.2
          clear hfin hown' hgrow hat
          refine hK _ _ ?_
          clear hK K
          refine wpAnyIn_ready (rs := [5]) (by kernel_rfl) (by simp) ?_
          refine AllReadyIn.cons rfl (fun K hK => ?_) AllReadyIn.nil
          go_simp
          refine hK _ _ ?_
          clear hK K
          refine wpAnyIn_done (by kernel_rfl) ?_ _
          gi_wp2
          exact ⟨FIN.out.1, FIN.out.2.1, ⟨FIN.out.2.2.1.1, by rw [HL.out]; exact FIN.out.2.2.1.2.1, by rw [HM.out]; exact FIN.out.2.2.1.2.2⟩, FIN.out.2.2.2⟩
  case done =>
    rintro D ys W hD hys ⟨⟨i2, i1, v, h0, hM, -⟩, hB⟩ hK
    have hS : lastE (ys.map Yb.bl) = splS bs := by rw [hys]; rfl
    have hL : ys.map (fun x => x.1.2.2) = splB bs := by unfold splB; rw [← hys, List.map_map]; rfl
    rw [hS] at i1
    rw [hL] at hM
    obtain ⟨va, vc, rfl⟩ := hM.shape
    have hle := splS_le bs
    have c0 : W.cell? ⟨w.heap.size, 0, none⟩ = some (.slice va (splB bs).length vc) := h0.cell
    have c1 : W.cell? ⟨w.heap.size + 1, 0, none⟩ = some (.int .i64 (splS bs : Nat)) := i1.cell
    have hE : splE bs = if splS bs = bs.length then 0 else ferr (bs.drop (splS bs)) := rfl
    have HM := Lib.hid hM; have HB := Lib.hid hB; have HK := Lib.hid hK; have HE := Lib.hid hE; have H0 := Lib.hid h0; have H1 := Lib.hid i1; have HR := Lib.hid hrow
    clear hM hB hK hE h0 i1 i2 hys hS hL b0 b1 b2 hB0 hI0 hrow
    obtain ⟨sz, hsz0⟩ : ∃ sz, splS bs = sz := ⟨_, rfl⟩
    obtain ⟨bo, hbo0⟩ : ∃ bo, splB bs = bo := ⟨_, rfl⟩
    rw [hsz0] at c1 HE H1 hle
    rw [hbo0] at c0 HM H0
    have HSZ := Lib.hid hsz0
    have HBO := Lib.hid hbo0
    clear hsz0 hbo0
    by_cases hsz : sz = bs.length
    · have e1 : ((sz : Int) == (bs.length : Int)) = true := by rw [beq_iff_eq]; omega
      rw [if_pos hsz] at HE
      gi_wp2_with fail
      gi_region
      gi_wp2_with fail
      have hK' : W.drew.heap[D]? = some (.deferred (some [])) := HK.out
      refine ⟨by simp, .inl ⟨_, _, rfl, run_takeDeferred hK', ?_⟩⟩
      refine ⟨.tuple #[.slice va bo.length vc, .int .i64 (bs.length : Nat), .int .i64 0], ?_, .slice va bo.length vc, ?_, ?_, (HB.out.drew).trans (belowK_b (w := w) (Nat.le_refl _) _ D _ _ (by omega) hK' rfl rfl)⟩
      · simp [results, Try.f32, go_sem]
      · rw [HSZ.out, HE.out, hsz]; rfl
      · rw [HBO.out]; exact (HM.out.below ((Below.refl _ W).drew)).own (grownBy_putObj' _ D (.deferred none)) (fun r e => by cases e; exact ⟨_, hK', rfl⟩)
    · have e1 : ((sz : Int) == (bs.length : Int)) = false := by rw [beq_eq_false_iff_ne]; omega
      rw [if_neg hsz] at HE
      obtain ⟨hall, ⟨_, _, _, e, _⟩ | ⟨b, off, cap, e, hc, hm, -⟩⟩ := HR.out
      · rw [e] at hle hsz; simp at hle hsz; omega
      simp only [Value.slice.injEq, true_and] at e
      obtain ⟨rfl, rfl⟩ := e
      unfold maxLen at hm
      have hck : ¬ sc = sz := by omega
      have hsi : (sz : Int) ≤ (bs.length : Int) := by omega
      have HF := Lib.hid (firstB_calls (.slice (some ⟨b, off + sz, none⟩) (bs.length - sz) (sc - sz)) (bs.drop sz) W ((HR.out.below HB.out).drop sz _ _ _ hle rfl rfl (by omega) (by unfold maxLen; omega)))
      clear hall hsz
      gi_wp2_with (refine ⟨trivial, ?_⟩; gi_at_call 104; refine (callsIn_wide.2 HF.out).mono ?_; rintro e w2 ⟨v2, rfl, -, hb2⟩; have HB2 := Lib.hid hb2; have d0 := (hb2.cell (p := ⟨w.heap.size, 0, none⟩) H0.out.lt).trans c0; have d1 := (hb2.cell (p := ⟨w.heap.size + 1, 0, none⟩) H1.out.lt).trans c1; clear hb2)
      gi_region
      gi_wp2_with fail
      have hK' : w2.drew.heap[D]? = some (.deferred (some [])) := (HB2.out.block D (Array.getElem?_eq_some_iff.1 HK.out).1).trans HK.out
      refine ⟨by simp, .inl ⟨_, _, rfl, run_takeDeferred hK', ?_⟩⟩
      refine ⟨.tuple #[.slice va bo.length vc, .int .i64 (sz : Nat), .int .i64 (ferr (bs.drop sz) : Nat)], ?_, .slice va bo.length vc, ?_, ?_, ((HB.out.trans (HB2.out.mono HB.out.size)).drew).trans (belowK_b (w := w) (Nat.le_refl _) _ D _ _ (by omega) hK' rfl rfl)⟩
      · simp [results, Try.f32, go_sem]
      · rw [HSZ.out, HE.out]
      · rw [HBO.out]; exact (HM.out.below (HB2.out.drew)).own (grownBy_putObj' _ D (.deferred none)) (fun r e => by cases e; exact ⟨_, hK', rfl⟩)
  case stop => exact fun D c pre W hD hpre h hK => h.elim

/-- frame.Split, at any bytes that are not too many. -/
theorem split3_calls (v : Value) (bs : List Nat) (w : World) (hrow : BRow w v bs) (hlen : bs.length ≤ 1000000) :
    Calls Try.prog 32 #[v] w fun e W' => ∃ v', e = .returned (.tuple #[v', .int .i64 (splS bs), .int .i64 (splE bs)]) ∧ MOwn W' w.heap.size v' (splB bs) ∧ Below w.heap.size w W' :=
  (callsIn_wide (n := 3)).1 (split3_in 3 (by omega) v bs w hrow hlen)
end Go.Proofs.Yteaeedhhdnkldaa
