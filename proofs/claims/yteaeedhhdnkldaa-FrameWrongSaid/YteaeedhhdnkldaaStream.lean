/-
  CONTRACTS of the streams of frame: New, Feed, Held, Need, Frames, Dead, Reset.
-/
import Derived.Test.YteaeedhhdnkldaaFrameSplit
namespace Go.Proofs.Yteaeedhhdnkldaa
open Go.RowKit Go.Shelf Pl

/-- THE BLOCK g IS A STREAM: what it is, how many frames were whole, and what it holds. -/
def SAt (w : World) (g st fr : Nat) (h : Value) : Prop := w.heap[g]? = some (.cells #[.int .i64 st, .int .i64 fr, h] 152 (0, 0))
theorem SAt.cells {w : World} {g st fr : Nat} {h : Value} (s : SAt w g st fr h) : w.cell? ⟨g, 0, none⟩ = some (.int .i64 st) ∧ w.cell? ⟨g, 1, none⟩ = some (.int .i64 fr) ∧ w.cell? ⟨g, 2, none⟩ = some h ∧ ∀ i, w.frozen? ⟨g, i, none⟩ = false := by
  unfold SAt at s
  refine ⟨by simp [World.cell?, s], by simp [World.cell?, s], by simp [World.cell?, s], fun i => by simp [World.frozen?, s]⟩
theorem SAt.lt {w : World} {g st fr : Nat} {h : Value} (s : SAt w g st fr h) : g < w.heap.size := (Array.getElem?_eq_some_iff.1 s).1
theorem SAt.below {w w' : World} {g st fr : Nat} {h : Value} (s : SAt w g st fr h) (hb : Below w.heap.size w w') : SAt w' g st fr h := (hb.block g s.lt).trans s

set_option maxRecDepth 100000 in
set_option maxHeartbeats 1000000 in
theorem is_calls (g st fr : Nat) (h : Value) (w : World) (s : SAt w g st fr h) :
    Calls Try.prog 107 #[.pointer (some ⟨g, 0, none⟩)] w fun e w' => e = .returned (.int .i64 st) ∧ w = w' := by
  obtain ⟨c0, c1, c2, f⟩ := s.cells
  clear f s
  go_enter Try.func107, Try.ntmps107
  go_wp2
  go_ret
  exact ⟨rfl, rfl⟩
set_option maxHeartbeats 1000000 in
theorem new_calls (w : World) :
    Calls Try.prog 33 #[] w fun e w' => e = .returned (.pointer (some ⟨w.heap.size, 0, none⟩)) ∧ SAt w' w.heap.size 1 0 (.slice none 0 0) ∧ Below w.heap.size w w' ∧ w'.heap.size = w.heap.size + 1 := by
  have HN := Lib.hid (World.alloc_heap_new w (.cells #[.int .i64 1, .int .i64 0, .slice none 0 0] 152))
  go_enter Try.func33, Try.ntmps33
  go_wp2
  go_ret
  exact ⟨rfl, HN.out, (Below.refl _ _).alloc (Nat.le_refl _) _, by simp⟩
set_option maxRecDepth 100000 in
set_option maxHeartbeats 1000000 in
theorem held_calls (g st fr : Nat) (h : Value) (a : Option Addr) (n c : Nat) (w : World) (s : SAt w g st fr h) (hh : h = .slice a n c) (hst : st = 1 ∨ st = 2) :
    Calls Try.prog 36 #[.pointer (some ⟨g, 0, none⟩)] w fun e w' => e = .returned (.int .i64 n) ∧ w = w' := by
  subst hh
  obtain ⟨c0, c1, c2, f⟩ := s.cells
  have HI := Lib.hid (is_calls g st fr _ w s)
  have hs : ((st : Int) == 0) = false := by rw [beq_eq_false_iff_ne]; omega
  clear f s hst
  go_enter Try.func36, Try.ntmps36
  go_wp2_with (go_at_call 107; refine HI.out.mono ?_; rintro e w' ⟨rfl, rfl⟩)
  go_ret
  exact ⟨rfl, rfl⟩
set_option maxRecDepth 100000 in
set_option maxHeartbeats 1000000 in
theorem frames_calls (g st fr : Nat) (h : Value) (w : World) (s : SAt w g st fr h) (hst : st = 1 ∨ st = 2) :
    Calls Try.prog 38 #[.pointer (some ⟨g, 0, none⟩)] w fun e w' => e = .returned (.int .i64 fr) ∧ w = w' := by
  obtain ⟨c0, c1, c2, f⟩ := s.cells
  have HI := Lib.hid (is_calls g st fr _ w s)
  have hs : ((st : Int) == 0) = false := by rw [beq_eq_false_iff_ne]; omega
  clear f s hst
  go_enter Try.func38, Try.ntmps38
  go_wp2_with (go_at_call 107; refine HI.out.mono ?_; rintro e w' ⟨rfl, rfl⟩)
  go_ret
  exact ⟨rfl, rfl⟩
set_option maxRecDepth 100000 in
set_option maxHeartbeats 1000000 in
theorem dead_calls (g st fr : Nat) (h : Value) (w : World) (s : SAt w g st fr h) :
    Calls Try.prog 39 #[.pointer (some ⟨g, 0, none⟩)] w fun e w' => e = .returned (.bool (st == 2)) ∧ w = w' := by
  have HI := Lib.hid (is_calls g st fr _ w s)
  have hs : ((st : Int) == 2) = (st == 2) := by rw [Bool.eq_iff_iff, beq_iff_eq, beq_iff_eq]; omega
  clear s
  go_enter Try.func39, Try.ntmps39
  go_wp2_with (go_at_call 107; refine HI.out.mono ?_; rintro e w' ⟨rfl, rfl⟩)
  go_ret
  exact ⟨rfl, rfl⟩
set_option maxRecDepth 100000 in
set_option maxHeartbeats 1000000 in
theorem sneed_calls (g st fr : Nat) (h : Value) (l : List Nat) (w : World) (s : SAt w g st fr h) (hr : BRow w h l) :
    Calls Try.prog 37 #[.pointer (some ⟨g, 0, none⟩)] w fun e w' => e = .returned (.int .i64 (if st = 1 then fneed l else 0 : Nat)) ∧ Below w.heap.size w w' := by
  obtain ⟨c0, c1, c2, f⟩ := s.cells
  have HI := Lib.hid (is_calls g st fr _ w s)
  have HN := Lib.hid (need_calls h l w hr)
  by_cases h1 : st = 1
  · rw [if_pos h1]
    have hs : ((st : Int) != 1) = false := by rw [bne_eq_false_iff_eq]; omega
    clear f s h1
    go_enter Try.func37, Try.ntmps37
    go_wp2_with (first
      | (go_at_call 107; refine HI.out.mono ?_; rintro e w' ⟨rfl, rfl⟩)
      | (go_at_call 43; refine HN.out.mono ?_; rintro e w' ⟨rfl, hb⟩))
    go_ret
    exact ⟨rfl, hb⟩
  · rw [if_neg h1]
    have hs : ((st : Int) != 1) = true := by rw [bne_iff_ne]; omega
    clear f s h1
    go_enter Try.func37, Try.ntmps37
    go_wp2_with (first
      | (go_at_call 107; refine HI.out.mono ?_; rintro e w' ⟨rfl, rfl⟩)
      | fail)
    go_ret
    exact ⟨rfl, Below.refl _ _⟩
set_option maxRecDepth 100000 in
set_option maxHeartbeats 1000000 in
theorem reset_calls (g st fr : Nat) (h : Value) (w : World) (s : SAt w g st fr h) (hst : st = 1 ∨ st = 2) :
    Calls Try.prog 46 #[.pointer (some ⟨g, 0, none⟩)] w fun e w' => e = .returned (.int .i64 0) ∧ SAt w' g 1 0 (.slice none 0 0) ∧ w.grownBy w' (some g) := by
  obtain ⟨c0, c1, c2, f⟩ := s.cells
  have f0 := f 0; have f1 := f 1; have f2 := f 2
  have HI := Lib.hid (is_calls g st fr _ w s)
  have hs : ((st : Int) == 0) = false := by rw [beq_eq_false_iff_ne]; omega
  have HS := Lib.hid (show SAt (((w.setCell ⟨g, 0, none⟩ (.int .i64 1)).setCell ⟨g, 1, none⟩ (.int .i64 0)).setCell ⟨g, 2, none⟩ (.slice none 0 0)) g 1 0 (.slice none 0 0) from setCell_cells (setCell_cells (setCell_cells s 0 _) 1 _) 2 _)
  have HG := Lib.hid (((grownBy_setCell w g 0 (.int .i64 1)).trans (grownBy_setCell _ g 1 (.int .i64 0))).trans (grownBy_setCell _ g 2 (.slice none 0 0)))
  clear f s hst
  go_enter Try.func46, Try.ntmps46
  go_wp2_with (go_at_call 107; refine HI.out.mono ?_; rintro e w' ⟨rfl, rfl⟩)
  go_ret
  exact ⟨rfl, HS.out, HG.out⟩

theorem frA_pos (n : Nat) : ∀ (a : Nat) (l : List Nat), l.length ≤ n → ∀ p ∈ frA a l, a < p.1 := by
  induction n with
  | zero => intro a l h p hp; have : l = [] := List.eq_nil_of_length_eq_zero (by omega); subst this; rw [frA_end a (by rw [ferr_nil]; decide)] at hp; simp at hp
  | succ n ih =>
    intro a l h p hp
    by_cases he : ferr l = 0
    · have h3 := fsize_pos he
      rw [frA_step a he] at hp
      rcases List.mem_cons.1 hp with rfl | hp
      · dsimp only; omega
      · have := ih (a + fsize l) (l.drop (fsize l)) (by rw [List.length_drop]; omega) p hp
        omega
    · rw [frA_end a he] at hp; simp at hp
theorem splB_nil {bs : List Nat} (h : splS bs = 0) : splB bs = [] := by
  unfold splS lastE at h
  cases hl : (frq bs).getLast? with
  | none => unfold splB; rw [List.getLast?_eq_none_iff.1 hl]; rfl
  | some p =>
    rw [hl] at h
    have := frA_pos _ 0 bs (Nat.le_refl _) p (List.mem_of_getLast? hl)
    simp at h
    omega
theorem splB_length (bs : List Nat) : (splB bs).length ≤ bs.length := by unfold splB; rw [List.length_map]; exact frq_length bs
/-- What Feed tells, and what is held behind it. -/
def feedE (all : List Nat) : Nat := if splE all = 31 then 31 else 0
def feedH (all : List Nat) : List Nat := if splE all = 31 then [] else all.drop (splS all)
/-- WHAT Feed LEAVES. -/
def FedP (w : World) (g base fr : Nat) (h : Value) (all : List Nat) (e : Ending) (w' : World) : Prop :=
  ∃ v' h' V, e = .returned (.tuple #[v', .int .i64 (feedE all)]) ∧ SAt w' g (if splE all = 31 then 2 else 1) (fr + (splB all).length) h' ∧ Own8 w' base h' (feedH all) ∧ w'.ownsRow w.heap.size 22 1 v' (splB all).length V ∧ MVal w' w.heap.size V (splB all) ∧
    (∀ i < (splB all).length, ∀ k, (V.getD i undef).ownBlock = some k → h'.ownBlock ≠ some k) ∧ (∃ w1, w.grownBy w1 h.ownBlock ∧ w1.grownBy w' (some g)) ∧ (h'.ownBlock = h.ownBlock ∨ ∀ k, h'.ownBlock = some k → w.heap.size ≤ k)

theorem MVal.base {w : World} {base base' : Nat} {V : List Value} {L : List (List Nat)} (h : MVal w base V L) (hb : base' ≤ base) : MVal w base' V L := ⟨h.1, fun i hi => own_base (h.2.1 i hi) hb, h.2.2⟩
theorem rowM_base {w : World} {base base' n : Nat} {v : Value} {V : List Value} (h : w.ownsRow base 22 1 v n V) (hb : base' ≤ base) : w.ownsRow base' 22 1 v n V :=
  ⟨h.1, h.2.imp id fun ⟨g, cap, cur, e, h1, h2⟩ => ⟨g, cap, cur, e, Nat.le_trans hb h1, h2⟩⟩
theorem SAt.grown {w w' : World} {g st fr n base : Nat} {h v : Value} {e : TypeId} {size : Nat} {xs : List Value} (s : SAt w g st fr h) (hr : w.ownsRow base e size v n xs) (he : e ≠ 152) (hg : w.grownBy w' v.ownBlock) : SAt w' g st fr h := by
  refine (hg.block g s.lt fun e2 => ?_).trans s
  rcases hr.2 with ⟨rfl, _⟩ | ⟨g2, cap, cur, rfl, _, hgb, _⟩
  · simp [Value.ownBlock] at e2
  · simp only [Value.ownBlock, Option.some.injEq] at e2
    subst e2
    rw [show w.heap[g]? = _ from s] at hgb
    simp only [Option.some.injEq, Obj.cells.injEq] at hgb
    exact he hgb.2.1.symm
/-- The end of Feed: the stream's own cells are written. -/
theorem fed_end {w w1 w2 w3 w5 : World} {g base fr st : Nat} {h h' v2 : Value} {all : List Nat} {V : List Value} (hg1 : w.grownBy w1 h.ownBlock) (hb2 : Below w1.heap.size w1 w2) (hrow : w2.ownsRow w1.heap.size 22 1 v2 (splB all).length V) (hM : MVal w2 w1.heap.size V (splB all))
    (hs2 : SAt w2 g st fr h) (hg3 : w2.grownBy w3 (some g)) (hb4 : Below w3.heap.size w3 w5) {w6 : World} (hg6 : w5.grownBy w6 (some g)) (hs6 : SAt w6 g (if splE all = 31 then 2 else 1) (fr + (splB all).length) h') (ho6 : Own8 w6 base h' (feedH all))
    (hap : ∀ i < (splB all).length, ∀ k, (V.getD i undef).ownBlock = some k → h'.ownBlock ≠ some k) (hloc : h'.ownBlock = h.ownBlock ∨ ∀ k, h'.ownBlock = some k → w.heap.size ≤ k) :
    FedP w g base fr h all (.returned (.tuple #[v2, .int .i64 (feedE all)])) w6 := by
  have hgg : w2.grownBy w6 (some g) := (hg3.trans (grownBy_of_below hb4 (some g))).trans hg6
  have hty : ∀ r c t, some g = some r → w2.heap[r]? = some (.cells c t (0, 0)) → t = 152 := fun r c t e hh => by
    cases e; rw [show w2.heap[g]? = _ from hs2] at hh; cases hh; rfl
  refine ⟨v2, h', V, rfl, hs6, ho6, ?_, ?_, hap, ⟨w2, grownBy_chain hg1 (grownBy_of_below hb2 none) (.inr fun j e => by cases e), hgg⟩, hloc⟩
  · refine rowM_base (hrow.kept hgg ?_) hg1.size
    rcases hrow.2 with ⟨rfl, _⟩ | ⟨g2, cap, cur, rfl, _, hgb, _⟩
    · exact .inl rfl
    · exact .inr fun e => absurd (hty _ _ _ e.symm hgb) (by decide)
  · exact (hM.keep hgg fun r c t e hh => by rw [hty r c t e hh]; decide).base hg1.size

set_option maxRecDepth 100000 in
set_option maxHeartbeats 2000000 in
theorem feed_all (g base fr : Nat) (h : Value) (hl : List Nat) (v : Value) (l : List Nat) (w : World) (s : SAt w g 1 fr h) (ho : Own8 w base h hl) (hab : AllB hl) (hbr : BRow w v l) (hbase : base ≤ w.heap.size) (all : List Nat) (hall0 : hl ++ l = all) (hlen : hl.length + l.length ≤ 1000000) (hfr : fr ≤ 1000000000000) :
    Calls Try.prog 45 #[.pointer (some ⟨g, 0, none⟩), v] w (FedP w g base fr h all) := by
  obtain ⟨c0, c1, c2, f⟩ := s.cells
  have hall : AllB all := by rw [← hall0]; exact hab.append hbr.1
  have hal : all.length ≤ 1000000 := by rw [← hall0, List.length_append]; exact hlen
  have HALL := Lib.hid hall0
  clear hall0
  have HI := Lib.hid (is_calls g 1 fr h w s)
  have HS := Lib.hid s; have HO := Lib.hid ho; have HBR := Lib.hid hbr; have HB := Lib.hid hbase; have HA := Lib.hid hall
  have hsb := splB_length all
  have hsS := splS_le all
  have hsN := Lib.hid (splB_nil (bs := all))
  have HL := Lib.hid hlen
  clear s ho hab hbr hall f hbase
  go_enter Try.func45, Try.ntmps45
  go_wp2_with (first
    | (go_at_call 107; refine HI.out.mono ?_; rintro e w' ⟨rfl, rfl⟩)
    | (at_builtin; go_must (refine wpList_append8_at rfl (.tmp 19) (.tmp 20) rfl base _ _ (by first | rfl | simp [Act.eval]) HO.out _ l (by first | rfl | simp [Act.eval]) HBR.out (by have := HL.out; omega) HB.out ?_; intro v1 w1 ho1 hg1 hat1; rw [HALL.out] at ho1; have HO1 := Lib.hid ho1; have HG1 := Lib.hid hg1; have HAT := Lib.hid hat1; clear ho1 hg1 hat1))
    | fail)
  have HSp := Lib.hid (split3_calls v1 all w1 (BRow.of_own HO1.out HA.out) hal)
  refine HSp.out.mono ?_
  rintro e w2 ⟨v2, rfl, ⟨V, hV2, hV⟩, hb2⟩
  have hs1 : SAt w1 g 1 fr h := HS.out.grown HO.out (by decide) HG1.out
  have hs2 := hs1.below hb2
  obtain ⟨d0, d1, d2, f⟩ := hs2.cells
  have f0 := f 0; have f1 := f 1; have f2 := f 2
  obtain ⟨a2, k2, rfl⟩ := owns_shape hV2
  obtain ⟨a1, k1, rfl⟩ := owns_shape HO1.out
  have hfrn : (fr : Int) + ((splB all).length : Int) ≤ 9223372036854775807 := by omega
  have HV2 := Lib.hid hV2; have HV := Lib.hid hV; have HB2 := Lib.hid hb2; have HS2 := Lib.hid hs2
  have hs3 : SAt (w2.setCell ⟨g, 1, none⟩ (.int .i64 ((fr : Int) + ((splB all).length : Int)))) g 1 (fr + (splB all).length) h := by
    have := setCell_cells hs2 1 (.int .i64 ((fr : Int) + ((splB all).length : Int)))
    unfold SAt
    rw [this, Int.natCast_add]
    rfl
  have HS3 := Lib.hid hs3
  have hg3 := grownBy_setCell w2 g 1 (.int .i64 ((fr : Int) + ((splB all).length : Int)))
  have HG3 := Lib.hid hg3
  have hw1 : w.heap.size ≤ w1.heap.size := HG1.out.size
  have HW1 := Lib.hid hw1
  have hloc1 : (Value.slice a1 all.length k1).ownBlock = h.ownBlock ∨ ∀ k, (Value.slice a1 all.length k1).ownBlock = some k → w.heap.size ≤ k := by
    rcases HAT.out with e | ⟨k, e, hk⟩
    · exact .inl e
    · exact .inr fun j hj => by rw [e] at hj; cases hj; exact hk
  have HLoc := Lib.hid hloc1
  clear hs1 hs2 hV2 hV hb2 f hs3 hg3 hw1 hloc1 c0 c1 c2
  by_cases hE : splE all = 31
  · have e1 : ((splE all : Int) == 31) = true := by rw [beq_iff_eq]; omega
    have HE := Lib.hid hE
    have hH : feedH all = [] := by unfold feedH; rw [if_pos hE]
    have hF : feedE all = 31 := by unfold feedE; rw [if_pos hE]
    have HH := Lib.hid hH
    have HF := Lib.hid hF
    clear hE hH hF
    go_wp2_with fail
    have hs6 : SAt (((w2.setCell ⟨g, 1, none⟩ (.int .i64 ((fr : Int) + ((splB all).length : Int)))).setCell ⟨g, 0, none⟩ (.int .i64 2)).setCell ⟨g, 2, none⟩ (.slice none 0 0)) g 2 (fr + (splB all).length) (.slice none 0 0) := setCell_cells (setCell_cells HS3.out 0 _) 2 _
    have hfin := fed_end (base := base) (st := 1) HG1.out HB2.out HV2.out HV.out HS2.out HG3.out (Below.refl _ _) ((grownBy_setCell _ g 0 (.int .i64 2)).trans (grownBy_setCell _ g 2 (.slice none 0 0))) (by rw [if_pos HE.out]; exact hs6) (by rw [HH.out]; exact own8_nil _ _) (fun i hi k hk => by simp [Value.ownBlock]) (.inr fun k hk => by simp [Value.ownBlock] at hk)
    rw [HF.out] at hfin
    have HFin := Lib.hid hfin
    clear hfin hs6
    go_ret2
    exact HFin.out
  · have e1 : ((splE all : Int) == 31) = false := by rw [beq_eq_false_iff_ne]; omega
    have HE := Lib.hid hE
    have hH : feedH all = all.drop (splS all) := by unfold feedH; rw [if_neg hE]
    have hF : feedE all = 0 := by unfold feedE; rw [if_neg hE]
    have HH := Lib.hid hH
    have HF := Lib.hid hF
    clear hE hH hF
    by_cases hz : 0 < splS all
    · obtain ⟨g1, cap1, e, h1, h2, -⟩ := own8_some HO1.out (by omega)
      simp only [Value.slice.injEq, true_and] at e
      obtain ⟨rfl, rfl⟩ := e
      unfold maxLen at h2
      have hcl := HO1.out
      have hcap := own8_le HO1.out
      clear hcl
      have hnc : (splS all : Int) ≤ (k1 : Int) := by omega
      have hnl : (splS all : Int) ≤ (all.length : Int) := by omega
      have hBR3 : BRow (w2.setCell ⟨g, 1, none⟩ (.int .i64 ((fr : Int) + ((splB all).length : Int)))) (.slice (some ⟨g1, 0, none⟩) all.length k1) all := by
        refine BRow.of_own (base := base) ((ownsRow_below HO1.out HB2.out).kept HG3.out (.inr fun e => ?_)) HA.out
        have hh := ownsRow_below HO1.out HB2.out
        rcases hh.2 with ⟨e2, _⟩ | ⟨g2, cap2, cur2, e2, _, hgb, _⟩
        · simp at e2
        · simp only [Value.slice.injEq, Option.some.injEq, Addr.mk.injEq, true_and, and_true] at e2
          simp only [Value.ownBlock, Option.some.injEq] at e
          rw [← e2.1, e] at hgb
          rw [show w2.heap[g]? = _ from HS2.out] at hgb
          simp at hgb
      have HBR3 := Lib.hid hBR3
      clear hBR3
      have hgl : g < (w2.setCell ⟨g, 1, none⟩ (.int .i64 ((fr : Int) + ((splB all).length : Int)))).heap.size := HS3.out.lt
      have HGl := Lib.hid hgl
      clear hgl
      rcases Decidable.em (k1 = splS all) with hk | hk
      case' inl =>
        subst hk
        have hCl : ∀ c n, c ≤ splS all → n = 0 → Calls Try.prog 103 #[.slice (some ⟨g1, 0, none⟩) n c] (w2.setCell ⟨g, 1, none⟩ (.int .i64 ((fr : Int) + ((splB all).length : Int)))) fun e w' => ∃ v', e = .returned v' ∧ Own8 w' (w2.setCell ⟨g, 1, none⟩ (.int .i64 ((fr : Int) + ((splB all).length : Int)))).heap.size v' (all.drop (splS all)) ∧ Below (w2.setCell ⟨g, 1, none⟩ (.int .i64 ((fr : Int) + ((splB all).length : Int)))).heap.size (w2.setCell ⟨g, 1, none⟩ (.int .i64 ((fr : Int) + ((splB all).length : Int)))) w' := fun c n hc hn => by
          subst hn
          rw [show all.drop (splS all) = [] from List.drop_eq_nil_of_le (by omega)]
          exact clone_calls _ _ _ (BRow.empty _ c (by unfold maxLen; omega)) (by simp)
        have HCl := Lib.hid hCl
        clear hCl
        go_wp2_with fail
        refine (HCl.out _ _ (by omega) (by omega)).mono ?_
        rintro e w4 ⟨v4, rfl, ho4, hb4⟩
      case' inr =>
        have HCl := Lib.hid (clone_calls (.slice (some ⟨g1, splS all, none⟩) (all.length - splS all) (k1 - splS all)) (all.drop (splS all)) _ (HBR3.out.drop _ _ _ _ hsS (by omega) rfl (by omega) (by unfold maxLen; omega)) (by rw [List.length_drop]; omega))
        go_wp2_with fail
        refine HCl.out.mono ?_
        rintro e w4 ⟨v4, rfl, ho4, hb4⟩
      all_goals
        obtain ⟨a4, n4, c4, rfl⟩ : ∃ a n c, v4 = .slice a n c := by obtain ⟨a, c, e⟩ := owns_shape ho4; exact ⟨a, _, c, e⟩
        have hs4 := HS3.out.below hb4
        obtain ⟨p0, p1, p2, pf⟩ := hs4.cells
        have pf2 := pf 2
        have HO4 := Lib.hid ho4; have HB4 := Lib.hid hb4; have HS4 := Lib.hid hs4
        clear ho4 hb4 hs4 pf d0 d1 d2 f0 f1 f2
        go_wp2_with fail
        have hs6 : SAt (w4.setCell ⟨g, 2, none⟩ (.slice a4 n4 c4)) g 1 (fr + (splB all).length) (.slice a4 n4 c4) := setCell_cells HS4.out 2 _
        have ho6 : Own8 (w4.setCell ⟨g, 2, none⟩ (.slice a4 n4 c4)) base (.slice a4 n4 c4) (feedH all) := by
          rw [HH.out]
          refine (own_base HO4.out (Nat.le_trans HB.out (Nat.le_trans HW1.out (Nat.le_trans HB2.out.size HG3.out.size)))).kept (grownBy_setCell _ g 2 (.slice a4 n4 c4)) (.inr fun e => ?_)
          have := (HO4.out.lt _ e).1
          have := HGl.out
          omega
        have hfin := fed_end (base := base) (st := 1) HG1.out HB2.out HV2.out HV.out HS2.out HG3.out HB4.out (grownBy_setCell _ g 2 (.slice a4 n4 c4)) (by rw [if_neg HE.out]; exact hs6) ho6 (fun i hi k hk e => by
            have h1 := (HO4.out.lt _ e).1
            have h2 := HV.out.lt i hi k hk
            have h3 := HG3.out.size
            omega) (.inr fun k hk => by
            have h1 := (HO4.out.lt _ hk).1
            have h3 := HG3.out.size
            have h4 := HB2.out.size
            have h5 := HW1.out
            omega)
        rw [HF.out] at hfin
        have HFin := Lib.hid hfin
        clear hfin hs6 ho6
        go_wp2
        go_ret2
        exact HFin.out
    · have hz0 : splS all = 0 := by omega
      have hb0 := hsN.out hz0
      have hdz : decide (0 < splS all) = false := decide_eq_false hz
      have HZ := Lib.hid hz0
      have HB0 := Lib.hid hb0
      clear hz0 hb0 hz
      go_wp2_with fail
      have hs6 : SAt ((w2.setCell ⟨g, 1, none⟩ (.int .i64 ((fr : Int) + ((splB all).length : Int)))).setCell ⟨g, 2, none⟩ (.slice a1 all.length k1)) g 1 (fr + (splB all).length) (.slice a1 all.length k1) := setCell_cells HS3.out 2 _
      have hty : ∀ r c t, some g = some r → w2.heap[r]? = some (.cells c t (0, 0)) → t = 152 := fun r c t e hh => by
        cases e; rw [show w2.heap[g]? = _ from HS2.out] at hh; cases hh; rfl
      have ho6 : Own8 ((w2.setCell ⟨g, 1, none⟩ (.int .i64 ((fr : Int) + ((splB all).length : Int)))).setCell ⟨g, 2, none⟩ (.slice a1 all.length k1)) base (.slice a1 all.length k1) (feedH all) := by
        rw [HH.out, HZ.out, List.drop_zero]
        refine (ownsRow_below HO1.out HB2.out).kept (HG3.out.trans (grownBy_setCell _ g 2 _)) ?_
        rcases (ownsRow_below HO1.out HB2.out).2 with ⟨e2, _⟩ | ⟨g2, cap2, cur2, e2, _, hgb, _⟩
        · rw [e2]; exact .inl rfl
        · rw [e2]
          exact .inr fun e => absurd (hty _ _ _ e.symm hgb) (by decide)
      have hfin := fed_end (base := base) (st := 1) HG1.out HB2.out HV2.out HV.out HS2.out HG3.out (Below.refl _ _) (grownBy_setCell _ g 2 (.slice a1 all.length k1)) (by rw [if_neg HE.out]; exact hs6) ho6 (fun i hi k hk e => by rw [HB0.out] at hi; exact absurd hi (Nat.not_lt_zero _)) HLoc.out
      rw [HF.out] at hfin
      have HFin := Lib.hid hfin
      clear hfin hs6 ho6 hty
      go_wp2
      go_ret2
      exact HFin.out
end Go.Proofs.Yteaeedhhdnkldaa
