/-
  CONTRACT of num.Split, the caller's side: a slice of the call's own with the numbers of the forms, or nil and the first error; nothing that was there is written.
-/
import Derived.Test.YteaeedhhdnkldaaNumSplit
import Derived.Maps.AppendAt
namespace Go.Proofs.Yteaeedhhdnkldaa
open Go.RowKit Go.Shelf Pl

attribute [local go_sem] Oper.semAt_some

theorem info_u64 : (Try.prog.info? 24).map (fun i => (i.zero, i.size, i.bytes)) = some (some (.int .u64 0), 1, 8) := by kernel_rfl
def B64 (d : Nat) : Value := .int .u64 d

set_option maxRecDepth 100000 in
set_option maxHeartbeats 1000000 in
theorem forms_in (n : Nat) (a : Option Addr) (len cap : Nat) (w : World) :
    CallsIn Fence.wide n Try.prog 115 #[.slice a len cap] w fun e w' => e = .returned (.func (.func 138) #[] #[.pointer (some ⟨w.heap.size, 0, none⟩)]) ∧ w' = w.alloc (.cells #[.slice a len cap] 22) := by
  refine callsIn_of_wp Try.func115 rfl trivial ?_ rfl
  simp only [Try.ntmps115, List.size_toArray, List.length_cons, List.length_nil, Nat.reduceAdd, Nat.reduceSub, Array.replicate_succ, Array.replicate_zero, List.push_toArray, List.append_toArray, List.nil_append, List.cons_append]
  gi_wp2
  go_ret
  exact ⟨rfl, rfl⟩

theorem forms_stops (n : Nat) (hn : 1 ≤ n) (Bs : Nat) (sv : Value) (bs : List Nat) (w0 : World) (hrow : BRow w0 sv bs) (w : World) (hB : Below w0.heap.size w0 w) (hbox : Boxed w Bs 22 sv) :
    SeqStopsK Fence.wide n Try.prog 138 #[.pointer (some ⟨Bs, 0, none⟩)] encF (KpB w0.heap.size Bs) (fun ys => ys = sq bs) (fun pre => pre <+: sq bs) (sq bs).length w := fun l J Jx W hW _ _ hY h0 =>
  forms1_in n hn l Bs sv bs w0 hrow J Jx hY W (hB.trans (hW.mono hB.size)) ((hW.block Bs hbox.lt).trans hbox) h0

theorem sqF_end (n : Nat) : ∀ (l : List Nat) (a b : List (Nat × Nat)) (x : Nat × Nat), sqF n l = a ++ x :: b → x.2 ≠ 0 → b = [] := by
  induction n with
  | zero => intro l a b x h; simp [sqF] at h
  | succ n ih =>
    intro l a b x h hx
    unfold sqF at h
    split at h
    · simp at h
    split at h
    · cases a with
      | nil => simp at h; exact h.2
      | cons p a => simp at h
    · cases a with
      | nil => simp at h; obtain ⟨rfl, _⟩ := h; simp at hx
      | cons p a => simp at h; exact ih _ a b x h.2 hx
theorem sq_end {l : List Nat} {a : List (Nat × Nat)} {x : Nat × Nat} (h : a ++ [x] <+: sq l) (hx : x.2 ≠ 0) : sq l = a ++ [x] := by
  obtain ⟨b, hb⟩ := h
  have : sqF l.length l = a ++ x :: b := by show sq l = _; rw [← hb]; simp
  have := sqF_end _ _ _ _ _ this hx
  subst this
  rw [← hb]; simp

theorem boxed_other {W w1 : World} {n₀ B b : Nat} {t e : TypeId} {size k : Nat} {u v v' : Value} {xs : List Value} {tmp : Obj} (hb : Boxed W b t u) (hte : t ≠ e) (hrow : W.ownsRow n₀ e size v k xs)
    (hgrow : (W.alloc tmp).grownBy w1 v.ownBlock) (hne : b ≠ B) : Boxed (w1.setCell ⟨B, 0, none⟩ v') b t u :=
  ((hb.alloc tmp).kept hgrow (hb.not_row hte hrow)).other hne v'

theorem owns_shape {w : World} {base : Nat} {e : TypeId} {size : Nat} {v : Value} {n : Nat} {xs : List Value} (h : w.ownsRow base e size v n xs) : ∃ a c, v = .slice a n c := by
  rcases h.2 with ⟨rfl, rfl⟩ | ⟨g, cap, cur, rfl, _⟩
  · exact ⟨_, _, rfl⟩
  · exact ⟨_, _, rfl⟩

/-- What Split says: the error, and the numbers if there is none. -/
def splitE (l : List Nat) : Nat := ((sq l).getLast?.map (·.2)).getD 0
def splitV (l : List Nat) : List Nat := if splitE l = 0 then (sq l).map (·.1) else []

set_option maxRecDepth 100000 in
set_option maxHeartbeats 2000000 in
theorem split_in (n : Nat) (hn : 3 ≤ n) (v : Value) (bs : List Nat) (w : World) (hrow : BRow w v bs) (hbl : (sq bs).length ≤ 10000000000000) :
    CallsIn Fence.wide n Try.prog 56 #[v] w fun e W' => ∃ v', e = .returned (.tuple #[v', .int .i64 (splitE bs)]) ∧ W'.ownsRow w.heap.size 24 1 v' (splitV bs).length ((splitV bs).map B64) ∧ Below w.heap.size w W' := by
  have h1 : 1 ≤ n := by omega
  obtain ⟨i0, hi, hz0, hz1, hz2⟩ := info_parts info_u64
  obtain ⟨sa, sc, rfl⟩ := hrow.shape
  refine callsIn_of_wp_marks Try.func56 rfl trivial ?_ rfl
  simp only [Try.ntmps56, List.size_toArray, List.length_cons, List.length_nil, Nat.reduceAdd, Nat.reduceSub, Array.replicate_succ, Array.replicate_zero, List.push_toArray, List.append_toArray, List.nil_append, List.cons_append]
  gi_wp2_with (refine ⟨trivial, ?_⟩; gi_at_call 115; refine (forms_in (n - 1) _ _ _ _).mono ?_; rintro e w' ⟨rfl, rfl⟩)
  have b1 := Boxed.new w 25 (.slice none 0 0)
  have b2 := Boxed.new (w.alloc (.cells #[.slice none 0 0] 25)) 53 (.int .i64 0)
  have b3 := Boxed.new ((w.alloc (.cells #[.slice none 0 0] 25)).alloc (.cells #[.int .i64 0] 53)) 25 (.slice none 0 0)
  have b4 := Boxed.new (((w.alloc (.cells #[.slice none 0 0] 25)).alloc (.cells #[.int .i64 0] 53)).alloc (.cells #[.slice none 0 0] 25)) 22 (.slice sa bs.length sc)
  simp only [World.size_alloc] at b2 b3 b4
  have hB0 : Below w.heap.size w ((((w.alloc (.cells #[.slice none 0 0] 25)).alloc (.cells #[.int .i64 0] 53)).alloc (.cells #[.slice none 0 0] 25)).alloc (.cells #[.slice sa bs.length sc] 22)) := ((((Below.refl _ w).alloc (Nat.le_refl _) _).alloc (by simp) _).alloc (by simp; omega) _).alloc (by simp; omega) _
  have hsplitE := Lib.hid (show splitE bs = ((sq bs).getLast?.map (·.2)).getD 0 from rfl)
  refine wpIn_rangeFunc_ownG (encs := encF) (Kp := KpB w.heap.size (w.heap.size + 3)) rfl h1 (gf := 138) (lb := #[.pointer (some ⟨w.heap.size + 3, 0, none⟩)]) rfl trivial (enters_of Try.func138 (by kernel_rfl) rfl)
    (forms_stops (n - 1) (by omega) (w.heap.size + 3) (.slice sa bs.length sc) bs w hrow _ hB0 b4)
    (fun h k => ⟨h.1.trans k.1, k.2.trans h.2⟩)
    (fun W l o o' hl h hc hw => ⟨belowK_b (w := w) (Nat.le_refl _) W l o o' (by simp at hl; omega) h hc hw, World.putObj_heap_other (by simp at hl; omega)⟩)
    (Below.refl _ _) (fun _ => rfl)
    (fun pre W => ((∀ p ∈ pre, p.2 = 0) ∧ Boxed W (w.heap.size + 3) 22 (.slice sa bs.length sc) ∧ Boxed W w.heap.size 25 (.slice none 0 0) ∧ Boxed W (w.heap.size + 1) 53 (.int .i64 0) ∧ ∃ v, Boxed W (w.heap.size + 2) 25 v ∧ W.ownsRow w.heap.size 24 1 v pre.length (pre.map fun p => B64 p.1) ∧ True) ∧ Below w.heap.size w W)
    (fun c pre W => (c = .ret ∧ ∃ ini last, pre = ini ++ [last] ∧ last.2 ≠ 0 ∧ Boxed W w.heap.size 25 (.slice none 0 0) ∧ Boxed W (w.heap.size + 1) 53 (.int .i64 (last.2 : Int))) ∧ Below w.heap.size w W)
    (OwnFrom.and (OwnFrom.and (ownFrom_pure _ _) (OwnFrom.and (Own.from (boxed_own _ _ _) _) (OwnFrom.and (Own.from (boxed_own _ _ _) _) (OwnFrom.and (Own.from (boxed_own _ _ _) _) (Own.from (holdsRow_own w.heap.size (w.heap.size + 2) 25 24 1 (fun pre => pre.length) (fun pre : List (Nat × Nat) => pre.map fun p => B64 p.1) (fun _ _ => True)) _))))) (ownFrom_below (Nat.le_refl _) (by simp; omega)))
    (fun c => OwnFrom.and (Own.from (fun s A B row hs hg hr => by obtain ⟨hc, ini, last, e1, e2, e3, e4⟩ := hs; exact ⟨hc, ini, last, e1, e2, boxed_own _ _ (fun _ : Unit => _) () A B row e3 hg hr, boxed_own _ _ (fun _ : Unit => _) () A B row e4 hg hr⟩) _) (ownFrom_below (Nat.le_refl _) (by simp; omega)))
    ⟨⟨fun p hp => (by cases hp), b4, ((b1.alloc _).alloc _).alloc _, (b2.alloc _).alloc _, _, b3.alloc _, World.ownsRow_nil _ _ _ _, trivial⟩, hB0⟩
    (fun x => { tmps := #[.slice sa bs.length sc, undef, .pointer (some ⟨w.heap.size, 0, none⟩), .pointer (some ⟨w.heap.size + 1, 0, none⟩), .pointer (some ⟨w.heap.size + 2, 0, none⟩), .int .u64 (x.1 : Int), .int .i64 (x.2 : Int), .slice sa bs.length sc, .func (.func 138) #[] #[.pointer (some ⟨w.heap.size + 3, 0, none⟩)], .int .u64 (x.1 : Int), .int .i64 (x.2 : Int), undef, undef, undef, undef, undef, undef, undef, undef], defers := [] }) ?assign ?body ?done ?stop
  case assign =>
    intro l x W K hK
    simp only [encF]
    gi_wp2
    exact hK
  case body =>
    rintro l pre x W ⟨⟨hp, hx4, hx1, hx2, v, hv, hrow2, -⟩, hB⟩ hlt
    have hX1 := Lib.hid hx1
    have hX2 := Lib.hid hx2
    have hX4 := Lib.hid hx4
    have hV := Lib.hid hv
    have hR2 := Lib.hid hrow2
    have hBB := Lib.hid hB
    have hP := Lib.hid hp
    have hsz := hB.size
    have hI := Lib.hid hi
    have hZ0 := Lib.hid hz0
    have hZ1 := Lib.hid hz1
    have hZ2 := Lib.hid hz2
    have c1 := hx1.cell
    have c2 := hx2.cell
    have c3 := hv.cell
    have f1 := hx1.frozen
    have f2 := hx2.frozen
    have f3 := hv.frozen
    clear hx1 hx2 hx4 hv hrow2 hB hp hi hz0 hz1 hz2 b1 b2 b3 b4 hB0 hrow
    by_cases he : x.2 = 0
    · have hne : ((x.2 : Int) != 0) = false := by rw [he]; rfl
      have hE := Lib.hid he; clear he
      gi_wp2_with (gi_at_builtin; refine wpListIn_append_own _ rfl _ _ 25 rfl w.heap.size 24 i0 (.int .u64 0) 1 8 Try.underlying25 hI.out hZ0.out hZ1.out hZ2.out rfl (by decide) _ _ _ rfl (hR2.out.alloc _) ⟨W.heap.size, 0, none⟩ 1 1 [.int .u64 (x.1 : Int)] rfl rfl (cell_one_new _ _ _) (by intro u hu; simp at hu; subst hu; rfl) (by unfold maxLen; omega) (by omega) (by simp; omega) ?_; intro v' w1 hown' hgrow _; obtain ⟨g', cap', rfl⟩ := ownsRow_succ hown'; obtain ⟨hv1, hv2, hr2, hk2, hb2⟩ := hV.out.appended (by decide) hR2.out hsz (by omega) hown' hgrow; have hc1 := hv1.cell; have hf1 := hv1.frozen; have hG := Lib.hid hgrow; have hV2 := Lib.hid hv2; have hR3 := Lib.hid hr2; have hK2 := Lib.hid hk2; have hB2 := Lib.hid hb2; clear hgrow hv1 hv2 hr2 hk2 hb2 hown')
      have k1 := (boxed_other (v' := .slice (some ⟨g', 0, none⟩) (pre.length + 1) cap') hX1.out (by decide) hR2.out hG.out (by omega : w.heap.size ≠ w.heap.size + 2))
      have k2 := (boxed_other (v' := .slice (some ⟨g', 0, none⟩) (pre.length + 1) cap') hX2.out (by decide) hR2.out hG.out (by omega : w.heap.size + 1 ≠ w.heap.size + 2))
      have k4 := (boxed_other (v' := .slice (some ⟨g', 0, none⟩) (pre.length + 1) cap') hX4.out (by decide) hR2.out hG.out (by omega : w.heap.size + 3 ≠ w.heap.size + 2))
      refine ⟨hK2.out.from _, ⟨hB2.out, k4.trans hX4.out.symm⟩, ⟨?_, k4, k1, k2, _, hV2.out, ?_, trivial⟩, hBB.out.trans hB2.out⟩
      · intro p hp
        rcases List.mem_append.1 hp with h | h
        · exact hP.out p h
        · simp at h; subst h; exact hE.out
      · simpa [B64] using hR3.out
    · have hne : ((x.2 : Int) != 0) = true := by rw [bne_iff_ne]; omega
      have hE := Lib.hid he; clear he
      gi_wp2
      exact ⟨((KeepsOthers.setCell _ _ _).trans (KeepsOthers.setCell _ _ _)).from _, ⟨rfl, pre, x, rfl, hE.out, (hX1.out.set _).other (by omega) _, (hX2.out.other (by omega) _).set _⟩,
        (hBB.out.setCell (p := ⟨w.heap.size, 0, none⟩) (Nat.le_refl _) _).setCell (p := ⟨w.heap.size + 1, 0, none⟩) (by simp) _⟩
  case done =>
    rintro D ys W hD rfl ⟨⟨hp, hx4, hx1, hx2, v, hv, hrow2, -⟩, hB⟩ hK
    obtain ⟨va, vc, rfl⟩ := owns_shape hrow2
    have hfin : splitE bs = 0 := by
      rw [hsplitE.out]
      cases hl : (sq bs).getLast? with
      | none => rfl
      | some p => exact hp p (List.mem_of_getLast? hl)
    have hfin2 : splitV bs = (sq bs).map (·.1) := by unfold splitV; rw [if_pos hfin]
    have hF := Lib.hid hfin
    have hF2 := Lib.hid hfin2
    clear hfin hfin2
    have hX1 := Lib.hid hx1
    have hX2 := Lib.hid hx2
    have hV := Lib.hid hv
    have hR2 := Lib.hid hrow2
    have hBB := Lib.hid hB
    have hP := Lib.hid hp
    have hKK := Lib.hid hK
    have hDD := Lib.hid hD
    have c1 : W.cell? ⟨w.heap.size, 0, none⟩ = some (.slice none 0 0) := hx1.cell
    have c2 : W.cell? ⟨w.heap.size + 1, 0, none⟩ = some (.int .i64 0) := hx2.cell
    have c3 : W.cell? ⟨w.heap.size + 1 + 1, 0, none⟩ = some (.slice va (sq bs).length vc) := hv.cell
    have f1 : W.frozen? ⟨w.heap.size, 0, none⟩ = false := hx1.frozen
    have f2 : W.frozen? ⟨w.heap.size + 1, 0, none⟩ = false := hx2.frozen
    clear hx1 hx2 hx4 hv hrow2 hB hp hi hz0 hz1 hz2 b1 b2 b3 b4 hB0 hrow hK hD
    gi_wp2
    have k1 : Boxed ((W.setCell ⟨w.heap.size, 0, none⟩ (.slice va (sq bs).length vc)).setCell ⟨w.heap.size + 1, 0, none⟩ (.int .i64 0)) w.heap.size 25 (.slice va (sq bs).length vc) := (hX1.out.set _).other (by omega) _
    have k2 : Boxed ((W.setCell ⟨w.heap.size, 0, none⟩ (.slice va (sq bs).length vc)).setCell ⟨w.heap.size + 1, 0, none⟩ (.int .i64 0)) (w.heap.size + 1) 53 (.int .i64 0) := (hX2.out.other (by omega) _).set _
    have hR4 : World.ownsRow ((W.setCell ⟨w.heap.size, 0, none⟩ (.slice va (sq bs).length vc)).setCell ⟨w.heap.size + 1, 0, none⟩ (.int .i64 0)) w.heap.size 24 1 (.slice va (sq bs).length vc) (sq bs).length ((sq bs).map fun p => B64 p.1) :=
      (hR2.out.kept (grownBy_setCell' _ _ _) (.inr (hX1.out.not_row (by decide) hR2.out).symm)).kept (grownBy_setCell' _ _ _) (.inr (hX2.out.not_row (by decide) hR2.out).symm)
    have hB4 : Below w.heap.size w ((W.setCell ⟨w.heap.size, 0, none⟩ (.slice va (sq bs).length vc)).setCell ⟨w.heap.size + 1, 0, none⟩ (.int .i64 0)) := (hBB.out.setCell (p := ⟨w.heap.size, 0, none⟩) (Nat.le_refl _) _).setCell (p := ⟨w.heap.size + 1, 0, none⟩) (by simp) _
    have hK' := ((KeepsOthers.setCell W ⟨w.heap.size, 0, none⟩ (.slice va (sq bs).length vc)).trans (KeepsOthers.setCell _ ⟨w.heap.size + 1, 0, none⟩ (.int .i64 0))).same D _ hKK.out rfl
    refine ⟨by simp, .inl ⟨_, _, rfl, run_takeDeferred hK', ?_⟩⟩
    have hD0 := hDD.out
    simp only [World.size_alloc] at hD0
    have hc1 := cell_kept k1.cell (grownBy_putObj' _ D (.deferred none)) (fun r e => by cases e; exact ⟨_, hK', rfl⟩)
    have hc2 := cell_kept k2.cell (grownBy_putObj' _ D (.deferred none)) (fun r e => by cases e; exact ⟨_, hK', rfl⟩)
    refine ⟨.tuple #[.slice va (sq bs).length vc, .int .i64 0], ?_, .slice va (sq bs).length vc, ?_, ?_, hB4.trans (belowK_b (w := w) (Nat.le_refl _) _ D _ _ (by omega) hK' rfl rfl)⟩
    · simp [results, Try.f56, go_sem, hc1, hc2]
    · rw [hF.out]; rfl
    · rw [hF2.out, List.length_map, List.map_map]
      exact ownsRow_putObj hR4 _ hK' rfl
  case stop =>
    rintro D c pre W hD hpre ⟨⟨rfl, ini, last, rfl, hne, hx1, hx2⟩, hB⟩ hK
    have hall := sq_end hpre hne
    have hfin : splitE bs = last.2 := by rw [hsplitE.out, hall]; simp
    have hfin2 : splitV bs = [] := by unfold splitV; rw [if_neg (by rw [hfin]; exact hne)]
    gi_wp2
    refine ⟨by simp, .inl ⟨_, _, rfl, run_takeDeferred hK, ?_⟩⟩
    simp only [World.size_alloc] at hD
    have hc1 := cell_kept hx1.cell (grownBy_putObj' _ D (.deferred none)) (fun r e => by cases e; exact ⟨_, hK, rfl⟩)
    have hc2 := cell_kept hx2.cell (grownBy_putObj' _ D (.deferred none)) (fun r e => by cases e; exact ⟨_, hK, rfl⟩)
    refine ⟨.tuple #[.slice none 0 0, .int .i64 (last.2 : Int)], ?_, .slice none 0 0, ?_, ?_, hB.trans (belowK_b (w := w) (Nat.le_refl _) _ D _ _ (by omega) hK rfl rfl)⟩
    · simp [results, Try.f56, go_sem, hc1, hc2]
    · rw [hfin]
    · rw [hfin2]; exact World.ownsRow_nil _ _ _ _

/-- num.Split, at any bytes. -/
theorem split_calls (v : Value) (bs : List Nat) (w : World) (hrow : BRow w v bs) (hbl : (sq bs).length ≤ 10000000000000) :
    Calls Try.prog 56 #[v] w fun e W' => ∃ v', e = .returned (.tuple #[v', .int .i64 (splitE bs)]) ∧ W'.ownsRow w.heap.size 24 1 v' (splitV bs).length ((splitV bs).map B64) ∧ Below w.heap.size w W' :=
  (callsIn_wide (n := 3)).1 (split_in 3 (by omega) v bs w hrow hbl)

theorem sqF_length (n : Nat) : ∀ l : List Nat, (sqF n l).length ≤ l.length := by
  induction n with
  | zero => intro l; simp [sqF]
  | succ n ih =>
    intro l
    unfold sqF
    split
    · simp
    split
    · simp; omega
    · rename_i h0 h
      have h1 := ih (l.drop (rd l).2.1)
      have h2 := rd_size l (by simpa using h)
      rw [List.length_drop] at h1
      rw [List.length_cons]; omega
theorem sq_length (l : List Nat) : (sq l).length ≤ l.length := sqF_length _ _
theorem sqF_range (n : Nat) : ∀ l : List Nat, AllB l → ∀ p ∈ sqF n l, p.1 < 18446744073709551616 := by
  induction n with
  | zero => intro l _ p hp; simp [sqF] at hp
  | succ n ih =>
    intro l hb p hp
    unfold sqF at hp
    split at hp
    · simp at hp
    split at hp
    · simp at hp; subst hp; simp
    · rcases List.mem_cons.1 hp with h | h
      · subst h; exact (rd_range l hb).1
      · exact ih _ (hb.drop _) p h
theorem splitV_range (l : List Nat) (hb : AllB l) : ∀ x ∈ splitV l, x < 18446744073709551616 := by
  intro x hx
  unfold splitV at hx
  split at hx
  · simp only [List.mem_map] at hx
    obtain ⟨p, hp, rfl⟩ := hx
    exact sqF_range _ l hb p hp
  · simp at hx

abbrev Own64 (w : World) (base : Nat) (v : Value) (l : List Nat) : Prop := w.ownsRow base 24 1 v l.length (l.map B64)
theorem NRow.of_own {w : World} {base : Nat} {v : Value} {l : List Nat} (h : Own64 w base v l) (hb : ∀ x ∈ l, x < 18446744073709551616) : NRow w v l := by
  refine ⟨hb, ?_⟩
  obtain ⟨hlen, ⟨rfl, hn⟩ | ⟨g, cap, cur, rfl, h1, h2, h3, h4, h5, h6⟩⟩ := h
  · exact .inl ⟨none, 0, rfl, List.eq_nil_of_length_eq_zero hn, Nat.zero_le _⟩
  · refine .inr ⟨g, 0, cap, rfl, h3, h4, fun i hi => ?_⟩
    rw [Nat.zero_add, cell_of_row w g i cur _ (0, 0) h2]
    have e : (cur.toList.take (l.length * 1))[i]? = (l.map B64)[i]? := by rw [h6]
    rw [List.getElem?_take, if_pos (by omega)] at e
    simp only [Array.getElem?_toList] at e
    rw [e]
    simp [gt, hi, B64]

/-- What was written is split again. -/
theorem form_ne (x : Nat) : form x ≠ [] := by have := (form_length x).1; intro h; rw [h] at this; simp at this
theorem sq_all : ∀ l : List Nat, (∀ x ∈ l, x < 18446744073709551616) → sq (allF l) = l.map fun x => (x, 0) := by
  intro l
  induction l with
  | nil => intro _; rfl
  | cons x l ih =>
    intro h
    have hr := rd_form x (h x (by simp)) (allF l)
    have e : allF (x :: l) = form x ++ allF l := by simp [allF]
    have hne : (allF (x :: l)).length ≠ 0 := by rw [e, List.length_append]; have := (form_length x).1; omega
    rw [sq_ok hne (by rw [e, hr]), e, hr]
    dsimp only
    rw [List.drop_left, ih (fun y hy => h y (by simp [hy]))]
    rfl
theorem split_all (l : List Nat) (h : ∀ x ∈ l, x < 18446744073709551616) : splitE (allF l) = 0 ∧ splitV (allF l) = l := by
  have hs := sq_all l h
  have he : splitE (allF l) = 0 := by
    unfold splitE
    rw [hs]
    cases hl : (l.map fun x => (x, 0)).getLast? with
    | none => rfl
    | some p =>
      have := List.mem_of_getLast? hl
      simp only [List.mem_map] at this
      obtain ⟨x, _, rfl⟩ := this
      rfl
  refine ⟨he, ?_⟩
  unfold splitV
  rw [if_pos he, hs, List.map_map]
  simp [Function.comp_def]
end Go.Proofs.Yteaeedhhdnkldaa
