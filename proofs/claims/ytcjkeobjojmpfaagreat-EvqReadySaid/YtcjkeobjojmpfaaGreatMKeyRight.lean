import Derived.Test.YtcjkeobjojmpfaaGreatMKeyB
import Derived.Test.YtcjkeobjojmpfaaGreatMIRow
import Derived.WalkMore
/-
  CONTRACT of key.Right: whether a key is right; nothing that was there is written.
-/
namespace Go.Proofs.YtcjkeobjojmpfaaGreat
open Go.RowKit Go.Shelf

attribute [local go_sem] Oper.semAt_some

/-- The fields of a key. -/
def fldK (k : Ky) : Nat → Int
  | 0 => k.1
  | 1 => k.2.1
  | _ => k.2.2
def okP (k : Ky) (i : Nat) : Prop := 0 ≤ fldK k i ∧ fldK k i ≤ mostP i
theorem right_okP (k : Ky) : RightK k ↔ ∀ i, i < 3 → okP k i := by
  unfold RightK okP
  constructor
  · rintro ⟨⟨a1, a2⟩, ⟨b1, b2⟩, ⟨c1, c2⟩⟩ i hi
    obtain rfl | rfl | rfl : i = 0 ∨ i = 1 ∨ i = 2 := by omega
    · exact ⟨a1, a2⟩
    · exact ⟨b1, b2⟩
    · exact ⟨c1, c2⟩
  · intro h
    exact ⟨h 0 (by omega), h 1 (by omega), h 2 (by omega)⟩
/-- The block K holds a key. -/
def KAt (W : World) (K : Nat) (k : Ky) : Prop := W.heap[K]? = some (.cells #[.int .i64 k.1, .int .i64 k.2.1, .int .i64 k.2.2] 31 (0, 0))
theorem KAt.cells {W : World} {K : Nat} {k : Ky} (h : KAt W K k) : ∀ i, i < 3 → W.cell? ⟨K, i, none⟩ = some (.int .i64 (fldK k i)) ∧ W.frozen? ⟨K, i, none⟩ = false := by
  unfold KAt at h
  intro i hi
  obtain rfl | rfl | rfl : i = 0 ∨ i = 1 ∨ i = 2 := by omega
  all_goals exact ⟨by simp [World.cell?, h, fldK], by simp [World.frozen?, h]⟩
theorem KAt.lt {W : World} {K : Nat} {k : Ky} (h : KAt W K k) : K < W.heap.size := (Array.getElem?_eq_some_iff.1 h).1
theorem kat_own (K : Nat) (k : Ky) : Own (fun (_ : Nat) (W : World) => KAt W K k) := fun _ X Y row hs hg hrow =>
  (hg.block K (Array.getElem?_eq_some_iff.1 hs).1 (fun e => by obtain ⟨o, ho, hc⟩ := hrow K e.symm; unfold KAt at hs; rw [hs] at ho; cases ho; cases hc)).trans hs
/-- The block p holds the part of an index. -/
def PAt (W : World) (p K i : Nat) : Prop := W.heap[p]? = some (.cells #[.pointer (some ⟨K, i, none⟩), .int .i64 (mostP i), .int .i64 (sizeP i)] 144 (0, 0))
theorem PAt.cells {W : World} {p K i : Nat} (h : PAt W p K i) : W.cell? ⟨p, 0, none⟩ = some (.pointer (some ⟨K, i, none⟩)) ∧ W.cell? ⟨p, 1, none⟩ = some (.int .i64 (mostP i)) ∧ W.cell? ⟨p, 2, none⟩ = some (.int .i64 (sizeP i)) := by
  unfold PAt at h
  exact ⟨by simp [World.cell?, h], by simp [World.cell?, h], by simp [World.cell?, h]⟩
theorem pat_own (p K i : Nat) : Own (fun (_ : Unit) (W : World) => PAt W p K i) := fun _ X Y row hs hg hrow =>
  (hg.block p (Array.getElem?_eq_some_iff.1 hs).1 (fun e => by obtain ⟨o, ho, hc⟩ := hrow p e.symm; unfold PAt at hs; rw [hs] at ho; cases ho; cases hc)).trans hs

theorem keepsFrom_grown {B : Nat} {W W' : World} (hg : W.grownBy W' none) : KeepsFrom B W W' := ⟨hg.size, fun k o _ h0 _ => (hg.block k (Array.getElem?_eq_some_iff.1 h0).1 (by simp)).trans h0⟩
theorem keepsFrom_below {B : Nat} {W W' : World} (hb : Below W.heap.size W W') : KeepsFrom B W W' := keepsFrom_grown (grown_below none hb)

theorem keepsFrom_set (B : Nat) (W : World) (p : Addr) (v : Value) : KeepsFrom B W (W.setCell p v).drew := ⟨((KeepsOthers.setCell W p v).from B).size, ((KeepsOthers.setCell W p v).from B).same⟩

set_option maxRecDepth 100000 in
set_option maxHeartbeats 2000000 in
theorem rightK_in (n : Nat) (hn : 3 ≤ n) (k : Ky) (w : World) :
    CallsIn Fence.wide n Tryz.prog 60 #[.agg #[.int .i64 k.1, .int .i64 k.2.1, .int .i64 k.2.2]] w fun e W' => e = .returned (.bool (decide (RightK k))) ∧ Below w.heap.size w W' := by
  have h1 : 1 ≤ n := by omega
  refine callsIn_of_wp_marks Tryz.func60 rfl trivial ?_ rfl
  simp only [Tryz.ntmps60, List.size_toArray, List.length_cons, List.length_nil, Nat.reduceAdd, Nat.reduceSub, Array.replicate_succ, Array.replicate_zero, List.push_toArray, List.append_toArray, List.nil_append, List.cons_append]
  gi_wp2_with (refine ⟨trivial, ?_⟩; gi_at_call 78; refine (partsK_in (n - 1) w.heap.size _).mono ?_; rintro e w' ⟨rfl, rfl⟩)
  have k0 : KAt (((w.alloc (.cells #[.int .i64 k.1, .int .i64 k.2.1, .int .i64 k.2.2] 31)).alloc (.cells #[.bool false] 4)).alloc (.cells #[.pointer (some ⟨w.heap.size, 0, none⟩)] 141)) w.heap.size k :=
    ((Below.heap_alloc _ _ _ (by simp; omega)).trans (Below.heap_alloc _ _ _ (by simp))).trans (World.alloc_heap_new w _)
  have b1 : Boxed (((w.alloc (.cells #[.int .i64 k.1, .int .i64 k.2.1, .int .i64 k.2.2] 31)).alloc (.cells #[.bool false] 4)).alloc (.cells #[.pointer (some ⟨w.heap.size, 0, none⟩)] 141)) (w.heap.size + 1) 4 (.bool false) := by
    have := Boxed.new (w.alloc (.cells #[.int .i64 k.1, .int .i64 k.2.1, .int .i64 k.2.2] 31)) 4 (.bool false)
    rw [World.size_alloc] at this
    exact this.alloc _
  have b2 : Boxed (((w.alloc (.cells #[.int .i64 k.1, .int .i64 k.2.1, .int .i64 k.2.2] 31)).alloc (.cells #[.bool false] 4)).alloc (.cells #[.pointer (some ⟨w.heap.size, 0, none⟩)] 141)) (w.heap.size + 1 + 1) 141 (.pointer (some ⟨w.heap.size, 0, none⟩)) := by
    have := Boxed.new ((w.alloc (.cells #[.int .i64 k.1, .int .i64 k.2.1, .int .i64 k.2.2] 31)).alloc (.cells #[.bool false] 4)) 141 (.pointer (some ⟨w.heap.size, 0, none⟩))
    rw [World.size_alloc, World.size_alloc] at this
    exact this
  have hB0 : Below w.heap.size w (((w.alloc (.cells #[.int .i64 k.1, .int .i64 k.2.1, .int .i64 k.2.2] 31)).alloc (.cells #[.bool false] 4)).alloc (.cells #[.pointer (some ⟨w.heap.size, 0, none⟩)] 141)) := (((Below.refl _ w).alloc (Nat.le_refl _) _).alloc (by simp) _).alloc (by simp; omega) _
  have hs0 : (((w.alloc (.cells #[.int .i64 k.1, .int .i64 k.2.1, .int .i64 k.2.2] 31)).alloc (.cells #[.bool false] 4)).alloc (.cells #[.pointer (some ⟨w.heap.size, 0, none⟩)] 141)).heap.size = w.heap.size + 3 := by simp
  generalize (((w.alloc (.cells #[.int .i64 k.1, .int .i64 k.2.1, .int .i64 k.2.2] 31)).alloc (.cells #[.bool false] 4)).alloc (.cells #[.pointer (some ⟨w.heap.size, 0, none⟩)] 141)) = W0 at *
  refine wpIn_rangeTied (encs := encP w.heap.size) (N := 3) rfl h1 (gf := 105) (lb := #[.pointer (some ⟨w.heap.size + 1 + 1, 0, none⟩)]) rfl trivial (enters_of Tryz.func105 (by kernel_rfl) rfl)
    (partsK_tied (n - 1) (by omega) (w.heap.size + 1 + 1) w.heap.size) (fun W hb => (hb.block _ (by omega)).trans b2) (fun _ => rfl)
    (fun i W => (((∀ j, j < i → okP k j) ∧ KAt W w.heap.size k) ∧ Boxed W (w.heap.size + 1) 4 (.bool false)) ∧ Below w.heap.size w W)
    (fun c _ W => ((c = .ret ∧ ¬ RightK k) ∧ Boxed W (w.heap.size + 1) 4 (.bool false)) ∧ Below w.heap.size w W)
    (OwnFrom.and (OwnFrom.and (OwnFrom.and (ownFrom_pure _ _) (Own.from (kat_own _ _) _)) (Own.from (boxed_own _ _ (fun _ : Nat => _)) _)) (ownFrom_below (Nat.le_refl _) (by omega)))
    (fun _ => OwnFrom.and (OwnFrom.and (ownFrom_pure _ _) (Own.from (boxed_own _ _ (fun _ : Nat => _)) _)) (ownFrom_below (Nat.le_refl _) (by omega)))
    ⟨⟨⟨fun j hj => by omega, k0⟩, b1⟩, hB0⟩
    (fun i a W => ∃ p, a = { tmps := #[.agg #[.int .i64 k.1, .int .i64 k.2.1, .int .i64 k.2.2], .pointer (some ⟨w.heap.size, 0, none⟩), .pointer (some ⟨w.heap.size + 1, 0, none⟩), undef, .pointer (some ⟨p, 0, none⟩), .func (.func 105) #[] #[.pointer (some ⟨w.heap.size + 1 + 1, 0, none⟩)], .int .i64 (i : Int), .agg #[.pointer (some ⟨w.heap.size, i, none⟩), .int .i64 (mostP i), .int .i64 (sizeP i)], undef, undef, undef, undef, undef, undef, undef, undef, undef, undef, undef, undef, undef, undef], defers := [] } ∧ PAt W p w.heap.size i)
    (fun i a => fun s X Y row hs hg hrow => by obtain ⟨p, e, hp⟩ := hs; exact ⟨p, e, (Own.from (pat_own p w.heap.size i) _) () X Y row hp hg hrow⟩)
    ?assign ?body ?done ?stop
  case assign =>
    rintro l i W K hi ⟨⟨⟨hok, hk⟩, hb⟩, hB⟩ hK
    have HK := Lib.hid hK
    have HI := Lib.hid (And.intro (And.intro (And.intro hok hk) hb) hB)
    clear hK hok hk hb hB
    simp only [encP]
    gi_wp2
    have hg := World.grownBy_alloc W (.cells #[.pointer (some ⟨w.heap.size, i, none⟩), .int .i64 (mostP i), .int .i64 (sizeP i)] 144) none
    have hbel : Below w.heap.size w (W.alloc (.cells #[.pointer (some ⟨w.heap.size, i, none⟩), .int .i64 (mostP i), .int .i64 (sizeP i)] 144)) := HI.out.2.alloc HI.out.2.size _
    exact HK.out _ _ (keepsFrom_grown hg) ⟨⟨⟨HI.out.1.1.1, (hg.block _ HI.out.1.1.2.lt (by simp)).trans HI.out.1.1.2⟩, HI.out.1.2.alloc _⟩, hbel⟩ ⟨_, rfl, World.alloc_heap_new W _⟩
  case body =>
    rintro l i a' W hi ⟨⟨⟨hok, hk⟩, hb⟩, hB⟩ ⟨p, rfl, hp⟩
    have HOk := Lib.hid hok; have HK := Lib.hid hk; have HB1 := Lib.hid hb; have HB := Lib.hid hB
    obtain ⟨p0, p1, p2⟩ := hp.cells
    obtain ⟨c0, -⟩ := hk.cells i hi
    have f1 := hb.frozen
    have d1 := hb.cell
    clear hok hk hb hB hp
    by_cases h1 : fldK k i < 0
    · have HNo := Lib.hid (show ¬ RightK k from fun h => by have := ((right_okP k).1 h i hi).1; omega)
      generalize fldK k i = x at *
      generalize mostP i = m at *
      generalize sizeP i = s at *
      have g1 : decide (x < 0) = true := decide_eq_true h1
      gi_wp2_with fail
      gi_region
      all_goals (gi_wp2; exact ⟨keepsFrom_set _ _ _ _, ⟨⟨rfl, HNo.out⟩, HB1.out.set _⟩, (HB.out.setCell (p := ⟨w.heap.size + 1, 0, none⟩) (by simp) _).drew⟩)
    · have h0 : decide (fldK k i < 0) = false := decide_eq_false h1
      by_cases h2 : mostP i < fldK k i
      · have HNo := Lib.hid (show ¬ RightK k from fun h => by have := ((right_okP k).1 h i hi).2; omega)
        have g2 : decide (mostP i < fldK k i) = true := decide_eq_true h2
        generalize fldK k i = x at *
        generalize mostP i = m at *
        generalize sizeP i = s at *
        gi_wp2_with fail
        gi_region
        all_goals (gi_wp2; exact ⟨keepsFrom_set _ _ _ _, ⟨⟨rfl, HNo.out⟩, HB1.out.set _⟩, (HB.out.setCell (p := ⟨w.heap.size + 1, 0, none⟩) (by simp) _).drew⟩)
      · have HYes := Lib.hid (show ∀ j, j < i + 1 → okP k j from fun j hj => by
          by_cases e : j = i
          · subst e; exact ⟨by omega, by omega⟩
          · exact HOk.out j (by omega))
        have g2 : decide (mostP i < fldK k i) = false := decide_eq_false h2
        generalize fldK k i = x at *
        generalize mostP i = m at *
        generalize sizeP i = s at *
        gi_wp2_with fail
        gi_region
        all_goals (gi_wp2; exact ⟨keepsFrom_below (Below.refl _ W).drew, ⟨⟨HYes.out, HK.out⟩, HB1.out⟩, HB.out.drew⟩)
  case done =>
    rintro D W hD ⟨⟨⟨hok, hk⟩, hb⟩, hB⟩ hK
    have HYes := Lib.hid ((right_okP k).2 hok)
    have HB := Lib.hid hB
    have HK := Lib.hid hK
    have f1 := hb.frozen
    have d1 := hb.cell
    have HB1 := Lib.hid hb
    clear hok hk hb hB hK b1 b2 hB0 k0
    gi_wp2
    have hne : D ≠ w.heap.size + 1 := by omega
    have HK2 : (W.setCell ⟨w.heap.size + 1, 0, none⟩ (.bool true)).heap[D]? = some (.deferred (some [])) := (Below.heap_setCell _ _ _ _ (by simp; omega)).trans HK.out
    have HB2 := HB.out.setCell (p := ⟨w.heap.size + 1, 0, none⟩) (by simp) (.bool true)
    have HC2 : (W.setCell ⟨w.heap.size + 1, 0, none⟩ (.bool true)).cell? ⟨w.heap.size + 1, 0, none⟩ = some (.bool true) := (HB1.out.set _).cell
    refine ⟨by simp, .inl ⟨_, _, rfl, run_takeDeferred HK2, ?_⟩⟩
    have HC3 : ((W.setCell ⟨w.heap.size + 1, 0, none⟩ (.bool true)).putObj D (.deferred Option.none)).cell? ⟨w.heap.size + 1, 0, none⟩ = some (.bool true) := (cell_blk (World.putObj_heap_other (by omega)) 0).trans HC2
    refine ⟨.bool true, ?_, ?_, HB2.trans (belowK_b (w := w) (Nat.le_refl _) _ D _ _ (by omega) HK2 rfl rfl)⟩
    · simp [results, Tryz.f60, go_sem, HC3]
    · rw [decide_eq_true HYes.out]
  case stop =>
    rintro D c i W hD hi ⟨⟨⟨rfl, hno⟩, hb⟩, hB⟩ hK
    have HNo := Lib.hid hno
    have HB := Lib.hid hB
    have HK := Lib.hid hK
    have f1 := hb.frozen
    have d1 := hb.cell
    have HB1 := Lib.hid hb
    clear hno hb hB hK b1 b2 hB0 k0
    gi_wp2
    refine ⟨by simp, .inl ⟨_, _, rfl, run_takeDeferred HK.out, ?_⟩⟩
    have HC3 : (W.putObj D (.deferred Option.none)).cell? ⟨w.heap.size + 1, 0, none⟩ = some (.bool false) := (cell_blk (World.putObj_heap_other (by omega)) 0).trans d1
    refine ⟨.bool false, ?_, ?_, HB.out.trans (belowK_b (w := w) (Nat.le_refl _) _ D _ _ (by omega) HK.out rfl rfl)⟩
    · simp [results, Tryz.f60, go_sem, HC3]
    · rw [decide_eq_false HNo.out]

/-- key.Right, at any key. -/
theorem rightK_calls (k : Ky) (w : World) :
    Calls Tryz.prog 60 #[.agg #[.int .i64 k.1, .int .i64 k.2.1, .int .i64 k.2.2]] w fun e w' => e = .returned (.bool (decide (RightK k))) ∧ Below w.heap.size w w' :=
  (callsIn_wide (n := 3)).1 (rightK_in 3 (by omega) k w)
end Go.Proofs.YtcjkeobjojmpfaaGreat
