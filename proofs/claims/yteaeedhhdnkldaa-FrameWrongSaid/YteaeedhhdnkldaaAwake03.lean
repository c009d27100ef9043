/-
  CONTRACT of the examples of layer 3 (fermatalaw03.awake): they hold; nothing that was there is written.
-/
import Derived.Test.YteaeedhhdnkldaaEqualM
import Derived.Test.YteaeedhhdnkldaaAwake01
namespace Go.Proofs.Yteaeedhhdnkldaa
open Go.RowKit Go.Shelf Pl

theorem writeB_small (v : Value) (m : List Nat) (w : World) (h : BRow w v m) (hm : m.length ≤ 16384) :
    Calls Try.prog 40 #[v] w fun e w' => ∃ v', e = .returned (.tuple #[v', .int .i64 0]) ∧ Own8 w' w.heap.size v' (fr1 m) ∧ Below w.heap.size w w' := by
  have := writeB_calls v m w h
  rw [if_neg (by omega), if_neg (by omega)] at this
  exact this

theorem bytesEqual_b (v v' : Value) (l m : List Nat) (w : World) (h : BRow w v l) (h' : BRow w v' m) (r : Bool) (hr : decide (l = m) = r) :
    Calls Try.prog 42 #[v, v'] w fun e w' => e = .returned (.bool r) ∧ Below w.heap.size w w' :=
  (bytesEqual_calls v v' l m w h h').mono fun e w' ⟨h1, h2⟩ => ⟨by rw [h1, hr], by rw [← h2]; exact Below.refl _ _⟩
theorem equalM_b (v u : Value) (L M : List (List Nat)) (w : World) (h : TRow w v L) (h2 : TRow w u M) (r : Bool) (hr : decide (L = M) = r) :
    Calls Try.prog 34 #[v, u] w fun e w' => e = .returned (.bool r) ∧ Below w.heap.size w w' :=
  (equalM_calls v u L M w h h2).mono fun e w' ⟨h1, h2⟩ => ⟨by rw [h1, hr], by rw [← h2]; exact Below.refl _ _⟩
theorem fed_row {W w' : World} {g st fr b n base : Nat} {h v : Value} {hl : List Nat} {V : List Value} (hr : W.ownsRow b 22 1 v n V) (ho : Own8 W base h hl) (hs : SAt W g st fr h) (hg : ∃ w1, W.grownBy w1 h.ownBlock ∧ w1.grownBy w' (some g)) : w'.ownsRow b 22 1 v n V := by
  obtain ⟨w1, g1, g2⟩ := hg
  have hr1 : w1.ownsRow b 22 1 v n V := by
    refine hr.kept g1 ?_
    rcases hr.2 with ⟨rfl, _⟩ | ⟨k, cap, cur, rfl, _, hgb, _⟩
    · exact .inl rfl
    · refine .inr fun e => ?_
      rcases ho.2 with ⟨rfl, _⟩ | ⟨k2, cap2, cur2, rfl, _, hgb2, _⟩
      · simp [Value.ownBlock] at e
      · simp only [Value.ownBlock, Option.some.injEq] at e
        subst e
        rw [hgb] at hgb2
        simp at hgb2
  have hs1 : SAt w1 g st fr h := hs.grown ho (by decide) g1
  refine hr1.kept g2 ?_
  rcases hr1.2 with ⟨rfl, _⟩ | ⟨k, cap, cur, rfl, _, hgb, _⟩
  · exact .inl rfl
  · refine .inr fun e => ?_
    simp only [Value.ownBlock, Option.some.injEq] at e
    rw [e, show w1.heap[g]? = _ from hs1] at hgb
    simp at hgb
theorem fed_own8 {W w' : World} {g st fr b base : Nat} {h v : Value} {hl l : List Nat} (hr : Own8 W b v l) (hne : ∀ k, v.ownBlock = some k → h.ownBlock ≠ some k) (ho : Own8 W base h hl) (hs : SAt W g st fr h) (hg : ∃ w1, W.grownBy w1 h.ownBlock ∧ w1.grownBy w' (some g)) : Own8 w' b v l := by
  obtain ⟨w1, g1, g2⟩ := hg
  have hr1 : Own8 w1 b v l := by
    refine hr.kept g1 ?_
    rcases hr.2 with ⟨e, _⟩ | ⟨k, cap, cur, e, _, hgb, _⟩
    · exact .inl (by rw [e]; rfl)
    · refine .inr fun e2 => ?_
      have hk : v.ownBlock = some k := by rw [e]; rfl
      exact hne k hk (by rw [← hk]; exact e2.symm)
  have hs1 : SAt w1 g st fr h := hs.grown ho (by decide) g1
  refine hr1.kept g2 ?_
  rcases hr1.2 with ⟨e, _⟩ | ⟨k, cap, cur, e, _, hgb, _⟩
  · exact .inl (by rw [e]; rfl)
  · refine .inr fun e2 => ?_
    rw [e] at e2
    simp only [Value.ownBlock, Option.some.injEq] at e2
    rw [e2, show w1.heap[g]? = _ from hs1] at hgb
    simp at hgb
theorem fed_mval {W w' : World} {g st fr b base : Nat} {h : Value} {hl : List Nat} {V : List Value} {L : List (List Nat)} (hV : MVal W b V L) (hne : ∀ i < L.length, ∀ k, (V.getD i undef).ownBlock = some k → h.ownBlock ≠ some k) (ho : Own8 W base h hl) (hs : SAt W g st fr h) (hg : ∃ w1, W.grownBy w1 h.ownBlock ∧ w1.grownBy w' (some g)) : MVal w' b V L :=
  ⟨hV.1, fun i hi => fed_own8 (hV.2.1 i hi) (hne i hi) ho hs hg, hV.2.2⟩
theorem fed_below {w W w' : World} {g base : Nat} {h : Value} {hl : List Nat} (hB : Below base w W) (hbase : base ≤ W.heap.size) (ho : Own8 W base h hl) (hgb : base ≤ g) (hg : ∃ w1, W.grownBy w1 h.ownBlock ∧ w1.grownBy w' (some g)) : Below base w w' := by
  obtain ⟨w1, g1, g2⟩ := hg
  exact (hB.grown g1 hbase fun k hk => (ho.lt k hk).1).grown g2 (Nat.le_trans hbase g1.size) fun k e => by cases e; exact hgb

def nxB (k : Nat) : List Nat := if k = 0 then [2, 7] else if k = 1 then [] else if k = 2 then [247] else [248, 1]
def nxN (k : Nat) : Nat := if k = 0 ∨ k = 1 then 1 else if k = 2 then 248 else 257
theorem nxB_need : ∀ k, k < 4 → fneed (nxB k) = nxN k ∧ fneedE (nxB k) = 0 := by decide
def nxW (W : World) (t : TypeId) : World := ((((W.alloc (.cells #[.int .u8 2, .int .u8 7] 5)).alloc (.cells #[.int .u8 247] 5)).alloc (.cells #[.int .u8 248, .int .u8 1] 5)).alloc
    (.cells #[.slice (some ⟨W.heap.size, 0, none⟩) 2 2, .int .i64 1, .slice none 0 0, .int .i64 1, .slice (some ⟨W.heap.size + 1, 0, none⟩) 1 1, .int .i64 248, .slice (some ⟨W.heap.size + 1 + 1, 0, none⟩) 2 2, .int .i64 257] t))
theorem nxTable (W : World) (t : TypeId) : ∀ k, k < 4 → ∃ a, ((nxW W t).cell? ⟨W.heap.size + 1 + 1 + 1, k * 2, none⟩ = some (.slice a (nxB k).length (nxB k).length)) ∧
    (nxW W t).cell? ⟨W.heap.size + 1 + 1 + 1, k * 2 + 1, none⟩ = some (.int .i64 (nxN k : Nat)) ∧
    BRow (nxW W t) (.slice a (nxB k).length (nxB k).length) (nxB k) := by
  intro k hk
  have e : (nxW W t).heap[W.heap.size + 1 + 1 + 1]? = some (.cells #[.slice (some ⟨W.heap.size, 0, none⟩) 2 2, .int .i64 1, .slice none 0 0, .int .i64 1, .slice (some ⟨W.heap.size + 1, 0, none⟩) 1 1, .int .i64 248, .slice (some ⟨W.heap.size + 1 + 1, 0, none⟩) 2 2, .int .i64 257] t (0, 0)) := by
    have e := World.alloc_heap_new (((W.alloc (.cells #[.int .u8 2, .int .u8 7] 5)).alloc (.cells #[.int .u8 247] 5)).alloc (.cells #[.int .u8 248, .int .u8 1] 5)) (.cells #[.slice (some ⟨W.heap.size, 0, none⟩) 2 2, .int .i64 1, .slice none 0 0, .int .i64 1, .slice (some ⟨W.heap.size + 1, 0, none⟩) 1 1, .int .i64 248, .slice (some ⟨W.heap.size + 1 + 1, 0, none⟩) 2 2, .int .i64 257] t)
    simp only [World.size_alloc] at e
    exact e
  have r : ∀ (X : World) (o : Obj), Below X.heap.size X (X.alloc o) := fun X o => (Below.refl _ X).alloc (Nat.le_refl _) o
  rcases (show k = 0 ∨ k = 1 ∨ k = 2 ∨ k = 3 by omega) with rfl | rfl | rfl | rfl
  · refine ⟨some ⟨W.heap.size, 0, none⟩, by simp [World.cell?, e, nxB], by simp [World.cell?, e, nxN], ?_⟩
    have h := BRow.litAt W [2, 7] 5 #[.int .u8 2, .int .u8 7] W.heap.size 2 rfl rfl rfl (AllB.of rfl) (by decide)
    exact ((h.below (r _ _)).below (r _ _)).below (r _ _)
  · exact ⟨none, by simp [World.cell?, e, nxB], by simp [World.cell?, e, nxN], BRow.empty none 0 (Nat.zero_le _)⟩
  · refine ⟨some ⟨W.heap.size + 1, 0, none⟩, by simp [World.cell?, e, nxB], by simp [World.cell?, e, nxN], ?_⟩
    have h := BRow.litAt (W.alloc (.cells #[.int .u8 2, .int .u8 7] 5)) [247] 5 #[.int .u8 247] (W.heap.size + 1) 1 rfl (by simp) rfl (AllB.of rfl) (by decide)
    exact (h.below (r _ _)).below (r _ _)
  · refine ⟨some ⟨W.heap.size + 1 + 1, 0, none⟩, by simp [World.cell?, e, nxB], by simp [World.cell?, e, nxN], ?_⟩
    have h := BRow.litAt ((W.alloc (.cells #[.int .u8 2, .int .u8 7] 5)).alloc (.cells #[.int .u8 247] 5)) [248, 1] 5 #[.int .u8 248, .int .u8 1] (W.heap.size + 1 + 1) 2 rfl (by simp) rfl (AllB.of rfl) (by decide)
    exact h.below (r _ _)
def wxB (k : Nat) : List Nat := if k = 0 then [249] else if k = 1 then [247, 9] else [248, 64, 1]
theorem wxB_need : ∀ k, k < 3 → fneed (wxB k) = 0 ∧ fneedE (wxB k) = 31 := by decide
def wxW (W : World) : World := ((((W.alloc (.cells #[.int .u8 249] 5)).alloc (.cells #[.int .u8 247, .int .u8 9] 5)).alloc (.cells #[.int .u8 248, .int .u8 64, .int .u8 1] 5)).alloc
    (.cells #[.slice (some ⟨W.heap.size, 0, none⟩) 1 1, .slice (some ⟨W.heap.size + 1, 0, none⟩) 2 2, .slice (some ⟨W.heap.size + 1 + 1, 0, none⟩) 3 3] 22))
theorem wxTable (W : World) : ∀ k, k < 3 → ∃ a, ((wxW W).cell? ⟨W.heap.size + 1 + 1 + 1, k, none⟩ = some (.slice a (wxB k).length (wxB k).length)) ∧
    BRow (wxW W) (.slice a (wxB k).length (wxB k).length) (wxB k) := by
  intro k hk
  have e : (wxW W).heap[W.heap.size + 1 + 1 + 1]? = some (.cells #[.slice (some ⟨W.heap.size, 0, none⟩) 1 1, .slice (some ⟨W.heap.size + 1, 0, none⟩) 2 2, .slice (some ⟨W.heap.size + 1 + 1, 0, none⟩) 3 3] 22 (0, 0)) := by
    have e := World.alloc_heap_new (((W.alloc (.cells #[.int .u8 249] 5)).alloc (.cells #[.int .u8 247, .int .u8 9] 5)).alloc (.cells #[.int .u8 248, .int .u8 64, .int .u8 1] 5)) (.cells #[.slice (some ⟨W.heap.size, 0, none⟩) 1 1, .slice (some ⟨W.heap.size + 1, 0, none⟩) 2 2, .slice (some ⟨W.heap.size + 1 + 1, 0, none⟩) 3 3] 22)
    simp only [World.size_alloc] at e
    exact e
  have r : ∀ (X : World) (o : Obj), Below X.heap.size X (X.alloc o) := fun X o => (Below.refl _ X).alloc (Nat.le_refl _) o
  rcases (show k = 0 ∨ k = 1 ∨ k = 2 by omega) with rfl | rfl | rfl
  · refine ⟨some ⟨W.heap.size, 0, none⟩, by simp [World.cell?, e, wxB], ?_⟩
    have h := BRow.litAt W [249] 5 #[.int .u8 249] W.heap.size 1 rfl rfl rfl (AllB.of rfl) (by decide)
    exact ((h.below (r _ _)).below (r _ _)).below (r _ _)
  · refine ⟨some ⟨W.heap.size + 1, 0, none⟩, by simp [World.cell?, e, wxB], ?_⟩
    have h := BRow.litAt (W.alloc (.cells #[.int .u8 249] 5)) [247, 9] 5 #[.int .u8 247, .int .u8 9] (W.heap.size + 1) 2 rfl (by simp) rfl (AllB.of rfl) (by decide)
    exact (h.below (r _ _)).below (r _ _)
  · refine ⟨some ⟨W.heap.size + 1 + 1, 0, none⟩, by simp [World.cell?, e, wxB], ?_⟩
    have h := BRow.litAt ((W.alloc (.cells #[.int .u8 249] 5)).alloc (.cells #[.int .u8 247, .int .u8 9] 5)) [248, 64, 1] 5 #[.int .u8 248, .int .u8 64, .int .u8 1] (W.heap.size + 1 + 1) 3 rfl (by simp) rfl (AllB.of rfl) (by decide)
    exact h.below (r _ _)

theorem trow_lit1 (W : World) (b : Nat) (l : List Nat) (hl : l.length = b) (hb : AllB l) (h : l.length ≤ 1000) :
    TRow ((W.alloc (.cells (l.map fun d : Nat => Value.int .u8 d).toArray 5)).alloc (.cells #[.slice (some ⟨W.heap.size, 0, none⟩) b b] 22)) (.slice (some ⟨W.heap.size + 1, 0, none⟩) 1 1) [l] := by
  subst hl
  refine .inr ⟨W.heap.size + 1, 0, 1, fun _ => some ⟨W.heap.size, 0, none⟩, fun _ => l.length, rfl, Nat.le_refl _, by unfold maxLen; omega, fun i hi => ?_⟩
  have hi0 : i = 0 := by simpa using hi
  subst hi0
  refine ⟨by simp, ?_⟩
  exact (BRow.litAt W l 5 _ W.heap.size l.length rfl rfl rfl hb h).below ((Below.refl _ _).alloc (Nat.le_refl _) _)
theorem trow_lit2 (W : World) (b : Nat) (l : List Nat) (hl : l.length = b) (hb : AllB l) (h : l.length ≤ 1000) :
    TRow ((W.alloc (.cells (l.map fun d : Nat => Value.int .u8 d).toArray 5)).alloc (.cells #[.slice (some ⟨W.heap.size, 0, none⟩) b b, .slice none 0 0] 22)) (.slice (some ⟨W.heap.size + 1, 0, none⟩) 2 2) [l, []] := by
  subst hl
  refine .inr ⟨W.heap.size + 1, 0, 2, fun i => if i = 0 then some ⟨W.heap.size, 0, none⟩ else none, fun i => if i = 0 then l.length else 0, rfl, Nat.le_refl _, by unfold maxLen; omega, fun i hi => ?_⟩
  have hi2 : i < 2 := hi
  rcases (show i = 0 ∨ i = 1 by omega) with rfl | rfl
  · refine ⟨by simp, ?_⟩
    exact (BRow.litAt W l 5 _ W.heap.size l.length rfl rfl rfl hb h).below ((Below.refl _ _).alloc (Nat.le_refl _) _)
  · exact ⟨by simp, BRow.empty none 0 (Nat.zero_le _)⟩

set_option maxRecDepth 100000 in
set_option maxHeartbeats 4000000 in
theorem awake3_calls (w : World) : Calls Try.prog 29 #[] w fun e w' => e = .returned (.bool true) ∧ Below w.heap.size w w' := by
  have r : ∀ (X : World) (o : Obj), Below X.heap.size X (X.alloc o) := fun X o => (Below.refl _ X).alloc (Nat.le_refl _) o
  have HA := Lib.hid r
  clear r
  go_enter Try.func29, Try.ntmps29
  go_wp2_with fail
  refine (writeB_small _ [7, 8] _ (BRow.litAt w [7, 8] _ _ _ _ rfl rfl rfl (AllB.of rfl) (by decide)) (by decide)).mono ?_
  rintro e w1 ⟨v1, rfl, ho1, hb1⟩
  have HB1 := Lib.hid ((HA.out w _).trans (hb1.mono (HA.out w _).size))
  have HO1 := Lib.hid (BRow.of_own (l := [2, 7, 8]) ho1 (AllB.of rfl))
  clear hb1 ho1
  go_wp2_with fail
  refine (writeB_small _ [] _ (BRow.empty none 0 (Nat.zero_le _)) (by decide)).mono ?_
  rintro e w2 ⟨v2, rfl, ho2, hb2⟩
  have HB2 := Lib.hid (HB1.out.trans (hb2.mono HB1.out.size))
  have HO2 := Lib.hid (BRow.of_own (l := [0]) ho2 (AllB.of rfl))
  have HP1 := Lib.hid (HO1.out.below hb2)
  clear hb2 ho2 HO1 HB1
  go_wp2_with fail
  refine (readB_calls _ [2, 7, 8, 9] _ (BRow.litAt w2 [2, 7, 8, 9] _ _ _ _ rfl rfl rfl (AllB.of rfl) (by decide))).mono ?_
  rw [show fsize [2, 7, 8, 9] = 3 from rfl, show ferr [2, 7, 8, 9] = 0 from rfl, show fbody [2, 7, 8, 9] = [7, 8] from rfl]
  rintro e w3 ⟨v3, rfl, ho3, hb3⟩
  have hb3' := (HA.out w2 (.cells #[.int .u8 2, .int .u8 7, .int .u8 8, .int .u8 9] 5)).trans (hb3.mono (HA.out w2 _).size)
  have HB3 := Lib.hid (HB2.out.trans (hb3'.mono HB2.out.size))
  have HO3 := Lib.hid (BRow.of_own (l := [7, 8]) ho3 (AllB.of rfl))
  have HQ1 := Lib.hid (HP1.out.below hb3')
  have HQ2 := Lib.hid (HO2.out.below hb3')
  clear hb3 hb3' ho3 HO2 HP1 HB2
  go_wp2_with fail
  refine (readB_calls _ [2, 7] _ (BRow.litAt w3 [2, 7] _ _ _ _ rfl rfl rfl (AllB.of rfl) (by decide))).mono ?_
  rw [show fsize [2, 7] = 0 from rfl, show ferr [2, 7] = 30 from rfl, show fbody [2, 7] = [] from rfl]
  rintro e w4 ⟨v4, rfl, ho4, hb4⟩
  have hb4' := (HA.out w3 (.cells #[.int .u8 2, .int .u8 7] 5)).trans (hb4.mono (HA.out w3 _).size)
  have HB4 := Lib.hid (HB3.out.trans (hb4'.mono HB3.out.size))
  have HR1 := Lib.hid (HQ1.out.below hb4')
  have HR2 := Lib.hid (HQ2.out.below hb4')
  have HR3 := Lib.hid (HO3.out.below hb4')
  clear hb4 hb4' ho4 HQ1 HQ2 HO3 HB3
  go_wp2_with fail
  refine (bytesEqual_b _ _ [2, 7, 8] [2, 7, 8] _ (HR1.out.below (HA.out _ _)) (BRow.litAt w4 [2, 7, 8] _ _ _ _ rfl rfl rfl (AllB.of rfl) (by decide)) true rfl).mono ?_
  rintro e w5 ⟨rfl, hb5⟩
  have hb5' := (HA.out w4 (.cells #[.int .u8 2, .int .u8 7, .int .u8 8] 5)).trans (hb5.mono (HA.out w4 _).size)
  have HB5 := Lib.hid (HB4.out.trans (hb5'.mono HB4.out.size))
  have HS2 := Lib.hid (HR2.out.below hb5')
  have HS3 := Lib.hid (HR3.out.below hb5')
  clear hb5 hb5' HR1 HR2 HR3 HB4
  go_wp2_with fail
  refine (bytesEqual_b _ _ [0] [0] _ (HS2.out.below (HA.out _ _)) (BRow.litAt w5 [0] _ _ _ _ rfl rfl rfl (AllB.of rfl) (by decide)) true rfl).mono ?_
  rintro e w6 ⟨rfl, hb6⟩
  have hb6' := (HA.out w5 (.cells #[.int .u8 0] 5)).trans (hb6.mono (HA.out w5 _).size)
  have HB6 := Lib.hid (HB5.out.trans (hb6'.mono HB5.out.size))
  have HU3 := Lib.hid (HS3.out.below hb6')
  clear hb6 hb6' HS2 HS3 HB5
  go_wp2_with fail
  refine (bytesEqual_b _ _ [7, 8] [7, 8] _ (HU3.out.below (HA.out _ _)) (BRow.litAt w6 [7, 8] _ _ _ _ rfl rfl rfl (AllB.of rfl) (by decide)) true rfl).mono ?_
  rintro e w7 ⟨rfl, hb7⟩
  have hb7' := (HA.out w6 (.cells #[.int .u8 7, .int .u8 8] 5)).trans (hb7.mono (HA.out w6 _).size)
  have HB7 := Lib.hid (HB6.out.trans (hb7'.mono HB6.out.size))
  clear hb7 hb7' HU3 HB6
  have HTb := Lib.hid (nxTable w7 154)
  unfold nxW at HTb
  have HBT := Lib.hid ((((HA.out w7 (.cells #[.int .u8 2, .int .u8 7] 5)).alloc (by simp) (.cells #[.int .u8 247] 5)).alloc (by simp; omega) (.cells #[.int .u8 248, .int .u8 1] 5)).alloc (by simp; omega)
    (.cells #[.slice (some ⟨w7.heap.size, 0, none⟩) 2 2, .int .i64 1, .slice none 0 0, .int .i64 1, .slice (some ⟨w7.heap.size + 1, 0, none⟩) 1 1, .int .i64 248, .slice (some ⟨w7.heap.size + 1 + 1, 0, none⟩) 2 2, .int .i64 257] 154))
  go_wp2_with fail
  generalize ((((w7.alloc (.cells #[.int .u8 2, .int .u8 7] 5)).alloc (.cells #[.int .u8 247] 5)).alloc (.cells #[.int .u8 248, .int .u8 1] 5)).alloc
    (.cells #[.slice (some ⟨w7.heap.size, 0, none⟩) 2 2, .int .i64 1, .slice none 0 0, .int .i64 1, .slice (some ⟨w7.heap.size + 1, 0, none⟩) 1 1, .int .i64 248, .slice (some ⟨w7.heap.size + 1 + 1, 0, none⟩) 2 2, .int .i64 257] 154)) = w8 at *
  have HB8 := Lib.hid (HB7.out.trans (HBT.out.mono HB7.out.size))
  clear HBT HB7
  generalize w7.heap.size = g2 at *
  go_loopw [87] (fun i wr => ∃ k : Nat, k ≤ 4 ∧ i = .int .i64 k ∧ Below w8.heap.size w8 wr) (fun i _ => 4 - (intOf i).toNat)
  case atStart => exact ⟨0, by omega, rfl, Below.refl _ _⟩
  case round =>
    obtain ⟨k, hk, rfl, hbel⟩ := hrel
    by_cases hlt : k < 4
    · obtain ⟨a, c1, c2, hr⟩ := HTb.out k hlt
      have c1' := (hbel.cell (p := ⟨g2 + 1 + 1 + 1, k * 2, none⟩) (block_lt_of_cell c1)).trans c1
      have c2' := (hbel.cell (p := ⟨g2 + 1 + 1 + 1, k * 2 + 1, none⟩) (block_lt_of_cell c2)).trans c2
      obtain ⟨hE1, hE2⟩ := nxB_need k hlt
      have hR := fun W (hb : Below w8.heap.size w8 W) => need_calls _ (nxB k) W (hr.below hb)
      rw [hE1, hE2] at hR
      have HR := Lib.hid hR
      have HBl := Lib.hid hbel
      have HN := Lib.hid (World.alloc_heap_new wr (.cells #[.slice a (nxB k).length (nxB k).length, .int .i64 (nxN k : Nat)] 154))
      clear hbel c1 c2 hr hR hE1 hE2
      generalize nxN k = a0 at *
      generalize (nxB k).length = bl at *
      have dk : decide ((k : Int) < 4) = true := by simp; omega
      have hbne : ((a0 : Int) != (a0 : Int)) = false := by simp
      go_wp2_with fail
      refine (HR.out _ (HBl.out.alloc HBl.out.size _)).mono ?_
      rintro e wn ⟨rfl, hbn⟩
      have hN4 := (hbn.block wr.heap.size (by simp)).trans HN.out
      have e1 : wn.cell? ⟨wr.heap.size, 1, none⟩ = some (.int .i64 (a0 : Nat)) := by simp [World.cell?, hN4]
      have HBn := Lib.hid ((HBl.out.alloc HBl.out.size _).trans (hbn.mono (HBl.out.alloc HBl.out.size _).size))
      clear hbn hN4 HBl
      go_wp2_with fail
      go_roundw
      case rel => exact ⟨k + 1, by omega, by go_num, HBn.out⟩
      case measure => simp [intOf]; omega
    · obtain rfl : k = 4 := by omega
      have HBe := Lib.hid (HB8.out.trans (hbel.mono HB8.out.size))
      clear hbel HTb HB8
      have HTc := Lib.hid (wxTable wr)
      unfold wxW at HTc
      have HBT := Lib.hid ((((HA.out wr (.cells #[.int .u8 249] 5)).alloc (by simp) (.cells #[.int .u8 247, .int .u8 9] 5)).alloc (by simp; omega) (.cells #[.int .u8 248, .int .u8 64, .int .u8 1] 5)).alloc (by simp; omega)
        (.cells #[.slice (some ⟨wr.heap.size, 0, none⟩) 1 1, .slice (some ⟨wr.heap.size + 1, 0, none⟩) 2 2, .slice (some ⟨wr.heap.size + 1 + 1, 0, none⟩) 3 3] 22))
      go_wp2_with fail
      generalize ((((wr.alloc (.cells #[.int .u8 249] 5)).alloc (.cells #[.int .u8 247, .int .u8 9] 5)).alloc (.cells #[.int .u8 248, .int .u8 64, .int .u8 1] 5)).alloc
        (.cells #[.slice (some ⟨wr.heap.size, 0, none⟩) 1 1, .slice (some ⟨wr.heap.size + 1, 0, none⟩) 2 2, .slice (some ⟨wr.heap.size + 1 + 1, 0, none⟩) 3 3] 22)) = w9 at *
      have HB9 := Lib.hid (HBe.out.trans (HBT.out.mono HBe.out.size))
      clear HBT HBe
      generalize wr.heap.size = g3 at *
      go_loopw [111] (fun i wr => ∃ k : Nat, k ≤ 3 ∧ i = .int .i64 k ∧ Below w9.heap.size w9 wr) (fun i _ => 3 - (intOf i).toNat)
      case atStart => exact ⟨0, by omega, rfl, Below.refl _ _⟩
      case round =>
        obtain ⟨k, hk, rfl, hbel⟩ := hrel
        by_cases hlt : k < 3
        · obtain ⟨a, c1, hr⟩ := HTc.out k hlt
          have c1' := (hbel.cell (p := ⟨g3 + 1 + 1 + 1, k, none⟩) (block_lt_of_cell c1)).trans c1
          obtain ⟨hE1, hE2⟩ := wxB_need k hlt
          have hR := fun W (hb : Below w9.heap.size w9 W) => need_calls _ (wxB k) W (hr.below hb)
          rw [hE1, hE2] at hR
          have HR := Lib.hid hR
          have HBl := Lib.hid hbel
          clear hbel c1 hr hR hE1 hE2
          generalize (wxB k).length = bl at *
          have dk : decide ((k : Int) < 3) = true := by simp; omega
          go_wp2_with fail
          refine (HR.out _ HBl.out).mono ?_
          rintro e wn ⟨rfl, hbn⟩
          have HBn := Lib.hid (HBl.out.trans (hbn.mono HBl.out.size))
          clear hbn HBl
          go_wp2_with fail
          go_roundw
          case rel => first | exact ⟨k + 1, by omega, by go_num, HBn.out⟩ | ((repeat apply Exists.intro); exact ⟨⟨k + 1, by omega, by go_num, HBn.out⟩, rfl⟩)
          case measure => simp [intOf]; omega
        · obtain rfl : k = 3 := by omega
          have HBe := Lib.hid (HB9.out.trans (hbel.mono HB9.out.size))
          clear hbel HTc HB9
          go_wp2_with fail
          refine (new_calls wr).mono ?_
          rintro e wa ⟨rfl, hsa, hba, hna⟩
          have HBa := Lib.hid (HBe.out.trans (hba.mono HBe.out.size))
          have HSa := Lib.hid hsa
          have HGe := Lib.hid HBe.out.size
          clear hsa hba hna HBe
          generalize wr.heap.size = g at *
          go_wp2_with fail
          refine (feed_all g w.heap.size 0 (.slice none 0 0) [] _ [1] _ (HSa.out.below (HA.out _ _)) (own8_nil _ _) AllB.nil (BRow.litAt wa [1] _ _ _ _ rfl rfl rfl (AllB.of rfl) (by decide)) (Nat.le_trans HBa.out.size (HA.out _ _).size) [1] rfl (by decide) (by decide)).mono ?_
          rintro e wb ⟨vb, hb', V, he, hs, ho, hr, -, -, hg, -⟩
          rw [show feedE [1] = 0 from rfl] at he
          subst he
          have HSb := Lib.hid (show SAt wb g 1 0 hb' from hs)
          have HOb := Lib.hid (show Own8 wb w.heap.size hb' [1] from ho)
          have HBb := Lib.hid (fed_below (HBa.out.trans ((HA.out wa _).mono HBa.out.size)) (Nat.le_trans HBa.out.size (HA.out _ _).size) (own8_nil _ _) HGe.out hg)
          obtain ⟨pa, pc, rfl⟩ := owns_shape (show wb.ownsRow _ 22 1 vb 0 V from hr)
          clear hs ho hr hg HSa HBa
          go_wp2_with fail
          refine (feed_all g w.heap.size 0 hb' [1] _ [5, 0, 2, 6] _ (HSb.out.below (HA.out _ _)) (ownsRow_below HOb.out (HA.out _ _)) (AllB.of rfl) (BRow.litAt wb [5, 0, 2, 6] _ _ _ _ rfl rfl rfl (AllB.of rfl) (by decide)) (Nat.le_trans HBb.out.size (HA.out _ _).size) [1, 5, 0, 2, 6] rfl (by decide) (by decide)).mono ?_
          rintro e wc ⟨vc, hc', V2, he, hs, ho, hr, hM, hne, hg, -⟩
          rw [show feedE [1, 5, 0, 2, 6] = 0 from rfl] at he
          subst he
          have HSc := Lib.hid (show SAt wc g 1 2 hc' from hs)
          have hoc : Own8 wc w.heap.size hc' [2, 6] := ho
          have HBc := Lib.hid (fed_below (HBb.out.trans ((HA.out wb _).mono HBb.out.size)) (Nat.le_trans HBb.out.size (HA.out _ _).size) (ownsRow_below HOb.out (HA.out _ _)) HGe.out hg)
          have hrc : wc.ownsRow (wb.alloc (.cells #[.int .u8 5, .int .u8 0, .int .u8 2, .int .u8 6] 5)).heap.size 22 1 vc 2 V2 := hr
          obtain ⟨qa, qc, rfl⟩ := owns_shape hrc
          obtain ⟨ha3, hc3, rfl⟩ := owns_shape hoc
          have HOc := Lib.hid hoc
          have HRc := Lib.hid hrc
          have HMc := Lib.hid (show MVal wc _ V2 [[5], []] from hM)
          have HNc := Lib.hid hne
          clear hs ho hr hg hM hne hrc hoc HSb HOb HBb
          go_wp2_with fail
          refine (held_calls g 1 2 _ ha3 2 hc3 wc HSc.out rfl (.inl rfl)).mono ?_
          rintro e wx ⟨rfl, hwx⟩
          have HX := Lib.hid hwx
          clear hwx
          have hne1 := sneed_calls g 1 2 _ [2, 6] wx (by rw [← HX.out]; exact HSc.out) (by rw [← HX.out]; exact BRow.of_own HOc.out (AllB.of rfl))
          rw [show (if (1 : Nat) = 1 then fneed [2, 6] else 0) = 1 from rfl] at hne1
          have HNe := Lib.hid hne1
          clear hne1
          go_wp2_with fail
          refine HNe.out.mono ?_
          rintro e wd ⟨rfl, hbd⟩
          have hbd' : Below wc.heap.size wc wd := by have := HX.out; subst this; exact hbd
          have HSd := Lib.hid (HSc.out.below hbd')
          have HOd := Lib.hid (ownsRow_below HOc.out hbd')
          have HBd := Lib.hid (HBc.out.trans (hbd'.mono HBc.out.size))
          have HRd := Lib.hid (ownsRow_below HRc.out hbd')
          have HMd := Lib.hid (HMc.out.below hbd')
          clear hbd hbd' HSc HOc HBc HRc HMc HNe HX
          go_wp2_with fail
          refine (feed_all g w.heap.size 2 (.slice ha3 2 hc3) [2, 6] _ [9, 255] _ (HSd.out.below (HA.out _ _)) (ownsRow_below HOd.out (HA.out _ _)) (AllB.of rfl) (BRow.litAt wd [9, 255] _ _ _ _ rfl rfl rfl (AllB.of rfl) (by decide)) (Nat.le_trans HBd.out.size (HA.out _ _).size) [2, 6, 9, 255] rfl (by decide) (by decide)).mono ?_
          rintro e we ⟨ve, he', V3, he, hs, ho, hr, hM, -, hg, -⟩
          rw [show feedE [2, 6, 9, 255] = 31 from rfl] at he
          subst he
          have HSe := Lib.hid (show SAt we g 2 3 he' from hs)
          have hoe : Own8 we w.heap.size he' [] := ho
          have HBe := Lib.hid (fed_below (HBd.out.trans ((HA.out wd _).mono HBd.out.size)) (Nat.le_trans HBd.out.size (HA.out _ _).size) (ownsRow_below HOd.out (HA.out _ _)) HGe.out hg)
          have hqe := fed_row (ownsRow_below HRd.out (HA.out wd _)) (ownsRow_below HOd.out (HA.out wd _)) (HSd.out.below (HA.out wd _)) hg
          have hqm := fed_mval (HMd.out.below (HA.out wd _)) HNc.out (ownsRow_below HOd.out (HA.out wd _)) (HSd.out.below (HA.out wd _)) hg
          have HTq := Lib.hid (trow_of (L := [[5], []]) hqe hqm (by intro l hl; simp at hl; rcases hl with rfl | rfl <;> exact AllB.of rfl))
          have hre : we.ownsRow (wd.alloc (.cells #[.int .u8 9, .int .u8 255] 5)).heap.size 22 1 ve 1 V3 := hr
          obtain ⟨ra, rc, rfl⟩ := owns_shape hre
          obtain ⟨ha4, hc4, rfl⟩ := owns_shape hoe
          have HTr := Lib.hid (trow_of (L := [[6, 9]]) hre hM (by intro l hl; simp at hl; rcases hl with rfl; exact AllB.of rfl))
          clear hs ho hr hg hM hre hoe hqe hqm HSd HOd HBd HRd HMd HNc
          go_wp2_with fail
          have hT2 := trow_lit2 we 1 [5] rfl (AllB.of rfl) (by decide)
          refine (equalM_b _ _ [[5], []] [[5], []] _ ((HTq.out.below (HA.out _ _)).below (HA.out _ _)) hT2 true rfl).mono ?_
          rintro e wf ⟨rfl, hbf⟩
          have hbf' := ((HA.out we (.cells ([5].map fun d : Nat => Value.int .u8 d).toArray 5)).alloc (by simp) (.cells #[.slice (some ⟨we.heap.size, 0, none⟩) 1 1, .slice none 0 0] 22)).trans (hbf.mono (by simp; omega))
          have HBf := Lib.hid (HBe.out.trans (hbf'.mono HBe.out.size))
          have HSf := Lib.hid (HSe.out.below hbf')
          have HTf := Lib.hid (HTr.out.below hbf')
          clear hbf hbf' hT2 HBe HSe HTr HTq
          go_wp2_with fail
          have hT1 := trow_lit1 wf 2 [6, 9] rfl (AllB.of rfl) (by decide)
          refine (equalM_b _ _ [[6, 9]] [[6, 9]] _ ((HTf.out.below (HA.out _ _)).below (HA.out _ _)) hT1 true rfl).mono ?_
          rintro e wh ⟨rfl, hbh⟩
          have hbh' := ((HA.out wf (.cells ([6, 9].map fun d : Nat => Value.int .u8 d).toArray 5)).alloc (by simp) (.cells #[.slice (some ⟨wf.heap.size, 0, none⟩) 2 2] 22)).trans (hbh.mono (by simp; omega))
          have HBh := Lib.hid (HBf.out.trans (hbh'.mono HBf.out.size))
          have HSh := Lib.hid (HSf.out.below hbh')
          clear hbh hbh' hT1 HBf HSf HTf
          go_wp2_with fail
          refine (dead_calls g 2 3 _ wh HSh.out).mono ?_
          rintro e wi ⟨rfl, hwi⟩
          rw [show ((2 : Nat) == 2) = true from rfl]
          have hsi : SAt wi g 2 3 (.slice ha4 0 hc4) := by rw [← hwi]; exact HSh.out
          have HBi := Lib.hid (show Below w.heap.size w wi by rw [← hwi]; exact HBh.out)
          have HHi := Lib.hid (held_calls g 2 3 _ ha4 0 hc4 wi hsi rfl (.inr rfl))
          clear hwi hsi HSh HBh
          go_wp2_with fail
          refine HHi.out.mono ?_
          rintro e wj ⟨rfl, hwj⟩
          have HBj := Lib.hid (show Below w.heap.size w wj by rw [← hwj]; exact HBi.out)
          clear hwj HHi HBi
          go_wp2
          go_ret
          exact ⟨rfl, HBj.out⟩
end Go.Proofs.Yteaeedhhdnkldaa
