/-
  CONTRACT of the examples of layer 1 (fermatalaw01.awake): they hold; nothing that was there is written.
-/
import Derived.Test.YteaeedhhdnkldaaNumSplitB
import Derived.Test.YteaeedhhdnkldaaNumCmp
namespace Go.Proofs.Yteaeedhhdnkldaa
open Go.RowKit Pl

theorem below_drewN' {w w' : World} (h : ∃ n, w' = w.drewN n) : Below w.heap.size w w' := by
  obtain ⟨n, rfl⟩ := h
  exact ⟨rfl, rfl, rfl, Nat.le_refl _, fun _ _ => rfl⟩
theorem sameBytes_b (v v' : Value) (l m : List Nat) (w : World) (h : BRow w v l) (h' : BRow w v' m) :
    Calls Try.prog 63 #[v, v'] w fun e w' => e = .returned (.bool (decide (l = m))) ∧ Below w.heap.size w w' :=
  (sameBytes_calls v v' l m w h h').mono fun _ _ ⟨he, hw⟩ => ⟨he, below_drewN' hw⟩
theorem sameNums_b (v v' : Value) (l m : List Nat) (w : World) (h : NRow w v l) (h' : NRow w v' m) :
    Calls Try.prog 60 #[v, v'] w fun e w' => e = .returned (.bool (decide (l = m))) ∧ Below w.heap.size w w' :=
  (sameNums_calls v v' l m w h h').mono fun _ _ ⟨he, hw⟩ => ⟨he, below_drewN' hw⟩
theorem AllB.of {l : List Nat} (h : (l.all fun d => decide (d < 256)) = true) : AllB l := by
  intro d hd
  have := List.all_eq_true.1 h d hd
  simpa using this
theorem BRow.litAt (w : World) (l : List Nat) (t : TypeId) (cs : Array Value) (g n : Nat) (hcs : cs = (l.map fun d : Nat => Value.int .u8 d).toArray) (hg : g = w.heap.size) (hn : n = l.length) (hb : AllB l) (hl : l.length ≤ 1000) : BRow (w.alloc (.cells cs t)) (.slice (some ⟨g, 0, none⟩) n n) l := by
  subst hcs hg hn; exact BRow.lit w l t hb hl
theorem NRow.litAt (w : World) (l : List Nat) (t : TypeId) (cs : Array Value) (g n : Nat) (hcs : cs = (l.map fun d : Nat => Value.int .u64 d).toArray) (hg : g = w.heap.size) (hn : n = l.length) (hb : ∀ x ∈ l, x < 18446744073709551616) (hl : l.length ≤ 1000) : NRow (w.alloc (.cells cs t)) (.slice (some ⟨g, 0, none⟩) n n) l := by
  subst hcs hg hn; exact NRow.lit w l t hb hl

theorem read_lit (W : World) (l : List Nat) (t : TypeId) (cs : Array Value) (g n : Nat) (r : Nat × Nat × Nat) (hcs : cs = (l.map fun d : Nat => Value.int .u8 d).toArray) (hg : g = W.heap.size) (hn : n = l.length) (hb : AllB l) (hl : l.length ≤ 1000) (hr : rdAt l 0 = r) :
    Calls Try.prog 50 #[.slice (some ⟨g, 0, none⟩) n n, .int .i64 0] (W.alloc (.cells cs t)) fun e w' => e = .returned (.tuple #[.int .u64 r.1, .int .i64 r.2.1, .int .i64 r.2.2]) ∧ W.alloc (.cells cs t) = w' := by
  have := read_calls _ l _ (BRow.litAt W l t cs g n hcs hg hn hb hl) 0 (by omega) (by omega)
  rw [hr] at this
  exact this
theorem int_lit (W : World) (l : List Nat) (t : TypeId) (cs : Array Value) (g n : Nat) (least most : Int) (r : Int × Nat × Nat) (hcs : cs = (l.map fun d : Nat => Value.int .u8 d).toArray) (hg : g = W.heap.size) (hn : n = l.length) (hb : AllB l) (hl : l.length ≤ 1000) (hr : intN l 0 least most = r) :
    Calls Try.prog 54 #[.slice (some ⟨g, 0, none⟩) n n, .int .i64 0, .int .i64 least, .int .i64 most] (W.alloc (.cells cs t)) fun e w' => e = .returned (.tuple #[.int .i64 r.1, .int .i64 r.2.1, .int .i64 r.2.2]) ∧ W.alloc (.cells cs t) = w' := by
  have := int_calls _ l _ (BRow.litAt W l t cs g n hcs hg hn hb hl) 0 (by omega) (by omega) least most
  rw [hr] at this
  exact this
theorem split_lit (W : World) (l : List Nat) (t : TypeId) (cs : Array Value) (g n : Nat) (er : Nat) (vs : List Nat) (hcs : cs = (l.map fun d : Nat => Value.int .u8 d).toArray) (hg : g = W.heap.size) (hn : n = l.length) (hb : AllB l) (hl : l.length ≤ 1000) (he : splitE l = er) (hv : splitV l = vs) :
    Calls Try.prog 56 #[.slice (some ⟨g, 0, none⟩) n n] (W.alloc (.cells cs t)) fun e w' => ∃ v', e = .returned (.tuple #[v', .int .i64 er]) ∧ NRow w' v' vs ∧ Below W.heap.size W w' := by
  refine (split_calls _ l _ (BRow.litAt W l t cs g n hcs hg hn hb hl) (by have := sq_length l; omega)).mono ?_
  rintro e w' ⟨v', rfl, ho, hbel⟩
  rw [← he, ← hv]
  exact ⟨v', rfl, NRow.of_own ho (splitV_range l hb), (((Below.refl _ _).alloc (Nat.le_refl _) _).trans (hbel.mono (by simp)))⟩

set_option maxRecDepth 100000 in
set_option maxHeartbeats 2000000 in
theorem awake_calls (w : World) : Calls Try.prog 15 #[] w fun e w' => e = .returned (.bool true) ∧ Below w.heap.size w w' := by
  go_enter Try.func15, Try.ntmps15
  go_wp2_with fail
  refine (all_calls _ [0, 246, 247, 256, 18446744073709551615] _ (NRow.litAt w _ _ _ _ _ rfl rfl rfl (by decide) (by decide)) (by decide)).mono ?_
  rintro e w1 ⟨v1, rfl, hown1, hb1⟩
  have hO1 := Lib.hid hown1
  have hB1 := Lib.hid hb1
  clear hown1 hb1
  go_wp2_with fail
  refine (sameBytes_b _ _ [0, 246, 247, 247, 248, 1, 0, 254, 255, 255, 255, 255, 255, 255, 255, 255] [0, 246, 247, 247, 248, 1, 0, 254, 255, 255, 255, 255, 255, 255, 255, 255] _ ?_ (BRow.litAt w1 _ _ _ _ _ rfl rfl rfl (AllB.of rfl) (by decide))).mono ?_
  · exact (BRow.of_own (l := [0, 246, 247, 247, 248, 1, 0, 254, 255, 255, 255, 255, 255, 255, 255, 255]) (by have := hO1.out; exact this) (AllB.of rfl)).below ((Below.refl _ _).alloc (Nat.le_refl _) _)
  rintro e w2 ⟨rfl, hb2⟩
  have hB2 := Lib.hid hb2
  clear hb2
  go_wp2_with fail
  refine (read_lit w2 [247, 246] _ _ _ _ (0, 0, 11) rfl rfl rfl (AllB.of rfl) (by decide) (by rfl)).mono ?_
  rintro e w' ⟨rfl, rfl⟩
  go_wp2_with fail
  refine (read_lit _ [248, 0, 5] _ _ _ _ (0, 0, 11) rfl (by simp) rfl (AllB.of rfl) (by decide) (by rfl)).mono ?_
  rintro e w' ⟨rfl, rfl⟩
  go_wp2_with fail
  refine (read_lit _ [248, 1] _ _ _ _ (0, 0, 10) rfl (by simp) rfl (AllB.of rfl) (by decide) (by rfl)).mono ?_
  rintro e w' ⟨rfl, rfl⟩
  go_wp2_with fail
  refine (read_lit _ [255] _ _ _ _ (0, 0, 11) rfl (by simp) rfl (AllB.of rfl) (by decide) (by rfl)).mono ?_
  rintro e w' ⟨rfl, rfl⟩
  go_wp2_with fail
  refine (int_lit _ [5] _ _ _ _ _ _ (0, 0, 12) rfl (by simp) rfl (AllB.of rfl) (by decide) (by rfl)).mono ?_
  rintro e w' ⟨rfl, rfl⟩
  go_wp2_with fail
  refine (split_lit _ [5, 247, 255, 0] _ _ _ _ 0 [5, 255, 0] rfl (by simp) rfl (AllB.of rfl) (by decide) (by rfl) (by rfl)).mono ?_
  rintro e w3 ⟨v3, rfl, hN3, hb3⟩
  have hN := Lib.hid hN3
  have hB3 := Lib.hid hb3
  clear hN3 hb3
  go_wp2_with fail
  refine (sameNums_b _ _ [5, 255, 0] [5, 255, 0] _ (hN.out.below ((Below.refl _ _).alloc (Nat.le_refl _) _)) (NRow.litAt w3 _ _ _ _ _ rfl rfl rfl (by decide) (by decide))).mono ?_
  rintro e w4 ⟨rfl, hb4⟩
  have hB4 := Lib.hid hb4
  clear hb4
  go_wp2_with fail
  refine (fold_calls (-1) _ (by omega) (by omega)).mono ?_
  rintro e w' ⟨rfl, rfl⟩
  go_wp2_with fail
  refine (fold_calls 1 _ (by omega) (by omega)).mono ?_
  rintro e w' ⟨rfl, rfl⟩
  go_wp2_with fail
  refine (fold_calls (-9223372036854775808) _ (by omega) (by omega)).mono ?_
  rintro e w' ⟨rfl, rfl⟩
  go_wp2
  go_ret
  refine ⟨rfl, ?_⟩
  have c1 := hB1.out
  have c2 := hB2.out
  have c3 := hB3.out
  have c4 := hB4.out
  have s1 := c1.size
  have s2 := c2.size
  have s3 := c3.size
  have s4 := c4.size
  simp only [World.size_alloc] at s1 s2 s3 s4
  refine Below.trans ?_ (c4.mono (by simp only [World.size_alloc]; omega))
  refine Below.alloc ?_ (by omega) _
  refine Below.trans ?_ (c3.mono (by simp only [World.size_alloc]; omega))
  refine Below.alloc (Below.alloc (Below.alloc (Below.alloc (Below.alloc ?_ ?_ _) ?_ _) ?_ _) ?_ _) ?_ _
  all_goals try (first | omega | (simp only [World.size_alloc]; omega))
  refine Below.trans ?_ (c2.mono (by simp only [World.size_alloc]; omega))
  refine Below.alloc ?_ (by omega) _
  refine Below.trans ?_ (c1.mono (by simp only [World.size_alloc]; omega))
  exact (Below.refl _ _).alloc (Nat.le_refl _) _
end Go.Proofs.Yteaeedhhdnkldaa
