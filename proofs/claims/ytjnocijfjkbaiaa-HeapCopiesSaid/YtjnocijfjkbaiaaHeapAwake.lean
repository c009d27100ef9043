/-
  CONTRACT of the law's awake: the examples of the chapter.
-/
import Derived.Test.YtjnocijfjkbaiaaMadeR
import Derived.Test.YtjnocijfjkbaiaaRegionInv
namespace Go.Proofs.Ytjnocijfjkbaiaa
open Go.RowKit Go.Shelf

/-- A HEAP, AND OTHER BLOCKS that lie beside it and stay. -/
structure Aw (w wr : World) (q n : Nat) (M : Mp) (F : Nat → Prop) (S : List (Nat × Obj)) : Prop where
  heap : HA wr q F n M
  low : ∀ j, F j → w.heap.size ≤ j
  below : Below w.heap.size w wr
  side : ∀ p ∈ S, wr.heap[p.1]? = some p.2 ∧ ¬ F p.1
section
variable {w wr w' : World} {q n : Nat} {M M' : Mp} {F : Nat → Prop} {S : List (Nat × Obj)}
theorem Aw.to (h : Aw w wr q n M F S) (hb : Below wr.heap.size wr w') : Aw w w' q n M F S :=
  ⟨h.heap.below hb, h.low, h.below.trans (hb.mono h.below.size), fun p hp => ⟨(hb.block _ (Array.getElem?_eq_some_iff.1 (h.side p hp).1).1).trans (h.side p hp).1, (h.side p hp).2⟩⟩
theorem Aw.step (h : Aw w wr q n M F S) (hs : HStep wr w' q F n M') : ∃ F', Aw w w' q n M' F' S := by
  obtain ⟨F', h1, h2, h3⟩ := hs.ex
  have hsz := h.below.size
  refine ⟨F', h1, fun j hj => ?_, h.below.trans (h2.below h.low hsz), fun p hp => ?_⟩
  · rcases h3 j hj with e | e
    · exact h.low j e
    · omega
  · obtain ⟨s1, s2⟩ := h.side p hp
    have hl := (Array.getElem?_eq_some_iff.1 s1).1
    refine ⟨(h2.block _ hl s2).trans s1, fun e => ?_⟩
    rcases h3 _ e with e | e
    · exact s2 e
    · omega
theorem Aw.add (h : Aw w wr q n M F S) (k : Nat) (o : Obj) (hk : wr.heap[k]? = some o) (hF : ¬ F k) : Aw w wr q n M F ((k, o) :: S) :=
  ⟨h.heap, h.low, h.below, fun p hp => by
    rcases List.mem_cons.1 hp with rfl | hp
    · exact ⟨hk, hF⟩
    · exact h.side p hp⟩
theorem Aw.new (h : Aw w wr q n M F S) (o : Obj) : Aw w (wr.alloc o) q n M F ((wr.heap.size, o) :: S) :=
  (h.to ((Below.refl _ wr).alloc (Nat.le_refl _) o)).add _ _ (World.alloc_heap_new wr o) fun e => by have := h.heap.lt _ e; omega
theorem Aw.of_new (hn : HNew w w' q n M) : ∃ F, Aw w w' q n M F [] := by
  obtain ⟨F, h1, h2, h3⟩ := hn.ex
  exact ⟨F, h1, h3, h2, fun p hp => by cases hp⟩
theorem Aw.as (h : Aw w wr q n M F S) (e : M = M') : Aw w wr q n M' F S := e ▸ h
end
def aw0 : Mp := fun _ => none
def aw1 : Mp := updM aw0 3 (some (7, 0, 0))
def aw2 : Mp := updM aw1 1 (some (5, 0, 0))
def aw3 : Mp := updM aw2 4 (some (5, 0, 0))
def aw4 : Mp := updM aw3 0 (some (9, 0, 0))
def aw5 : Mp := updM aw4 0 (some (1, 0, 0))
def aw6 : Mp := updM aw5 0 none
def aw7 : Mp := updM aw6 4 none
def aw8 : Mp := updM aw7 1 none
def aw9 : Mp := updM aw8 3 none
theorem aw4_is : ordM 5 aw4 = [((5, 0, 0), 1), ((5, 0, 0), 4), ((7, 0, 0), 3), ((9, 0, 0), 0)] := by decide +kernel
theorem aw5_is : ordM 5 aw5 = [((1, 0, 0), 0), ((5, 0, 0), 1), ((5, 0, 0), 4), ((7, 0, 0), 3)] := by decide +kernel
theorem aw7_is : ordM 5 aw7 = [((5, 0, 0), 1), ((7, 0, 0), 3)] := by decide +kernel
theorem aw8_is : ordM 5 aw8 = [((7, 0, 0), 3)] := by decide +kernel
theorem aw9_is : ordM 5 aw9 = [] := by decide +kernel
set_option maxRecDepth 100000 in
set_option maxHeartbeats 8000000 in
theorem awake_calls (w : World) :
    Calls Try.prog 9 #[] w fun e w' => e = .returned (.bool true) ∧ Below w.heap.size w w' := by
  have mixed : Try.prog.follows .mixedOrders = true := by kernel_rfl
  have HN := Lib.hid (new_ok 5 (by omega) w)
  go_enter Try.func9, Try.ntmps9
  go_wp2_with fail
  refine HN.out.mono ?_
  rintro e v0 ⟨q, rfl, hn⟩
  obtain ⟨F0, hA⟩ := Aw.of_new hn
  have S0 := Lib.hid (hA.as (M' := aw0) rfl)
  clear hn hA
  go_wp2_with fail
  refine (at_calls 7 _).mono ?_
  rintro e vS1 ⟨rfl, hb⟩
  have S1 := Lib.hid (S0.out.to hb)
  have P1 := Lib.hid (put_ok S1.out.heap 3 (by omega) rfl (7, 0, 0))
  clear hb
  go_wp2_with fail
  refine P1.out.mono ?_
  rintro e vS2 ⟨rfl, hs⟩
  obtain ⟨FS2, hA⟩ := S1.out.step hs
  have S2 := Lib.hid (hA.as (M' := aw1) rfl)
  clear hs hA
  go_wp2_with fail
  refine (at_calls 5 _).mono ?_
  rintro e vS3 ⟨rfl, hb⟩
  have S3 := Lib.hid (S2.out.to hb)
  have P2 := Lib.hid (put_ok S3.out.heap 1 (by omega) rfl (5, 0, 0))
  clear hb
  go_wp2_with fail
  refine P2.out.mono ?_
  rintro e vS4 ⟨rfl, hs⟩
  obtain ⟨FS4, hA⟩ := S3.out.step hs
  have S4 := Lib.hid (hA.as (M' := aw2) rfl)
  clear hs hA
  go_wp2_with fail
  refine (at_calls 5 _).mono ?_
  rintro e vS5 ⟨rfl, hb⟩
  have S5 := Lib.hid (S4.out.to hb)
  have P3 := Lib.hid (put_ok S5.out.heap 4 (by omega) rfl (5, 0, 0))
  clear hb
  go_wp2_with fail
  refine P3.out.mono ?_
  rintro e vS6 ⟨rfl, hs⟩
  obtain ⟨FS6, hA⟩ := S5.out.step hs
  have S6 := Lib.hid (hA.as (M' := aw3) rfl)
  clear hs hA
  go_wp2_with fail
  refine (at_calls 9 _).mono ?_
  rintro e vS7 ⟨rfl, hb⟩
  have S7 := Lib.hid (S6.out.to hb)
  have P4 := Lib.hid (put_ok S7.out.heap 0 (by omega) rfl (9, 0, 0))
  clear hb
  go_wp2_with fail
  refine P4.out.mono ?_
  rintro e vS8 ⟨rfl, hs⟩
  obtain ⟨FS8, hA⟩ := S7.out.step hs
  have S8 := Lib.hid (hA.as (M' := aw4) rfl)
  clear hs hA
  have P5 := Lib.hid (least_yes S8.out.heap (5, 0, 0) 1 (by rw [aw4_is]; decide) (by rw [aw4_is]; rfl))
  have P6 := Lib.hid (heapOrder_calls S8.out.heap)
  go_wp2_with fail
  refine P5.out.mono ?_
  rintro e v9 ⟨rfl, rfl⟩
  go_wp2_with fail
  refine P6.out.mono ?_
  rintro e vO ⟨og, oc, rfl, hO1, hO2, hO3⟩
  obtain ⟨ocur, hoc⟩ := hO1.blk
  have S10 := Lib.hid ((S8.out.to hO3).add og _ hoc (fun e => by have := S8.out.heap.lt _ e; omega))
  have HOr := Lib.hid hO1
  clear hO1 hO2 hO3 hoc
  simp only [aw4_is, List.length_cons, List.length_nil]
  go_wp2_with fail
  refine (at_calls 1 _).mono ?_
  rintro e vS11 ⟨rfl, hb⟩
  have S11 := Lib.hid (S10.out.to hb)
  have P7 := Lib.hid (change_yes S11.out.heap 0 (9, 0, 0) rfl (1, 0, 0))
  clear hb
  go_wp2_with fail
  refine P7.out.mono ?_
  rintro e vS12 ⟨rfl, hs⟩
  obtain ⟨FS12, hA⟩ := S11.out.step hs
  have S12 := Lib.hid ((hA.as (M' := aw5) rfl).new (.cells #[.int .i64 9, .int .i64 0, .int .i64 0] 27))
  have P8 := Lib.hid (take_yes S12.out.heap (1, 0, 0) 0 (by rw [aw5_is]; decide) (by rw [aw5_is]; rfl))
  clear hs hA
  go_wp2_with fail
  refine P8.out.mono ?_
  rintro e vS13 ⟨rfl, hs⟩
  obtain ⟨FS13, hA⟩ := S12.out.step hs
  have S13 := Lib.hid ((hA.as (M' := aw6) rfl).new (.cells #[.int .i64 1, .int .i64 0, .int .i64 0] 27))
  have P9 := Lib.hid (remove_yes S13.out.heap 4 (5, 0, 0) rfl)
  clear hs hA
  go_wp2_with fail
  refine P9.out.mono ?_
  rintro e vS14 ⟨rfl, hs⟩
  obtain ⟨FS14, hA⟩ := S13.out.step hs
  have S14 := Lib.hid ((hA.as (M' := aw7) rfl).new (.cells #[.int .i64 5, .int .i64 0, .int .i64 0] 27))
  have P10 := Lib.hid (take_yes S14.out.heap (5, 0, 0) 1 (by rw [aw7_is]; decide) (by rw [aw7_is]; rfl))
  clear hs hA
  go_wp2_with fail
  refine P10.out.mono ?_
  rintro e vS15 ⟨rfl, hs⟩
  obtain ⟨FS15, hA⟩ := S14.out.step hs
  have S15 := Lib.hid ((hA.as (M' := aw8) rfl).new (.cells #[.int .i64 5, .int .i64 0, .int .i64 0] 27))
  have P11 := Lib.hid (take_yes S15.out.heap (7, 0, 0) 3 (by rw [aw8_is]; decide) (by rw [aw8_is]; rfl))
  clear hs hA
  go_wp2_with fail
  refine P11.out.mono ?_
  rintro e vS16 ⟨rfl, hs⟩
  obtain ⟨FS16, hA⟩ := S15.out.step hs
  have S16 := Lib.hid ((hA.as (M' := aw9) rfl).new (.cells #[.int .i64 7, .int .i64 0, .int .i64 0] 27))
  have P12 := Lib.hid (take_no S16.out.heap (by rw [aw9_is]; rfl))
  clear hs hA
  go_wp2_with fail
  refine P12.out.mono ?_
  rintro e v17 ⟨rfl, hb⟩
  have S17 := Lib.hid ((S16.out.to hb).new (.cells #[.int .i64 0, .int .i64 0, .int .i64 0] 27))
  clear hb
  go_wp2_with fail
  generalize v17.alloc (.cells #[.int .i64 0, .int .i64 0, .int .i64 0] 27) = Wz at *
  have k9 := (S17.out.side (vS12.heap.size, .cells #[.int .i64 9, .int .i64 0, .int .i64 0] 27) (by simp)).1
  have k5 := (S17.out.side (vS14.heap.size, .cells #[.int .i64 5, .int .i64 0, .int .i64 0] 27) (by simp)).1
  have ko := (S17.out.side (og, .cells ocur 3) (by simp)).1
  dsimp only at k9 k5 ko
  have HRow := Lib.hid (show ∀ W, Below Wz.heap.size Wz W → ∀ g', W.heap[g']? = some (.cells #[.int .i64 1, .int .i64 4, .int .i64 3, .int .i64 0] 3 (0, 0)) → Calls Try.prog 26 #[.slice (some ⟨og, 0, none⟩) 4 oc, .slice (some ⟨g', 0, none⟩) 4 4] W fun e w' => e = .returned (.bool true) ∧ Below W.heap.size W w' from fun W hb g' hg' => by
    have h1 : IR Wz og oc (plc (ordM 5 aw4)) := HOr.out.keep (ko.trans (S10.out.side (og, .cells ocur 3) (by simp)).1.symm)
    rw [aw4_is] at h1
    have h2 : IR W g' 4 [1, 4, 3, 0] := ⟨⟨_, hg'⟩, ⟨by decide, by unfold maxLen; decide⟩, fun i hi => by
      rw [cell_of_row _ _ _ _ _ (0, 0) hg']
      have hi : i < 4 := hi
      obtain rfl | rfl | rfl | rfl : i = 0 ∨ i = 1 ∨ i = 2 ∨ i = 3 := by omega
      all_goals rfl⟩
    exact same_calls og oc g' 4 [1, 4, 3, 0] W (h1.below hb) h2)
  have C0 := Lib.hid (show ∀ W, Below Wz.heap.size Wz W → (W.cell? ⟨vS12.heap.size, 0, none⟩ = some (.int .i64 9) ∧ W.cell? ⟨vS12.heap.size, 1, none⟩ = some (.int .i64 0) ∧ W.cell? ⟨vS12.heap.size, 2, none⟩ = some (.int .i64 0)) ∧ (W.cell? ⟨vS14.heap.size, 0, none⟩ = some (.int .i64 5) ∧ W.cell? ⟨vS14.heap.size, 1, none⟩ = some (.int .i64 0) ∧ W.cell? ⟨vS14.heap.size, 2, none⟩ = some (.int .i64 0)) from fun W hb => by
    have a := (hb.block _ (Array.getElem?_eq_some_iff.1 k9).1).trans k9
    have b := (hb.block _ (Array.getElem?_eq_some_iff.1 k5).1).trans k5
    exact ⟨⟨by simp [World.cell?, a], by simp [World.cell?, a], by simp [World.cell?, a]⟩, ⟨by simp [World.cell?, b], by simp [World.cell?, b], by simp [World.cell?, b]⟩⟩)
  have e9 := eqlK 9 0 0 9 0 0
  rw [decide_eq_true rfl] at e9
  have e5 := eqlK 5 0 0 5 0 0
  rw [decide_eq_true rfl] at e5
  have HPo := Lib.hid (fun W (hb : Below Wz.heap.size Wz W) => put_out (S17.out.heap.below hb) 5 (.inr (by omega)) (0, 0, 0))
  generalize vS12.heap.size = b9 at *
  generalize vS14.heap.size = b5 at *
  have HBe := Lib.hid S17.out.below
  clear HN S0 S1 P1 S2 S3 P2 S4 S5 P3 S6 S7 P4 S8 P5 P6 S10 HOr S11 P7 S12 P8 S13 P9 S14 P10 S15 P11 S16 P12 S17 k9 k5 ko
  refine (wpIn_wide (n := 5)).1 ?_
  refine wpIn_region_inv (by kernel_rfl) (by kernel_rfl) (fun B a wc => ∃ pe : Nat, a = { tmps := #[bif B 54 then .bool true else Value.bool false, Value.pointer (some { block := q, off := 0 }), Value.int IntKind.i64 0, Value.int IntKind.i64 1, Value.bool true, Value.slice (some { block := og, off := 0 }) 4 oc, Value.pointer (some { block := b9, off := 0 }), Value.int IntKind.i64 0, Value.int IntKind.i64 0, Value.pointer (some { block := vS13.heap.size, off := 0 }), Value.int IntKind.i64 0, Value.pointer (some { block := b5, off := 0 }), Value.int IntKind.i64 0, Value.int IntKind.i64 1, Value.pointer (some { block := vS15.heap.size, off := 0 }), Value.int IntKind.i64 0, Value.int IntKind.i64 3, Value.pointer (some { block := vS16.heap.size, off := 0 }), Value.int IntKind.i64 0, Value.int IntKind.i64 0, Value.pointer (some { block := v17.heap.size, off := 0 }), Value.int IntKind.i64 6, Value.tuple #[Value.pointer (some { block := q, off := 0 }), Value.int IntKind.i64 0], Value.tuple #[Value.pointer (some { block := q, off := 0 }), Value.int IntKind.i64 0], Value.pointer (some { block := q, off := 0 }), Value.int IntKind.i64 0, Value.int IntKind.i64 0, Value.bool false, Value.bool false, Value.pointer (some { block := q, off := 0 }), Value.bool false, Value.bool false, Value.bool false, Value.pointer (some { block := q, off := 0 }), Value.agg #[Value.int IntKind.i64 7, Value.int IntKind.i64 0, Value.int IntKind.i64 0], Value.int IntKind.i64 0, Value.pointer (some { block := q, off := 0 }), Value.agg #[Value.int IntKind.i64 5, Value.int IntKind.i64 0, Value.int IntKind.i64 0], Value.int IntKind.i64 0, Value.int IntKind.i64 0, Value.pointer (some { block := q, off := 0 }), Value.agg #[Value.int IntKind.i64 5, Value.int IntKind.i64 0, Value.int IntKind.i64 0], Value.int IntKind.i64 0, Value.int IntKind.i64 0, Value.pointer (some { block := q, off := 0 }), Value.agg #[Value.int IntKind.i64 9, Value.int IntKind.i64 0, Value.int IntKind.i64 0], Value.int IntKind.i64 0, Value.int IntKind.i64 0, Value.bool false, Value.bool false, Value.tuple #[Value.int IntKind.i64 1, Value.bool true], Value.pointer (some { block := q, off := 0 }), Value.tuple #[Value.int IntKind.i64 1, Value.bool true], Value.int IntKind.i64 1, Value.bool true, Value.pointer (some { block := q, off := 0 }), Value.slice (some { block := og, off := 0 }) 4 oc, Value.tuple #[Value.agg #[Value.int IntKind.i64 9, Value.int IntKind.i64 0, Value.int IntKind.i64 0], Value.int IntKind.i64 0], Value.pointer (some { block := q, off := 0 }), Value.agg #[Value.int IntKind.i64 1, Value.int IntKind.i64 0, Value.int IntKind.i64 0], Value.tuple #[Value.agg #[Value.int IntKind.i64 9, Value.int IntKind.i64 0, Value.int IntKind.i64 0], Value.int IntKind.i64 0], Value.agg #[Value.int IntKind.i64 9, Value.int IntKind.i64 0, Value.int IntKind.i64 0], Value.int IntKind.i64 0, Value.tuple #[Value.int IntKind.i64 0, Value.agg #[Value.int IntKind.i64 1, Value.int IntKind.i64 0, Value.int IntKind.i64 0], Value.int IntKind.i64 0], Value.pointer (some { block := q, off := 0 }), Value.tuple #[Value.int IntKind.i64 0, Value.agg #[Value.int IntKind.i64 1, Value.int IntKind.i64 0, Value.int IntKind.i64 0], Value.int IntKind.i64 0], Value.int IntKind.i64 0, Value.agg #[Value.int IntKind.i64 1, Value.int IntKind.i64 0, Value.int IntKind.i64 0], Value.int IntKind.i64 0, Value.tuple #[Value.agg #[Value.int IntKind.i64 5, Value.int IntKind.i64 0, Value.int IntKind.i64 0], Value.int IntKind.i64 0], Value.pointer (some { block := q, off := 0 }), Value.tuple #[Value.agg #[Value.int IntKind.i64 5, Value.int IntKind.i64 0, Value.int IntKind.i64 0], Value.int IntKind.i64 0], Value.agg #[Value.int IntKind.i64 5, Value.int IntKind.i64 0, Value.int IntKind.i64 0], Value.int IntKind.i64 0, Value.tuple #[Value.int IntKind.i64 1, Value.agg #[Value.int IntKind.i64 5, Value.int IntKind.i64 0, Value.int IntKind.i64 0], Value.int IntKind.i64 0], Value.pointer (some { block := q, off := 0 }), Value.tuple #[Value.int IntKind.i64 1, Value.agg #[Value.int IntKind.i64 5, Value.int IntKind.i64 0, Value.int IntKind.i64 0], Value.int IntKind.i64 0], Value.int IntKind.i64 1, Value.agg #[Value.int IntKind.i64 5, Value.int IntKind.i64 0, Value.int IntKind.i64 0], Value.int IntKind.i64 0, Value.tuple #[Value.int IntKind.i64 3, Value.agg #[Value.int IntKind.i64 7, Value.int IntKind.i64 0, Value.int IntKind.i64 0], Value.int IntKind.i64 0], Value.pointer (some { block := q, off := 0 }), Value.tuple #[Value.int IntKind.i64 3, Value.agg #[Value.int IntKind.i64 7, Value.int IntKind.i64 0, Value.int IntKind.i64 0], Value.int IntKind.i64 0], Value.int IntKind.i64 3, Value.agg #[Value.int IntKind.i64 7, Value.int IntKind.i64 0, Value.int IntKind.i64 0], Value.int IntKind.i64 0, Value.tuple #[Value.int IntKind.i64 0, Value.agg #[Value.int IntKind.i64 0, Value.int IntKind.i64 0, Value.int IntKind.i64 0], Value.int IntKind.i64 6], Value.pointer (some { block := q, off := 0 }), Value.tuple #[Value.int IntKind.i64 0, Value.agg #[Value.int IntKind.i64 0, Value.int IntKind.i64 0, Value.int IntKind.i64 0], Value.int IntKind.i64 6], Value.int IntKind.i64 0, Value.agg #[Value.int IntKind.i64 0, Value.int IntKind.i64 0, Value.int IntKind.i64 0], Value.int IntKind.i64 6, bif B 0 then .int .i64 1 else undef, bif B 1 then .bool true else undef, bif B 2 then .bool true else undef, bif B 3 then .bool true else undef, bif B 4 then .bool true else undef, bif B 5 then .bool true else undef, bif B 6 then .slice (some ⟨og, 0, none⟩) 4 oc else undef, bif B 7 then .slice (some ⟨pe, 0, none⟩) 4 4 else undef, bif B 8 then .bool true else undef, bif B 9 then .bool true else undef, bif B 10 then .bool true else undef, bif B 11 then .int .i64 0 else undef, bif B 12 then .int .i64 0 else undef, bif B 13 then .int .i64 0 else undef, bif B 14 then .int .i64 0 else undef, bif B 15 then .int .i64 0 else undef, bif B 16 then .int .i64 0 else undef, bif B 17 then .int .i64 0 else undef, bif B 18 then .int .i64 0 else undef, bif B 19 then .int .i64 0 else undef, bif B 20 then .bool true else undef, bif B 21 then .bool true else undef, bif B 22 then .bool true else undef, bif B 23 then .agg #[.int .i64 9, .int .i64 0, .int .i64 0] else undef, bif B 24 then .agg #[.int .i64 9, .int .i64 0, .int .i64 0] else undef, bif B 25 then .bool true else undef, bif B 26 then .bool true else undef, bif B 27 then .bool true else undef, bif B 28 then .int .i64 0 else undef, bif B 29 then .bool true else undef, bif B 30 then .bool true else undef, bif B 31 then .bool true else undef, bif B 32 then .agg #[.int .i64 5, .int .i64 0, .int .i64 0] else undef, bif B 33 then .agg #[.int .i64 5, .int .i64 0, .int .i64 0] else undef, bif B 34 then .bool true else undef, bif B 35 then .bool true else undef, bif B 36 then .bool true else undef, bif B 37 then .int .i64 1 else undef, bif B 38 then .bool true else undef, bif B 39 then .bool true else undef, bif B 40 then .bool true else undef, bif B 41 then .int .i64 3 else undef, bif B 42 then .bool true else undef, bif B 43 then .bool true else undef, bif B 44 then .bool true else undef, bif B 45 then .int .i64 6 else undef, bif B 46 then .bool true else undef, bif B 47 then .bool true else undef, bif B 48 then .bool true else undef, bif B 49 then .pointer (some ⟨q, 0, none⟩) else undef, bif B 50 then .agg #[.int .i64 0, .int .i64 0, .int .i64 0] else undef, bif B 51 then .int .i64 80 else undef, bif B 52 then .bool true else undef, bif B 53 then .bool true else undef], defers := [] } ∧ Below Wz.heap.size Wz wc ∧ (B 7 = true → wc.heap[pe]? = some (.cells #[.int .i64 1, .int .i64 4, .int .i64 3, .int .i64 0] 3 (0, 0)))) ?init ?step ?fin
  case init => exact ⟨0, rfl, (Below.refl _ _).drew, fun h => by simp at h⟩
  case step =>
    have hwr : IntKind.i64.wrap 0 = 0 := by decide
    intro B j a wc hj hbj hcl hw hI K hK
    obtain ⟨pe, rfl, hB, hL⟩ := hI
    have hj : j < 55 := hj
    have hc7 : j = 8 → B 7 = true := by
      rintro rfl
      simp [waits, Region.binds] at hw
      first | exact hw.2.1 | exact hw.1 | exact hw.2.2
    clear hcl
    obtain rfl | rfl | rfl | rfl | rfl | rfl | rfl | rfl | rfl | rfl | rfl | rfl | rfl | rfl | rfl | rfl | rfl | rfl | rfl | rfl | rfl | rfl | rfl | rfl | rfl | rfl | rfl | rfl | rfl | rfl | rfl | rfl | rfl | rfl | rfl | rfl | rfl | rfl | rfl | rfl | rfl | rfl | rfl | rfl | rfl | rfl | rfl | rfl | rfl | rfl | rfl | rfl | rfl | rfl | rfl : j = 0 ∨ j = 1 ∨ j = 2 ∨ j = 3 ∨ j = 4 ∨ j = 5 ∨ j = 6 ∨ j = 7 ∨ j = 8 ∨ j = 9 ∨ j = 10 ∨ j = 11 ∨ j = 12 ∨ j = 13 ∨ j = 14 ∨ j = 15 ∨ j = 16 ∨ j = 17 ∨ j = 18 ∨ j = 19 ∨ j = 20 ∨ j = 21 ∨ j = 22 ∨ j = 23 ∨ j = 24 ∨ j = 25 ∨ j = 26 ∨ j = 27 ∨ j = 28 ∨ j = 29 ∨ j = 30 ∨ j = 31 ∨ j = 32 ∨ j = 33 ∨ j = 34 ∨ j = 35 ∨ j = 36 ∨ j = 37 ∨ j = 38 ∨ j = 39 ∨ j = 40 ∨ j = 41 ∨ j = 42 ∨ j = 43 ∨ j = 44 ∨ j = 45 ∨ j = 46 ∨ j = 47 ∨ j = 48 ∨ j = 49 ∨ j = 50 ∨ j = 51 ∨ j = 52 ∨ j = 53 ∨ j = 54 := by omega
    all_goals (simp [waits, Region.binds] at hw)
    · simp only [hbj, cond_false]
      refine wpOpIn_step rfl ?_
      intro K' hK'
      go_simp
      exact hK' _ _ (hK _ _ ⟨pe, by simp [upd], hB, fun h => hL (by simpa [upd] using h)⟩)
    · simp only [hbj, hw, cond_true, cond_false]
      refine wpOpIn_step rfl ?_
      intro K' hK'
      go_simp
      exact hK' _ _ (hK _ _ ⟨pe, by simp [upd, hw], hB, fun h => hL (by simpa [upd] using h)⟩)
    · simp only [hbj, hw, cond_true, cond_false]
      refine wpOpIn_step rfl ?_
      intro K' hK'
      go_simp
      exact hK' _ _ (hK _ _ ⟨pe, by simp [upd, hw], hB, fun h => hL (by simpa [upd] using h)⟩)
    · simp only [hbj, hw, cond_true, cond_false]
      refine wpOpIn_step rfl ?_
      intro K' hK'
      go_simp
      exact hK' _ _ (hK _ _ ⟨pe, by simp [upd, hw], hB, fun h => hL (by simpa [upd] using h)⟩)
    · simp only [hbj, hw, cond_true, cond_false]
      refine wpOpIn_step rfl ?_
      intro K' hK'
      go_simp
      exact hK' _ _ (hK _ _ ⟨pe, by simp [upd, hw], hB, fun h => hL (by simpa [upd] using h)⟩)
    · simp only [hbj, hw, cond_true, cond_false]
      refine wpOpIn_step rfl ?_
      intro K' hK'
      go_simp
      exact hK' _ _ (hK _ _ ⟨pe, by simp [upd, hw], hB, fun h => hL (by simpa [upd] using h)⟩)
    · simp only [hbj, hw, cond_true, cond_false]
      refine wpOpIn_step rfl ?_
      intro K' hK'
      go_simp
      exact hK' _ _ (hK _ _ ⟨pe, by simp [upd, hw], hB, fun h => hL (by simpa [upd] using h)⟩)
    · simp only [hbj, hw, cond_true, cond_false]
      refine wpOpIn_step rfl ?_
      intro K' hK'
      go_simp
      have hba := (Below.refl wc.heap.size wc).alloc (Nat.le_refl _) (.cells #[.int .i64 1, .int .i64 4, .int .i64 3, .int .i64 0] 3 (0, 0))
      exact hK' _ _ (hK _ _ ⟨wc.heap.size, by simp [upd, hw], hB.trans (hba.mono hB.size), fun _ => World.alloc_heap_new wc _⟩)
    · simp only [hbj, hw, cond_true, cond_false]
      refine wpOpIn_step rfl ?_
      intro K' hK'
      go_simp
      refine ⟨trivial, (callsIn_wide.2 (HRow.out wc hB pe (hL (hc7 rfl)))).mono ?_⟩
      rintro e w' ⟨rfl, hb⟩
      exact hK' _ _ (hK _ _ ⟨pe, by simp [upd, hw], hB.trans (hb.mono hB.size), fun h => (hb.block _ (Array.getElem?_eq_some_iff.1 (hL (by simpa [upd] using h))).1).trans (hL (by simpa [upd] using h))⟩)
    · simp only [hbj, hw, cond_true, cond_false]
      refine wpOpIn_step rfl ?_
      intro K' hK'
      go_simp
      exact hK' _ _ (hK _ _ ⟨pe, by simp [upd, hw], hB, fun h => hL (by simpa [upd] using h)⟩)
    · simp only [hbj, hw, cond_true, cond_false]
      refine wpOpIn_step rfl ?_
      intro K' hK'
      go_simp
      exact hK' _ _ (hK _ _ ⟨pe, by simp [upd, hw], hB, fun h => hL (by simpa [upd] using h)⟩)
    · simp only [hbj, hw, cond_true, cond_false]
      refine wpOpIn_step rfl ?_
      intro K' hK'
      go_simp
      exact hK' _ _ (hK _ _ ⟨pe, by simp [upd, hw], hB, fun h => hL (by simpa [upd] using h)⟩)
    · simp only [hbj, hw, cond_true, cond_false]
      refine wpOpIn_step rfl ?_
      intro K' hK'
      go_simp
      exact hK' _ _ (hK _ _ ⟨pe, by simp [upd, hw], hB, fun h => hL (by simpa [upd] using h)⟩)
    · simp only [hbj, hw, cond_true, cond_false]
      refine wpOpIn_step rfl ?_
      intro K' hK'
      go_simp
      exact hK' _ _ (hK _ _ ⟨pe, by simp [upd, hw], hB, fun h => hL (by simpa [upd] using h)⟩)
    · simp only [hbj, hw, cond_true, cond_false]
      refine wpOpIn_step rfl ?_
      intro K' hK'
      go_simp
      exact hK' _ _ (hK _ _ ⟨pe, by simp [upd, hw], hB, fun h => hL (by simpa [upd] using h)⟩)
    · simp only [hbj, hw, cond_true, cond_false]
      refine wpOpIn_step rfl ?_
      intro K' hK'
      go_simp
      exact hK' _ _ (hK _ _ ⟨pe, by simp [upd, hw], hB, fun h => hL (by simpa [upd] using h)⟩)
    · simp only [hbj, hw, cond_true, cond_false]
      refine wpOpIn_step rfl ?_
      intro K' hK'
      go_simp
      exact hK' _ _ (hK _ _ ⟨pe, by simp [upd, hw], hB, fun h => hL (by simpa [upd] using h)⟩)
    · simp only [hbj, hw, cond_true, cond_false]
      refine wpOpIn_step rfl ?_
      intro K' hK'
      go_simp
      exact hK' _ _ (hK _ _ ⟨pe, by simp [upd, hw], hB, fun h => hL (by simpa [upd] using h)⟩)
    · simp only [hbj, hw, cond_true, cond_false]
      refine wpOpIn_step rfl ?_
      intro K' hK'
      go_simp
      exact hK' _ _ (hK _ _ ⟨pe, by simp [upd, hw], hB, fun h => hL (by simpa [upd] using h)⟩)
    · simp only [hbj, hw, cond_true, cond_false]
      refine wpOpIn_step rfl ?_
      intro K' hK'
      go_simp
      exact hK' _ _ (hK _ _ ⟨pe, by simp [upd, hw], hB, fun h => hL (by simpa [upd] using h)⟩)
    · simp only [hbj, hw, cond_true, cond_false]
      refine wpOpIn_step rfl ?_
      intro K' hK'
      go_simp
      exact hK' _ _ (hK _ _ ⟨pe, by simp [upd, hw], hB, fun h => hL (by simpa [upd] using h)⟩)
    · simp only [hbj, hw, cond_true, cond_false]
      refine wpOpIn_step rfl ?_
      intro K' hK'
      go_simp
      exact hK' _ _ (hK _ _ ⟨pe, by simp [upd, hw], hB, fun h => hL (by simpa [upd] using h)⟩)
    · simp only [hbj, hw, cond_true, cond_false]
      refine wpOpIn_step rfl ?_
      intro K' hK'
      go_simp
      exact hK' _ _ (hK _ _ ⟨pe, by simp [upd, hw], hB, fun h => hL (by simpa [upd] using h)⟩)
    · obtain ⟨⟨a0, a1, a2⟩, -⟩ := C0.out wc hB
      simp only [hbj, hw, cond_true, cond_false]
      refine wpOpIn_step rfl ?_
      intro K' hK'
      go_simp
      exact hK' _ _ (hK _ _ ⟨pe, by simp [upd, hw], hB, fun h => hL (by simpa [upd] using h)⟩)
    · simp only [hbj, hw, cond_true, cond_false]
      refine wpOpIn_step rfl ?_
      intro K' hK'
      go_simp
      refine ⟨trivial, (callsIn_wide.2 (at_calls 9 wc)).mono ?_⟩
      rintro e w' ⟨rfl, hb⟩
      exact hK' _ _ (hK _ _ ⟨pe, by simp [upd, hw], hB.trans (hb.mono hB.size), fun h => (hb.block _ (Array.getElem?_eq_some_iff.1 (hL (by simpa [upd] using h))).1).trans (hL (by simpa [upd] using h))⟩)
    · simp only [hbj, hw, cond_true, cond_false]
      refine wpOpIn_step rfl ?_
      intro K' hK'
      go_simp
      exact hK' _ _ (hK _ _ ⟨pe, by simp [upd, hw], hB, fun h => hL (by simpa [upd] using h)⟩)
    · simp only [hbj, hw, cond_true, cond_false]
      refine wpOpIn_step rfl ?_
      intro K' hK'
      go_simp
      exact hK' _ _ (hK _ _ ⟨pe, by simp [upd, hw], hB, fun h => hL (by simpa [upd] using h)⟩)
    · simp only [hbj, hw, cond_true, cond_false]
      refine wpOpIn_step rfl ?_
      intro K' hK'
      go_simp
      exact hK' _ _ (hK _ _ ⟨pe, by simp [upd, hw], hB, fun h => hL (by simpa [upd] using h)⟩)
    · simp only [hbj, hw, cond_true, cond_false]
      refine wpOpIn_step rfl ?_
      intro K' hK'
      go_simp
      exact hK' _ _ (hK _ _ ⟨pe, by simp [upd, hw], hB, fun h => hL (by simpa [upd] using h)⟩)
    · simp only [hbj, hw, cond_true, cond_false]
      refine wpOpIn_step rfl ?_
      intro K' hK'
      go_simp
      exact hK' _ _ (hK _ _ ⟨pe, by simp [upd, hw], hB, fun h => hL (by simpa [upd] using h)⟩)
    · simp only [hbj, hw, cond_true, cond_false]
      refine wpOpIn_step rfl ?_
      intro K' hK'
      go_simp
      exact hK' _ _ (hK _ _ ⟨pe, by simp [upd, hw], hB, fun h => hL (by simpa [upd] using h)⟩)
    · simp only [hbj, hw, cond_true, cond_false]
      refine wpOpIn_step rfl ?_
      intro K' hK'
      go_simp
      exact hK' _ _ (hK _ _ ⟨pe, by simp [upd, hw], hB, fun h => hL (by simpa [upd] using h)⟩)
    · obtain ⟨-, ⟨a0, a1, a2⟩⟩ := C0.out wc hB
      simp only [hbj, hw, cond_true, cond_false]
      refine wpOpIn_step rfl ?_
      intro K' hK'
      go_simp
      exact hK' _ _ (hK _ _ ⟨pe, by simp [upd, hw], hB, fun h => hL (by simpa [upd] using h)⟩)
    · simp only [hbj, hw, cond_true, cond_false]
      refine wpOpIn_step rfl ?_
      intro K' hK'
      go_simp
      refine ⟨trivial, (callsIn_wide.2 (at_calls 5 wc)).mono ?_⟩
      rintro e w' ⟨rfl, hb⟩
      exact hK' _ _ (hK _ _ ⟨pe, by simp [upd, hw], hB.trans (hb.mono hB.size), fun h => (hb.block _ (Array.getElem?_eq_some_iff.1 (hL (by simpa [upd] using h))).1).trans (hL (by simpa [upd] using h))⟩)
    · simp only [hbj, hw, cond_true, cond_false]
      refine wpOpIn_step rfl ?_
      intro K' hK'
      go_simp
      exact hK' _ _ (hK _ _ ⟨pe, by simp [upd, hw], hB, fun h => hL (by simpa [upd] using h)⟩)
    · simp only [hbj, hw, cond_true, cond_false]
      refine wpOpIn_step rfl ?_
      intro K' hK'
      go_simp
      exact hK' _ _ (hK _ _ ⟨pe, by simp [upd, hw], hB, fun h => hL (by simpa [upd] using h)⟩)
    · simp only [hbj, hw, cond_true, cond_false]
      refine wpOpIn_step rfl ?_
      intro K' hK'
      go_simp
      exact hK' _ _ (hK _ _ ⟨pe, by simp [upd, hw], hB, fun h => hL (by simpa [upd] using h)⟩)
    · simp only [hbj, hw, cond_true, cond_false]
      refine wpOpIn_step rfl ?_
      intro K' hK'
      go_simp
      exact hK' _ _ (hK _ _ ⟨pe, by simp [upd, hw], hB, fun h => hL (by simpa [upd] using h)⟩)
    · simp only [hbj, hw, cond_true, cond_false]
      refine wpOpIn_step rfl ?_
      intro K' hK'
      go_simp
      exact hK' _ _ (hK _ _ ⟨pe, by simp [upd, hw], hB, fun h => hL (by simpa [upd] using h)⟩)
    · simp only [hbj, hw, cond_true, cond_false]
      refine wpOpIn_step rfl ?_
      intro K' hK'
      go_simp
      exact hK' _ _ (hK _ _ ⟨pe, by simp [upd, hw], hB, fun h => hL (by simpa [upd] using h)⟩)
    · simp only [hbj, hw, cond_true, cond_false]
      refine wpOpIn_step rfl ?_
      intro K' hK'
      go_simp
      exact hK' _ _ (hK _ _ ⟨pe, by simp [upd, hw], hB, fun h => hL (by simpa [upd] using h)⟩)
    · simp only [hbj, hw, cond_true, cond_false]
      refine wpOpIn_step rfl ?_
      intro K' hK'
      go_simp
      exact hK' _ _ (hK _ _ ⟨pe, by simp [upd, hw], hB, fun h => hL (by simpa [upd] using h)⟩)
    · simp only [hbj, hw, cond_true, cond_false]
      refine wpOpIn_step rfl ?_
      intro K' hK'
      go_simp
      exact hK' _ _ (hK _ _ ⟨pe, by simp [upd, hw], hB, fun h => hL (by simpa [upd] using h)⟩)
    · simp only [hbj, hw, cond_true, cond_false]
      refine wpOpIn_step rfl ?_
      intro K' hK'
      go_simp
      exact hK' _ _ (hK _ _ ⟨pe, by simp [upd, hw], hB, fun h => hL (by simpa [upd] using h)⟩)
    · simp only [hbj, hw, cond_true, cond_false]
      refine wpOpIn_step rfl ?_
      intro K' hK'
      go_simp
      exact hK' _ _ (hK _ _ ⟨pe, by simp [upd, hw], hB, fun h => hL (by simpa [upd] using h)⟩)
    · simp only [hbj, hw, cond_true, cond_false]
      refine wpOpIn_step rfl ?_
      intro K' hK'
      go_simp
      exact hK' _ _ (hK _ _ ⟨pe, by simp [upd, hw], hB, fun h => hL (by simpa [upd] using h)⟩)
    · simp only [hbj, hw, cond_true, cond_false]
      refine wpOpIn_step rfl ?_
      intro K' hK'
      go_simp
      exact hK' _ _ (hK _ _ ⟨pe, by simp [upd, hw], hB, fun h => hL (by simpa [upd] using h)⟩)
    · simp only [hbj, hw, cond_true, cond_false]
      refine wpOpIn_step rfl ?_
      intro K' hK'
      go_simp
      exact hK' _ _ (hK _ _ ⟨pe, by simp [upd, hw], hB, fun h => hL (by simpa [upd] using h)⟩)
    · simp only [hbj, hw, cond_true, cond_false]
      refine wpOpIn_step rfl ?_
      intro K' hK'
      go_simp
      exact hK' _ _ (hK _ _ ⟨pe, by simp [upd, hw], hB, fun h => hL (by simpa [upd] using h)⟩)
    · simp only [hbj, hw, cond_true, cond_false]
      refine wpOpIn_step rfl ?_
      intro K' hK'
      go_simp
      exact hK' _ _ (hK _ _ ⟨pe, by simp [upd, hw], hB, fun h => hL (by simpa [upd] using h)⟩)
    · simp only [hbj, hw, cond_true, cond_false]
      refine wpOpIn_step rfl ?_
      intro K' hK'
      go_simp
      refine ⟨trivial, (callsIn_wide.2 (at_calls 0 wc)).mono ?_⟩
      rintro e w' ⟨rfl, hb⟩
      exact hK' _ _ (hK _ _ ⟨pe, by simp [upd, hw], hB.trans (hb.mono hB.size), fun h => (hb.block _ (Array.getElem?_eq_some_iff.1 (hL (by simpa [upd] using h))).1).trans (hL (by simpa [upd] using h))⟩)
    · simp only [hbj, hw, cond_true, cond_false]
      refine wpOpIn_step rfl ?_
      intro K' hK'
      go_simp
      refine ⟨trivial, (callsIn_wide.2 (HPo.out wc hB)).mono ?_⟩
      rintro e w' ⟨rfl, hb⟩
      exact hK' _ _ (hK _ _ ⟨pe, by simp [upd, hw], hB.trans (hb.mono hB.size), fun h => (hb.block _ (Array.getElem?_eq_some_iff.1 (hL (by simpa [upd] using h))).1).trans (hL (by simpa [upd] using h))⟩)
    · simp only [hbj, hw, cond_true, cond_false]
      refine wpOpIn_step rfl ?_
      intro K' hK'
      go_simp
      exact hK' _ _ (hK _ _ ⟨pe, by simp [upd, hw], hB, fun h => hL (by simpa [upd] using h)⟩)
    · simp only [hbj, hw, cond_true, cond_false]
      refine wpOpIn_step rfl ?_
      intro K' hK'
      go_simp
      exact hK' _ _ (hK _ _ ⟨pe, by simp [upd, hw], hB, fun h => hL (by simpa [upd] using h)⟩)
    · simp only [hbj, hw, cond_true, cond_false]
      refine wpOpIn_step rfl ?_
      intro K' hK'
      go_simp
      exact hK' _ _ (hK _ _ ⟨pe, by simp [upd, hw], hB, fun h => hL (by simpa [upd] using h)⟩)
  case fin =>
    intro B a wc hall hI
    obtain ⟨pe, rfl, hB, -⟩ := hI
    simp only [hall 54 (by decide), cond_true]
    have HBw := Lib.hid hB
    clear hall hB
    go_wp2
    go_ret
    exact ⟨rfl, HBe.out.trans (HBw.out.mono HBe.out.size)⟩
end Go.Proofs.Ytjnocijfjkbaiaa
