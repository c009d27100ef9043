/-
  CONTRACT of the examples of layer 2 (fermatalaw02.awake): they hold; nothing that was there is written.
-/
import Derived.Test.YtlohggdabpfkhaaFieldSuit
import Derived.Test.YtlohggdabpfkhaaFieldPlain
import Derived.Test.YtlohggdabpfkhaaFieldNum
import Derived.Test.YtlohggdabpfkhaaAwake01
namespace Go.Proofs.Ytlohggdabpfkhaa
open Go.RowKit Pl

def exL : List Fld := [(1, [7, 8]), (3, [])]
theorem exL_row (w : World) : FRow ((w.alloc (.cells #[.int .u8 7, .int .u8 8] 5)).alloc (.cells #[.int .i64 1, .slice (some ⟨w.heap.size, 0, none⟩) 2 2, .int .i64 3, .slice none 0 0] 25)) (.slice (some ⟨w.heap.size + 1, 0, none⟩) 2 2) exL := by
  refine ⟨by intro p hp; simp [exL] at hp; rcases hp with rfl | rfl <;> (unfold Tag64; omega), .inr ⟨w.heap.size + 1, 0, 2, fun i => if i = 0 then some ⟨w.heap.size, 0, none⟩ else none, fun i => if i = 0 then 2 else 0, rfl, Nat.le_refl _, by unfold maxLen; omega, fun i hi => ?_⟩⟩
  have h0 := BRow.litAt w [7, 8] 5 #[.int .u8 7, .int .u8 8] w.heap.size 2 rfl rfl rfl (AllB.of rfl) (by decide)
  have hi2 : i < 2 := hi
  rcases (show i = 0 ∨ i = 1 by omega) with rfl | rfl
  · refine ⟨by simp [exL, ft], by simp [exL, fb], ?_⟩
    exact h0.below ((Below.refl _ _).alloc (Nat.le_refl _) _)
  · refine ⟨by simp [exL, ft], by simp [exL, fb], ?_⟩
    exact BRow.empty none 0 (Nat.zero_le _)
def exW : List Wnt := [⟨1, true, 2, 2⟩, ⟨2, false, 0, 9⟩]
theorem exW_row (w : World) : WRow (w.alloc (.cells #[.int .i64 1, .bool true, .int .i64 2, .int .i64 2, .int .i64 2, .bool false, .int .i64 0, .int .i64 9] 32)) (.slice (some ⟨w.heap.size, 0, none⟩) 2 2) exW := by
  refine .inr ⟨w.heap.size, 0, 2, rfl, Nat.le_refl _, by unfold maxLen; omega, fun i hi => ?_⟩
  have hi2 : i < 2 := hi
  rcases (show i = 0 ∨ i = 1 by omega) with rfl | rfl <;> simp [exW, wg]
/-- The part of a list of fields at its front. -/
theorem FRow.head {w : World} {a : Option Addr} {n c : Nat} {L : List Fld} (h : FRow w (.slice a n c) L) (k : Nat) (hk : k ≤ L.length) : FRow w (.slice a k c) (L.take k) := by
  obtain ⟨ht, ⟨a', c', e, rfl, hc⟩ | ⟨b, off, cap, A, C, e, h1, h2, h3⟩⟩ := h
  · obtain rfl : k = 0 := by simpa using hk
    simp only [Value.slice.injEq] at e
    obtain ⟨rfl, rfl, rfl⟩ := e
    exact ⟨by simp, .inl ⟨_, _, rfl, rfl, hc⟩⟩
  · simp only [Value.slice.injEq] at e
    obtain ⟨rfl, rfl, rfl⟩ := e
    have hl : (L.take k).length = k := by simp; omega
    refine ⟨fun p hp => ht p (List.mem_of_mem_take hp), .inr ⟨b, off, c, A, C, by rw [hl], by omega, h2, fun i hi => ?_⟩⟩
    rw [hl] at hi
    have e1 : ft (L.take k) i = ft L i := by simp [ft, List.getD_eq_getElem?_getD, hi]
    have e2 : fb (L.take k) i = fb L i := by simp [fb, List.getD_eq_getElem?_getD, hi]
    rw [e1, e2]
    exact h3 i (by omega)
theorem FRow.none (w : World) : FRow w (.slice none 0 0) [] := ⟨by simp, .inl ⟨_, _, rfl, rfl, Nat.zero_le _⟩⟩

def exB (k : Nat) : List Nat := if k = 0 then [1, 2, 7] else if k = 1 then [1, 0, 1, 0] else if k = 2 then [1, 0, 0, 0] else [1, 247, 5]
def exA (k : Nat) : Nat := if k = 1 ∨ k = 2 then 2 else 0
theorem exB_read : ∀ k, k < 4 → readE (exB k) = some (exA k) := by decide

theorem exS1 : twoV (suitF exL exW) = .tuple #[.int .i64 3, .int .i64 23] := by rw [show suitF exL exW = some (3, 23) by decide]; rfl
theorem exS2 : twoV (suitF (exL.take 1) exW) = .tuple #[.int .i64 0, .int .i64 0] := by rw [show suitF (exL.take 1) exW = none by decide]; rfl
theorem exS3 : twoV (suitF [] exW) = .tuple #[.int .i64 1, .int .i64 25] := by rw [show suitF [] exW = some (1, 25) by decide]; rfl
/-- The world behind the table of examples. -/
def exWorld (W : World) (t : TypeId) : World := ((((W.alloc (.cells #[.int .u8 1, .int .u8 2, .int .u8 7] 5)).alloc (.cells #[.int .u8 1, .int .u8 0, .int .u8 1, .int .u8 0] 5)).alloc (.cells #[.int .u8 1, .int .u8 0, .int .u8 0, .int .u8 0] 5)).alloc (.cells #[.int .u8 1, .int .u8 247, .int .u8 5] 5)).alloc
  (.cells #[.slice (some ⟨W.heap.size, 0, none⟩) 3 3, .int .i64 0, .slice (some ⟨W.heap.size + 1, 0, none⟩) 4 4, .int .i64 2, .slice (some ⟨W.heap.size + 1 + 1, 0, none⟩) 4 4, .int .i64 2, .slice (some ⟨W.heap.size + 1 + 1 + 1, 0, none⟩) 3 3, .int .i64 0] t)
theorem exWorld_below (W : World) (t : TypeId) : Below W.heap.size W (exWorld W t) := by
  unfold exWorld
  exact (((((Below.refl _ W).alloc (Nat.le_refl _) _).alloc (by simp) _).alloc (by simp; omega) _).alloc (by simp; omega) _).alloc (by simp; omega) _
theorem exWorld_table (W : World) (t : TypeId) : ∀ k, k < 4 → (exWorld W t).cell? ⟨W.heap.size + 1 + 1 + 1 + 1, k * 2, none⟩ = some (.slice (some ⟨W.heap.size + k, 0, none⟩) (exB k).length (exB k).length) ∧ (exWorld W t).cell? ⟨W.heap.size + 1 + 1 + 1 + 1, k * 2 + 1, none⟩ = some (.int .i64 (exA k : Nat)) ∧ BRow (exWorld W t) (.slice (some ⟨W.heap.size + k, 0, none⟩) (exB k).length (exB k).length) (exB k) := by
  intro k hk
  have e : (exWorld W t).heap[W.heap.size + 1 + 1 + 1 + 1]? = some (.cells #[.slice (some ⟨W.heap.size, 0, none⟩) 3 3, .int .i64 0, .slice (some ⟨W.heap.size + 1, 0, none⟩) 4 4, .int .i64 2, .slice (some ⟨W.heap.size + 1 + 1, 0, none⟩) 4 4, .int .i64 2, .slice (some ⟨W.heap.size + 1 + 1 + 1, 0, none⟩) 3 3, .int .i64 0] t (0, 0)) := by
    unfold exWorld
    have := World.alloc_heap_new ((((W.alloc (.cells #[.int .u8 1, .int .u8 2, .int .u8 7] 5)).alloc (.cells #[.int .u8 1, .int .u8 0, .int .u8 1, .int .u8 0] 5)).alloc (.cells #[.int .u8 1, .int .u8 0, .int .u8 0, .int .u8 0] 5)).alloc (.cells #[.int .u8 1, .int .u8 247, .int .u8 5] 5)) (.cells #[.slice (some ⟨W.heap.size, 0, none⟩) 3 3, .int .i64 0, .slice (some ⟨W.heap.size + 1, 0, none⟩) 4 4, .int .i64 2, .slice (some ⟨W.heap.size + 1 + 1, 0, none⟩) 4 4, .int .i64 2, .slice (some ⟨W.heap.size + 1 + 1 + 1, 0, none⟩) 3 3, .int .i64 0] t)
    simp only [World.size_alloc] at this
    exact this
  have r : ∀ (X : World) (o : Obj), Below X.heap.size X (X.alloc o) := fun X o => (Below.refl _ X).alloc (Nat.le_refl _) o
  rcases (show k = 0 ∨ k = 1 ∨ k = 2 ∨ k = 3 by omega) with rfl | rfl | rfl | rfl
  · refine ⟨by simp [World.cell?, e, exB], by simp [World.cell?, e, exA], ?_⟩
    have h := BRow.litAt W [1, 2, 7] 5 #[.int .u8 1, .int .u8 2, .int .u8 7] W.heap.size 3 rfl rfl rfl (AllB.of rfl) (by decide)
    exact (((h.below (r _ _)).below (r _ _)).below (r _ _)).below (r _ _)
  · refine ⟨by simp [World.cell?, e, exB], by simp [World.cell?, e, exA], ?_⟩
    have h := BRow.litAt (W.alloc (.cells #[.int .u8 1, .int .u8 2, .int .u8 7] 5)) [1, 0, 1, 0] 5 #[.int .u8 1, .int .u8 0, .int .u8 1, .int .u8 0] (W.heap.size + 1) 4 rfl (by simp) rfl (AllB.of rfl) (by decide)
    exact ((h.below (r _ _)).below (r _ _)).below (r _ _)
  · refine ⟨by simp [World.cell?, e, exB], by simp [World.cell?, e, exA], ?_⟩
    have h := BRow.litAt ((W.alloc (.cells #[.int .u8 1, .int .u8 2, .int .u8 7] 5)).alloc (.cells #[.int .u8 1, .int .u8 0, .int .u8 1, .int .u8 0] 5)) [1, 0, 0, 0] 5 #[.int .u8 1, .int .u8 0, .int .u8 0, .int .u8 0] (W.heap.size + 2) 4 rfl (by simp) rfl (AllB.of rfl) (by decide)
    exact (h.below (r _ _)).below (r _ _)
  · refine ⟨by simp [World.cell?, e, exB], by simp [World.cell?, e, exA], ?_⟩
    have h := BRow.litAt (((W.alloc (.cells #[.int .u8 1, .int .u8 2, .int .u8 7] 5)).alloc (.cells #[.int .u8 1, .int .u8 0, .int .u8 1, .int .u8 0] 5)).alloc (.cells #[.int .u8 1, .int .u8 0, .int .u8 0, .int .u8 0] 5)) [1, 247, 5] 5 #[.int .u8 1, .int .u8 247, .int .u8 5] (W.heap.size + 3) 3 rfl (by simp) rfl (AllB.of rfl) (by decide)
    exact h.below (r _ _)

set_option maxRecDepth 100000 in
set_option maxHeartbeats 4000000 in
theorem awake2_calls (w : World) : Calls Try.prog 16 #[] w fun e w' => e = .returned (.bool true) ∧ Below w.heap.size w w' := by
  have HE := Lib.hid (exL_row w)
  have HA1 := Lib.hid (((Below.refl w.heap.size w).alloc (Nat.le_refl _) (.cells #[.int .u8 7, .int .u8 8] 5)).alloc (by simp) (.cells #[.int .i64 1, .slice (some ⟨w.heap.size, 0, none⟩) 2 2, .int .i64 3, .slice none 0 0] 25))
  go_enter Try.func16, Try.ntmps16
  go_wp2_with fail
  refine (write_calls _ exL _ HE.out).mono ?_
  rintro e w1 ⟨v1, er1, rfl, hb1, ⟨h, -⟩ | ⟨-, rfl, hown1⟩⟩
  · exact absurd h (by decide)
  have HB1 := Lib.hid (HA1.out.trans (hb1.mono HA1.out.size))
  have HE1 := Lib.hid (HE.out.below hb1)
  have HO1 := Lib.hid (show Own8 w1 _ v1 [1, 2, 7, 8, 3, 0] from hown1)
  clear hb1 hown1 HE HA1
  go_wp2_with fail
  refine (sameBytes_b _ _ [1, 2, 7, 8, 3, 0] [1, 2, 7, 8, 3, 0] _ ?_ (BRow.litAt w1 _ _ _ _ _ rfl rfl rfl (AllB.of rfl) (by decide))).mono ?_
  · exact (BRow.of_own HO1.out (AllB.of rfl)).below ((Below.refl _ _).alloc (Nat.le_refl _) _)
  rintro e w2 ⟨rfl, hb2⟩
  have hb12 := (HB1.out.alloc HB1.out.size _).trans (hb2.mono (HB1.out.alloc HB1.out.size _).size)
  have HB2 := Lib.hid hb12
  have HE2 := Lib.hid (HE1.out.below (((Below.refl _ w1).alloc (Nat.le_refl _) _).trans (hb2.mono (by simp))))
  clear hb2 HB1 HE1 HO1 hb12
  have HTb := Lib.hid (exWorld_table w2 101)
  have HBT := Lib.hid (exWorld_below w2 101)
  unfold exWorld at HTb HBT
  go_wp2_with fail
  generalize (((((w2.alloc (.cells #[.int .u8 1, .int .u8 2, .int .u8 7] 5)).alloc (.cells #[.int .u8 1, .int .u8 0, .int .u8 1, .int .u8 0] 5)).alloc (.cells #[.int .u8 1, .int .u8 0, .int .u8 0, .int .u8 0] 5)).alloc (.cells #[.int .u8 1, .int .u8 247, .int .u8 5] 5)).alloc
    (.cells #[.slice (some ⟨w2.heap.size, 0, none⟩) 3 3, .int .i64 0, .slice (some ⟨w2.heap.size + 1, 0, none⟩) 4 4, .int .i64 2, .slice (some ⟨w2.heap.size + 1 + 1, 0, none⟩) 4 4, .int .i64 2, .slice (some ⟨w2.heap.size + 1 + 1 + 1, 0, none⟩) 3 3, .int .i64 0] 101)) = w3 at *
  have HB3 := Lib.hid (HB2.out.trans (HBT.out.mono HB2.out.size))
  have HE3 := Lib.hid (HE2.out.below HBT.out)
  clear HBT HB2 HE2
  generalize w2.heap.size = g2 at *
  go_loopw [44] (fun i wr => ∃ k : Nat, k ≤ 4 ∧ i = .int .i64 k ∧ Below w3.heap.size w3 wr) (fun i _ => 4 - (intOf i).toNat)
  case atStart => exact ⟨0, by omega, rfl, Below.refl _ _⟩
  case round =>
    obtain ⟨k, hk, rfl, hbel⟩ := hrel
    by_cases hlt : k < 4
    · obtain ⟨c1, c2, hr⟩ := HTb.out k hlt
      have c1' := (hbel.cell (p := ⟨g2 + 1 + 1 + 1 + 1, k * 2, none⟩) (block_lt_of_cell c1)).trans c1
      have c2' := (hbel.cell (p := ⟨g2 + 1 + 1 + 1 + 1, k * 2 + 1, none⟩) (block_lt_of_cell c2)).trans c2
      have hE := exB_read k hlt
      have hl : (exB k).length ≤ 4 := by rcases (show k = 0 ∨ k = 1 ∨ k = 2 ∨ k = 3 by omega) with rfl | rfl | rfl | rfl <;> decide
      have hR := fun W (hb : Below w3.heap.size w3 W) => fieldRead_calls _ (exB k) W (hr.below hb) (by omega)
      have HR := Lib.hid hR
      have HBl := Lib.hid hbel
      have HEr := Lib.hid hE
      have HN := Lib.hid (World.alloc_heap_new wr (.cells #[.slice (some ⟨g2 + k, 0, none⟩) (exB k).length (exB k).length, .int .i64 (exA k : Nat)] 101))
      generalize exA k = a0 at *
      generalize exB k = bs at *
      clear hbel c1 c2 hr hR hE
      have dk : decide ((k : Int) < 4) = true := by simp; omega
      go_wp2_with fail
      refine (HR.out _ (HBl.out.alloc HBl.out.size _)).mono ?_
      rintro e w4 ⟨hb4, ⟨at0, hat, rfl⟩ | ⟨hn, -⟩⟩
      · rw [HEr.out] at hat
        cases hat
        have hN4 := (hb4.block wr.heap.size (by simp)).trans HN.out
        have e1 : w4.cell? ⟨wr.heap.size, 1, none⟩ = some (.int .i64 (a0 : Nat)) := by simp [World.cell?, hN4]
        have HB4 := Lib.hid ((HBl.out.alloc HBl.out.size _).trans (hb4.mono (HBl.out.alloc HBl.out.size _).size))
        clear hb4 hN4 HBl
        go_wp2_with fail
        go_roundw
        case rel => exact ⟨k + 1, by omega, by go_num, HB4.out⟩
        case measure => simp [intOf]; omega
      · rw [HEr.out] at hn
        cases hn
    · obtain rfl : k = 4 := by omega
      have HBe := Lib.hid (HB3.out.trans (hbel.mono HB3.out.size))
      have HEe := Lib.hid (HE3.out.below hbel)
      clear hbel HTb HB3 HE3
      have HWr := Lib.hid (exW_row wr)
      go_wp2_with fail
      have hc1 := suit_calls _ _ exL exW _ (HEe.out.below ((Below.refl _ wr).alloc (Nat.le_refl _) _)) HWr.out
      rw [exS1] at hc1
      refine hc1.mono ?_
      rintro e w5 ⟨rfl, hb5⟩
      have hA5 := (HBe.out.alloc HBe.out.size (.cells #[.int .i64 1, .bool true, .int .i64 2, .int .i64 2, .int .i64 2, .bool false, .int .i64 0, .int .i64 9] 32))
      have HB5 := Lib.hid (hA5.trans (hb5.mono hA5.size))
      have HE5 := Lib.hid ((HEe.out.below ((Below.refl _ wr).alloc (Nat.le_refl _) _)).below hb5)
      have HW5 := Lib.hid (HWr.out.below hb5)
      clear hb5 hA5 hc1 HBe HEe HWr
      go_wp2_with fail
      have hc2 := suit_calls _ _ (exL.take 1) exW _ (HE5.out.head 1 (by decide)) HW5.out
      rw [exS2] at hc2
      refine hc2.mono ?_
      rintro e w6 ⟨rfl, hb6⟩
      have HB6 := Lib.hid (HB5.out.trans (hb6.mono HB5.out.size))
      have HW6 := Lib.hid (HW5.out.below hb6)
      clear hb6 hc2 HB5 HE5 HW5
      go_wp2_with fail
      have hc3 := suit_calls _ _ [] exW _ (FRow.none w6) HW6.out
      rw [exS3] at hc3
      refine hc3.mono ?_
      rintro e w7 ⟨rfl, hb7⟩
      have HB7 := Lib.hid (HB6.out.trans (hb7.mono HB6.out.size))
      clear hb7 hc3 HB6 HW6
      go_wp2_with fail
      refine (fieldNumber_calls 5 300 (by omega) w7).mono ?_
      rintro e w8 ⟨v8, rfl, hown8, hb8⟩
      have HB8 := Lib.hid (HB7.out.trans (hb8.mono HB7.out.size))
      have ho8 : Own8 w8 w7.heap.size v8 [248, 1, 44] := hown8
      obtain ⟨a8, c8, rfl⟩ := owns_shape ho8
      have HO8 := Lib.hid (BRow.of_own ho8 (AllB.of rfl))
      clear hb8 hown8 ho8 HB7
      go_wp2_with fail
      refine (sameBytes_b _ _ [248, 1, 44] [248, 1, 44] _ ?_ (BRow.litAt (w8.alloc (.cells #[.int .i64 5, .slice a8 3 c8] 25)) _ _ _ _ _ rfl (by simp) rfl (AllB.of rfl) (by decide))).mono ?_
      · exact HO8.out.below (((Below.refl _ _).alloc (Nat.le_refl _) _).alloc (by simp) _)
      rintro e w9 ⟨rfl, hb9⟩
      have hA9 := (HB8.out.alloc HB8.out.size (.cells #[.int .i64 5, .slice a8 3 c8] 25))
      have HB9 := Lib.hid ((hA9.alloc hA9.size _).trans (hb9.mono (hA9.alloc hA9.size _).size))
      clear hb9 hA9 HB8 HO8
      go_wp2
      go_ret
      exact ⟨rfl, HB9.out⟩
end Go.Proofs.Ytlohggdabpfkhaa
