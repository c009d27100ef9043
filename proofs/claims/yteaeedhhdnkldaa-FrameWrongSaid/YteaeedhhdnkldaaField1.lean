/-
  CONTRACTS of field.wholeRoom, (*room).take and field.Right: whether fields are right; nothing that was there is written.
-/
import Derived.Test.YteaeedhhdnkldaaNumLast
import Derived.Test.YteaeedhhdnkldaaSame
import Derived.RangeFuncBox
import Derived.BigFrame
namespace Go.Proofs.Yteaeedhhdnkldaa
open Go.RowKit Pl

/-- A field: its tag, its bytes. -/
abbrev Fld := Int × List Nat
def ft (L : List Fld) (i : Nat) : Int := (L.getD i (0, [])).1
def fb (L : List Fld) (i : Nat) : List Nat := (L.getD i (0, [])).2
def Tag64 (t : Int) : Prop := -9223372036854775808 ≤ t ∧ t ≤ 9223372036854775807
/-- THE VALUE v READS AS THE FIELDS L. -/
def FRow (w : World) (v : Value) (L : List Fld) : Prop :=
  (∀ p ∈ L, Tag64 p.1) ∧ ((∃ a c, v = .slice a 0 c ∧ L = [] ∧ c ≤ maxLen) ∨ ∃ (b off cap : Nat) (A : Nat → Option Addr) (C : Nat → Nat), v = .slice (some ⟨b, off, none⟩) L.length cap ∧ L.length ≤ cap ∧ cap ≤ maxLen ∧
    ∀ i, i < L.length → w.cell? ⟨b, off + i * 2, none⟩ = some (.int .i64 (ft L i)) ∧ w.cell? ⟨b, off + i * 2 + 1, none⟩ = some (.slice (A i) (fb L i).length (C i)) ∧ BRow w (.slice (A i) (fb L i).length (C i)) (fb L i))

/-- The room at a block. -/
def RoomAt (w : World) (b n m : Nat) (a : Int) : Prop := w.heap[b]? = some (.cells #[.int .i64 n, .int .i64 m, .int .i64 a] 173 (0, 0))

theorem room_cells {w : World} {b n m : Nat} {a : Int} (h : RoomAt w b n m a) : w.cell? ⟨b, 0, none⟩ = some (.int .i64 n) ∧ w.cell? ⟨b, 1, none⟩ = some (.int .i64 m) ∧ w.cell? ⟨b, 2, none⟩ = some (.int .i64 a) ∧ ∀ i, w.frozen? ⟨b, i, none⟩ = false := by
  unfold RoomAt at h
  refine ⟨by simp [World.cell?, h], by simp [World.cell?, h], by simp [World.cell?, h], fun i => by simp [World.frozen?, h]⟩

theorem setCell_cells {w : World} {b : Nat} {cs : Array Value} {t : TypeId} (h : w.heap[b]? = some (.cells cs t (0, 0))) (i : Nat) (v : Value) :
    (w.setCell ⟨b, i, none⟩ v).heap[b]? = some (.cells (cs.modify i fun _ => v) t (0, 0)) := by
  obtain ⟨hlt, hk⟩ := Array.getElem?_eq_some_iff.1 h
  show (w.heap.modify b _)[b]? = _
  rw [Array.getElem?_eq_getElem (by rw [Array.size_modify]; exact hlt), Array.getElem_modify_self, hk]
  rfl
theorem grownBy_setCell (W : World) (b i : Nat) (v : Value) : W.grownBy (W.setCell ⟨b, i, none⟩ v) (some b) :=
  ⟨rfl, rfl, rfl, (KeepsWalks.setCell W _ v).size, fun k _ hk => Below.heap_setCell _ _ _ k (fun e => hk (by rw [e]))⟩
theorem room_set {w : World} {b n m : Nat} {a : Int} (h : RoomAt w b n m a) (x y z : Value) :
    (((w.setCell ⟨b, 0, none⟩ x).setCell ⟨b, 1, none⟩ y).setCell ⟨b, 2, none⟩ z).heap[b]? = some (.cells #[x, y, z] 173 (0, 0)) ∧
    w.grownBy (((w.setCell ⟨b, 0, none⟩ x).setCell ⟨b, 1, none⟩ y).setCell ⟨b, 2, none⟩ z) (some b) := by
  refine ⟨?_, ((grownBy_setCell w b 0 x).trans (grownBy_setCell _ b 1 y)).trans (grownBy_setCell _ b 2 z)⟩
  rw [setCell_cells (setCell_cells (setCell_cells h 0 x) 1 y) 2 z]
  rfl

/-- Whether there is room for a field. -/
def takeOk (n m : Nat) (a t : Int) (s : Nat) : Bool := decide (n ≠ 0 ∧ a < t ∧ t ≤ 200 ∧ s ≤ m)

set_option maxRecDepth 100000 in
set_option maxHeartbeats 1000000 in
theorem take_calls (b n m : Nat) (a t : Int) (s : Nat) (w : World) (hr : RoomAt w b n m a) (hn : n ≤ 64) (hm : m ≤ 16384) :
    Calls Try.prog 120 #[.pointer (some ⟨b, 0, none⟩), .int .i64 t, .int .i64 s] w fun e w' => e = .returned (.bool (takeOk n m a t s)) ∧ (takeOk n m a t s = true → RoomAt w' b (n - 1) (m - s) t) ∧ w.grownBy w' (some b) := by
  obtain ⟨h0, h1, h2, hf⟩ := room_cells hr
  have hf0 := hf 0; have hf1 := hf 1; have hf2 := hf 2
  have HR := Lib.hid hr
  clear hr hf
  go_enter Try.func120, Try.ntmps120
  go_wp2
  all_goals go_ret
  all_goals first
    | exact ⟨ret_bool (by unfold takeOk; simp; omega), fun h => absurd h (by unfold takeOk; simp; omega), World.grownBy.refl _ _⟩
    | (rename_i hx; simp at hx; exact ⟨ret_bool (by unfold takeOk; simp; omega), fun h => absurd h (by unfold takeOk; simp; omega), World.grownBy.refl _ _⟩)
    | skip
  rename_i hx
  simp at hx
  obtain ⟨r1, r2⟩ := room_set HR.out (.int .i64 ((n : Int) - 1)) (.int .i64 ((m : Int) - (s : Int))) (.int .i64 t)
  refine ⟨ret_bool (by unfold takeOk; simp; omega), fun _ => ?_, r2⟩
  unfold RoomAt
  rw [r1, show ((n - 1 : Nat) : Int) = (n : Int) - 1 by omega, show ((m - s : Nat) : Int) = (m : Int) - (s : Int) by omega]

set_option maxRecDepth 100000 in
set_option maxHeartbeats 1000000 in
theorem wholeRoom_calls (w : World) :
    Calls Try.prog 119 #[] w fun e w' => e = .returned (.agg #[.int .i64 64, .int .i64 16384, .int .i64 0]) ∧ Below w.heap.size w w' := by
  go_enter Try.func119, Try.ntmps119
  go_wp2
  refine bodyPost_ret (v := .agg #[.int .i64 64, .int .i64 16384, .int .i64 0]) (by simp [results, Try.results119, go_sem]) rfl ⟨rfl, ?_⟩
  exact (Below.refl _ _).alloc (Nat.le_refl _) _

/-- Whether the rest of a list fits a room. -/
def fits : Nat → Nat → Int → List Fld → Bool
  | _, _, _, [] => true
  | n, m, a, p :: L => takeOk n m a p.1 p.2.length && fits (n - 1) (m - p.2.length) p.1 L
/-- Whether fields are right. -/
def rightF (L : List Fld) : Bool := fits 64 16384 0 L

theorem fits_step (n m : Nat) (a : Int) (L : List Fld) (k : Nat) (hk : k < L.length) :
    fits n m a (L.drop k) = (takeOk n m a (ft L k) (fb L k).length && fits (n - 1) (m - (fb L k).length) (ft L k) (L.drop (k + 1))) := by
  rw [List.drop_eq_getElem_cons hk]
  simp [fits, ft, fb, List.getD_eq_getElem?_getD, hk]

theorem room_below {w w' : World} {b n m : Nat} {a : Int} (h : RoomAt w b n m a) (hb : Below w.heap.size w w') : RoomAt w' b n m a :=
  (hb.block b (Array.getElem?_eq_some_iff.1 h).1).trans h
theorem room_lt {w : World} {b n m : Nat} {a : Int} (h : RoomAt w b n m a) : b < w.heap.size := (Array.getElem?_eq_some_iff.1 h).1

set_option maxRecDepth 100000 in
set_option maxHeartbeats 1000000 in
theorem right_calls (v : Value) (L : List Fld) (w : World) (h : FRow w v L) :
    Calls Try.prog 75 #[v] w fun e w' => e = .returned (.bool (rightF L)) ∧ Below w.heap.size w w' := by
  obtain ⟨ht, ⟨a, c, rfl, rfl, -⟩ | ⟨b, off, cap, A, C, rfl, hc, hm, hcell⟩⟩ := h
  · go_enter Try.func75, Try.ntmps75
    go_wp2_with (first
      | (go_at_call 119; refine (wholeRoom_calls w).mono ?_; rintro e w1 ⟨rfl, hb1⟩))
    go_loopw [9] (fun i wr => i = .int .i64 0 ∧ Below w.heap.size w wr) (fun i _ => 0)
    case atStart => exact ⟨rfl, hb1.alloc hb1.size _⟩
    case round =>
      obtain ⟨rfl, hbel⟩ := hrel
      go_wp2
      go_ret
      exact ⟨rfl, hbel⟩
  · have HC := Lib.hid hcell
    clear hcell
    have hcs : (L.length : Int) ≤ 9223372036854775807 := by unfold maxLen at hm; omega
    clear hm ht
    go_enter Try.func75, Try.ntmps75
    go_wp2_with (first
      | (go_at_call 119; refine (wholeRoom_calls w).mono ?_; rintro e w1 ⟨rfl, hb1⟩))
    have hb2 := hb1.alloc hb1.size (.cells #[.int .i64 64, .int .i64 16384, .int .i64 0] 173)
    have hr2 : RoomAt (w1.alloc (.cells #[.int .i64 64, .int .i64 16384, .int .i64 0] 173)) w1.heap.size 64 16384 0 := World.alloc_heap_new _ _
    have hg : w.heap.size ≤ w1.heap.size := hb1.size
    generalize w1.alloc (.cells #[.int .i64 64, .int .i64 16384, .int .i64 0] 173) = w2 at *
    generalize w1.heap.size = g at *
    clear hb1
    have HB2 := Lib.hid hb2
    have HR2 := Lib.hid hr2
    clear hb2 hr2
    go_loopw [9] (fun i wr => ∃ k n m a, k ≤ L.length ∧ i = .int .i64 (k : Nat) ∧ n ≤ 64 ∧ m ≤ 16384 ∧ RoomAt wr g n m a ∧ fits n m a (L.drop k) = rightF L ∧ Below w.heap.size w wr) (fun i _ => L.length - (intOf i).toNat)
    case atStart => exact ⟨0, 64, 16384, 0, Nat.zero_le _, rfl, by omega, by omega, HR2.out, rfl, HB2.out⟩
    case round =>
      obtain ⟨k, n, m, a, hk, rfl, hn, hm, hroom, hfit, hbel⟩ := hrel
      by_cases hlt : k < L.length
      · obtain ⟨c1, c2, c3⟩ := HC.out k hlt
        obtain ⟨A1, hA1⟩ : ∃ x, A k = x := ⟨_, rfl⟩
        obtain ⟨C1, hC1⟩ : ∃ x, C k = x := ⟨_, rfl⟩
        rw [hA1, hC1] at c2
        have c1' := (hbel.cell (p := ⟨b, off + k * 2, none⟩) (block_lt_of_cell c1)).trans c1
        have c2' := (hbel.cell (p := ⟨b, off + k * 2 + 1, none⟩) (block_lt_of_cell c2)).trans c2
        have hst := fits_step n m a L k hlt
        have HF := Lib.hid hfit
        have HS := Lib.hid hst
        have HB := Lib.hid hbel
        have HRm := Lib.hid hroom
        clear hfit hst hbel hroom c1 c2 c3 hA1 hC1
        have dk : decide ((k : Int) < (L.length : Int)) = true := by simp; omega
        go_wp2_with fail
        have hA := HB.out.alloc HB.out.size (.cells #[.int .i64 (ft L k), .slice A1 (fb L k).length C1] 33)
        have hR := room_below HRm.out ((Below.refl _ wr).alloc (Nat.le_refl _) (.cells #[.int .i64 (ft L k), .slice A1 (fb L k).length C1] 33))
        have HA := Lib.hid hA
        refine (take_calls g n m a (ft L k) (fb L k).length _ hR hn hm).mono ?_
        rintro e w3 ⟨rfl, hok, hgr⟩
        have hB3 := hA.grown hgr hA.size (fun j e => by cases e; exact hg)
        have HB3 := Lib.hid hB3
        have HOK := Lib.hid hok
        clear hA hR hok hgr hB3 HB
        obtain ⟨tk, htk⟩ : ∃ tk, takeOk n m a (ft L k) (fb L k).length = tk := ⟨_, rfl⟩
        rw [htk] at HS HOK ⊢
        cases tk with
        | false =>
          go_wp2
          go_ret
          exact ⟨ret_bool (by rw [← HF.out, HS.out]; rfl), HB3.out⟩
        | true =>
          go_wp2
          go_roundw
          case rel => exact ⟨k + 1, n - 1, m - (fb L k).length, ft L k, by omega, by go_num, by omega, by omega, HOK.out trivial, by rw [← HF.out, HS.out]; rfl, HB3.out⟩
          case measure => simp [intOf]; omega
      · obtain rfl : k = L.length := by omega
        have HF := Lib.hid hfit
        have HB := Lib.hid hbel
        clear hfit hbel hroom
        go_wp2
        go_ret
        refine ⟨ret_bool ?_, HB.out⟩
        rw [← HF.out, List.drop_length]
        rfl
end Go.Proofs.Yteaeedhhdnkldaa
