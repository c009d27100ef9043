/-
  CONTRACTS of fermatakit.OverBytes and fermatalaw02.over: they write over fields that are the call's own, and over nothing else.
-/
import Derived.Test.YtfgiejeeolnhbaaFieldRead
import Derived.Test.YtfgiejeeolnhbaaTheirs02
namespace Go.Proofs.Ytfgiejeeolnhbaa
open Go.RowKit Pl

set_option maxRecDepth 100000 in
set_option maxHeartbeats 400000 in
theorem mark2_calls (i : Nat) (w : World) (hi : i < 1000000) : Calls Try.prog 91 #[.int .i64 2, .int .i64 i] w fun e w' => e = .returned (.int .i64 (9000027 + (i : Int))) ∧ w = w' := by
  go_enter Try.func91, Try.ntmps91
  go_wp2
  go_ret
  exact ⟨rfl, rfl⟩

set_option maxRecDepth 100000 in
set_option maxHeartbeats 400000 in
theorem markByte2_calls (i : Nat) (w : World) (hi : i < 1000000) : Calls Try.prog 77 #[.int .i64 2, .int .i64 i] w fun e w' => ∃ z, e = .returned (.int .u8 z) ∧ w = w' := by
  go_enter Try.func77, Try.ntmps77
  go_wp2_with (go_at_call 91; refine (mark2_calls i _ hi).mono ?_; rintro e w' ⟨rfl, rfl⟩)
  go_ret
  exact ⟨_, rfl, rfl⟩

/-- Rows of cells stay rows of as many cells; those that hold no bytes and lie elsewhere than r stay as they were. -/
def Rewr (w w' : World) (r : Option Nat) : Prop := ∀ (g : Nat) (cur : Array Value) (t : TypeId), w.heap[g]? = some (.cells cur t (0, 0)) → ∃ cur' : Array Value, w'.heap[g]? = some (.cells cur' t (0, 0)) ∧ cur'.size = cur.size ∧ (t ≠ 5 → some g ≠ r → cur' = cur)
theorem Rewr.refl (w : World) (r : Option Nat) : Rewr w w r := fun _ cur _ h => ⟨cur, h, rfl, fun _ _ => rfl⟩
theorem Rewr.trans {w w' w2 : World} {r : Option Nat} (h : Rewr w w' r) (h2 : Rewr w' w2 r) : Rewr w w2 r := fun g cur t hg => by
  obtain ⟨c1, e1, e2, e3⟩ := h g cur t hg
  obtain ⟨c2, f1, f2, f3⟩ := h2 g c1 t e1
  exact ⟨c2, f1, f2.trans e2, fun ht hr => (f3 ht hr).trans (e3 ht hr)⟩
theorem rewr_set {w : World} {g : Nat} {cur : Array Value} {t : TypeId} (h : w.heap[g]? = some (.cells cur t (0, 0))) (i : Nat) (u : Value) (r : Option Nat) (hr : t = 5 ∨ r = some g) : Rewr w (w.setCell ⟨g, i, none⟩ u) r := fun g2 cur2 t2 hg => by
  by_cases e : g2 = g
  · subst e
    rw [h] at hg
    cases hg
    exact ⟨_, setCell_cells h i u, by simp, fun ht hn => by rcases hr with hr | hr; exact absurd hr ht; exact absurd hr.symm hn⟩
  · exact ⟨cur2, ((grownBy_setCell w g i u).block g2 (Array.getElem?_eq_some_iff.1 hg).1 (by simpa using e)).trans hg, rfl, fun _ _ => rfl⟩

/-- Bytes that may be written over. -/
def BBox (w : World) (base : Nat) (v : Value) (n : Nat) : Prop := (v = .slice none 0 0 ∧ n = 0) ∨ ∃ (g cap : Nat) (cur : Array Value), v = .slice (some ⟨g, 0, none⟩) n cap ∧ base ≤ g ∧ w.heap[g]? = some (.cells cur 5 (0, 0)) ∧ n ≤ cap ∧ cap ≤ maxLen ∧ cur.size = cap
theorem BBox.rewr {w w' : World} {base n : Nat} {v : Value} {r : Option Nat} (h : BBox w base v n) (hr : Rewr w w' r) : BBox w' base v n := by
  rcases h with h | ⟨g, cap, cur, h1, h2, h3, h4, h5, h6⟩
  · exact .inl h
  · obtain ⟨c2, e1, e2, -⟩ := hr g cur _ h3
    exact .inr ⟨g, cap, c2, h1, h2, e1, h4, h5, e2.trans h6⟩
theorem bbox_of {w : World} {base : Nat} {v : Value} {l : List Nat} (h : Own8 w base v l) : BBox w base v l.length := by
  rcases h.2 with h | ⟨g, cap, cur, h1, h2, h3, h4, h5, h6, -⟩
  · exact .inl h
  · exact .inr ⟨g, cap, cur, h1, h2, h3, h4, h5, by simpa using h6⟩

set_option maxRecDepth 100000 in
set_option maxHeartbeats 1000000 in
theorem overBytes_calls (v : Value) (base n : Nat) (w : World) (h : BBox w base v n) (hn : n ≤ 100000) (hb : base ≤ w.heap.size) :
    Calls Try.prog 59 #[v] w fun e w' => (∃ x, e = .returned x) ∧ Rewr w w' none ∧ Below base w w' := by
  rcases h with ⟨rfl, rfl⟩ | ⟨g, cap, cur, rfl, h2, h3, h4, h5, h6⟩
  · go_enter Try.func59, Try.ntmps59
    go_wp2
    go_loopw [3] (fun i wr => i = .int .i64 0 ∧ wr = w) (fun _ _ => 0)
    case atStart => exact ⟨rfl, rfl⟩
    case round =>
      obtain ⟨rfl, rfl⟩ := hrel
      go_wp2
      go_end0
      exact ⟨⟨_, rfl⟩, Rewr.refl _ _, Below.refl _ _⟩
  · have HC := Lib.hid (show (cap : Int) ≤ (maxLen : Int) by omega)
    have H3 := Lib.hid h3
    have H5 := Lib.hid h5
    have H6 := Lib.hid h6
    have ht : ((n : Int) + 12).toNat = n + 12 := by omega
    clear h3 h5 h6
    by_cases hcm : (n : Int) + 12 < (cap : Int)
    · have hcn : n + 12 < cap := by omega
      go_enter Try.func59, Try.ntmps59
      go_wp2
      go_loopw [3] (fun i wr => ∃ k : Nat, k ≤ n + 12 ∧ i = .int .i64 k ∧ Rewr w wr none ∧ Below base w wr) (fun i _ => n + 12 - (intOf i).toNat)
      case atStart => exact ⟨0, Nat.zero_le _, rfl, Rewr.refl _ _, Below.refl _ _⟩
      case round =>
        obtain ⟨k, hk, rfl, hrw, hbel⟩ := hrel
        have HRw := Lib.hid hrw
        have HB := Lib.hid hbel
        obtain ⟨c2, e1, e2, -⟩ := hrw g cur _ H3.out
        have E1 := Lib.hid e1
        clear hrw hbel
        by_cases hlt : k < n + 12
        · have hsz : k < c2.size := by rw [e2, H6.out]; omega
          have hcc : wr.cell? ⟨g, k, none⟩ = some c2[k] := by simp [World.cell?, e1, hsz]
          have hff : wr.frozen? ⟨g, k, none⟩ = false := by simp [World.frozen?, e1]
          clear e1 e2
          go_wp2_with (go_at_call 77; refine (markByte2_calls k _ (by omega)).mono ?_; rintro e w2 ⟨z, rfl, rfl⟩)
          go_roundw
          case rel => exact ⟨k + 1, by omega, by go_num, HRw.out.trans (rewr_set E1.out _ _ _ (.inl rfl)), HB.out.setCell (p := ⟨g, k, none⟩) h2 _⟩
          case measure => simp [intOf]; omega
        · clear e1 e2
          obtain rfl : k = n + 12 := by omega
          go_wp2
          go_end0
          exact ⟨⟨_, rfl⟩, HRw.out, HB.out⟩
    · have hcn : ¬ n + 12 < cap := by omega
      go_enter Try.func59, Try.ntmps59
      go_wp2
      go_loopw [3] (fun i wr => ∃ k : Nat, k ≤ cap ∧ i = .int .i64 k ∧ Rewr w wr none ∧ Below base w wr) (fun i _ => cap - (intOf i).toNat)
      case atStart => exact ⟨0, Nat.zero_le _, rfl, Rewr.refl _ _, Below.refl _ _⟩
      case round =>
        obtain ⟨k, hk, rfl, hrw, hbel⟩ := hrel
        have HRw := Lib.hid hrw
        have HB := Lib.hid hbel
        obtain ⟨c2, e1, e2, -⟩ := hrw g cur _ H3.out
        have E1 := Lib.hid e1
        clear hrw hbel
        by_cases hlt : k < cap
        · have hsz : k < c2.size := by rw [e2, H6.out]; omega
          have hcc : wr.cell? ⟨g, k, none⟩ = some c2[k] := by simp [World.cell?, e1, hsz]
          have hff : wr.frozen? ⟨g, k, none⟩ = false := by simp [World.frozen?, e1]
          clear e1 e2
          go_wp2_with (go_at_call 77; refine (markByte2_calls k _ (by omega)).mono ?_; rintro e w2 ⟨z, rfl, rfl⟩)
          go_roundw
          case rel => exact ⟨k + 1, by omega, by go_num, HRw.out.trans (rewr_set E1.out _ _ _ (.inl rfl)), HB.out.setCell (p := ⟨g, k, none⟩) h2 _⟩
          case measure => simp [intOf]; omega
        · clear e1 e2
          obtain rfl : k = cap := by omega
          go_wp2
          go_end0
          exact ⟨⟨_, rfl⟩, HRw.out, HB.out⟩
theorem Rewr.weak {w w' : World} (h : Rewr w w' none) (r : Option Nat) : Rewr w w' r := fun g cur t hg => by
  obtain ⟨c, e1, e2, e3⟩ := h g cur t hg
  exact ⟨c, e1, e2, fun ht _ => e3 ht (by simp)⟩
/-- The row of fields that is written over: the bytes' values stay. -/
def ORow (w : World) (g cap n : Nat) (V : List Value) : Prop := ∃ c2 : Array Value, w.heap[g]? = some (.cells c2 33 (0, 0)) ∧ c2.size = cap * 2 ∧ ∀ j < n, c2[j * 2 + 1]? = some (V.getD j undef)
theorem ORow.rewr {w w' : World} {g cap n : Nat} {V : List Value} (h : ORow w g cap n V) (hr : Rewr w w' none) : ORow w' g cap n V := by
  obtain ⟨c2, h1, h2, h3⟩ := h
  obtain ⟨c3, e1, e2, e3⟩ := hr g c2 _ h1
  obtain rfl := e3 (by decide) (by simp)
  exact ⟨c3, e1, h2, h3⟩
theorem ORow.set {w : World} {g cap n : Nat} {V : List Value} (h : ORow w g cap n V) (k : Nat) (u : Value) : ORow (w.setCell ⟨g, k * 2, none⟩ u) g cap n V ∧ Rewr w (w.setCell ⟨g, k * 2, none⟩ u) (some g) := by
  obtain ⟨c2, h1, h2, h3⟩ := h
  refine ⟨⟨_, setCell_cells h1 (k * 2) u, by simpa using h2, fun j hj => ?_⟩, rewr_set h1 _ _ _ (.inr rfl)⟩
  rw [Array.getElem?_modify, if_neg (by omega)]
  exact h3 j hj
theorem ORow.cells {w : World} {g cap n : Nat} {V : List Value} (h : ORow w g cap n V) (k : Nat) (hk : k < n) (hc : n ≤ cap) : (∃ u, w.cell? ⟨g, k * 2, none⟩ = some u) ∧ w.cell? ⟨g, k * 2 + 1, none⟩ = some (V.getD k undef) ∧ w.frozen? ⟨g, k * 2, none⟩ = false := by
  obtain ⟨c2, h1, h2, h3⟩ := h
  have hz : k * 2 < c2.size := by omega
  exact ⟨⟨c2[k * 2], by simp [World.cell?, h1, hz]⟩, by simp [World.cell?, h1, h3 k hk], by simp [World.frozen?, h1]⟩

set_option maxRecDepth 100000 in
set_option maxHeartbeats 1000000 in
theorem over_calls (v : Value) (base : Nat) (L : List Fld) (w : World) (h : FOwn w base v L) (hL : L.length ≤ 1000) (hls : ∀ i < L.length, (fb L i).length ≤ 100000) (hb : base ≤ w.heap.size) :
    Calls Try.prog 62 #[v] w fun e w' => (∃ x, e = .returned x) ∧ Below base w w' := by
  obtain ⟨V, hV1, hV2, hV3⟩ := h
  rcases hV2.2 with ⟨rfl, h0⟩ | ⟨g, cap, cur, rfl, h1, h2, h3, h4, h5, h6⟩
  · go_enter Try.func62, Try.ntmps62
    go_wp2
    go_loopw [5] (fun i wr => i = .int .i64 0 ∧ wr = w) (fun _ _ => 0)
    case atStart => exact ⟨rfl, rfl⟩
    case round =>
      obtain ⟨rfl, rfl⟩ := hrel
      go_wp2
      go_end0
      exact ⟨⟨_, rfl⟩, Below.refl _ _⟩
  · have hrow : ORow w g cap L.length V := by
      refine ⟨cur, h2, h5, fun j hj => ?_⟩
      have e := (fcells_get L V hV1 j hj).2
      rw [← h6, List.getElem?_take_of_lt (by omega)] at e
      simpa using e
    have HRow := Lib.hid hrow
    have HV3 := Lib.hid hV3
    have HLs := Lib.hid hls
    clear hV1 hV2 hV3 h2 h5 h6 hrow hls h4
    go_enter Try.func62, Try.ntmps62
    go_wp2
    go_loopw [5] (fun i wr => ∃ k : Nat, k ≤ L.length ∧ i = .int .i64 k ∧ Rewr w wr (some g) ∧ ORow wr g cap L.length V ∧ Below base w wr) (fun i _ => L.length - (intOf i).toNat)
    case atStart => exact ⟨0, Nat.zero_le _, rfl, Rewr.refl _ _, HRow.out, Below.refl _ _⟩
    case round =>
      obtain ⟨k, hk, rfl, hrw, hor, hbel⟩ := hrel
      have HRw := Lib.hid hrw
      have HOr := Lib.hid hor
      have HB := Lib.hid hbel
      clear hrw hor hbel
      by_cases hlt : k < L.length
      · obtain ⟨⟨u0, c0⟩, c1, f0⟩ := HOr.out.cells k hlt h3
        have hbx := (bbox_of (HV3.out k hlt)).rewr HRw.out
        have hln := HLs.out k hlt
        obtain ⟨a5, c5, hs⟩ := owns_shape (HV3.out k hlt)
        rw [hs] at c1 hbx
        generalize (fb L k).length = n5 at *
        have HOv := Lib.hid (overBytes_calls _ base n5 wr hbx hln (by have := HB.out.size; omega))
        clear hs hbx hln c0 f0
        go_wp2_with (go_at_call 59; refine HOv.out.mono ?_; rintro e w2 ⟨⟨x, rfl⟩, hr2, hb2⟩; have HR2 := Lib.hid hr2; have HB2 := Lib.hid (HB.out.trans hb2); have HO2 := Lib.hid (HOr.out.rewr hr2); obtain ⟨⟨u1, d0⟩, -, g0⟩ := HO2.out.cells k hlt h3; clear hr2 hb2)
        go_roundw
        case rel => exact ⟨k + 1, by omega, by go_num, (HRw.out.trans (HR2.out.weak _)).trans (HO2.out.set k _).2, (HO2.out.set k _).1, HB2.out.setCell (p := ⟨g, k * 2, none⟩) h1 _⟩
        case measure => simp [intOf]; omega
      · obtain rfl : k = L.length := by omega
        go_wp2
        go_end0
        exact ⟨⟨_, rfl⟩, HB.out⟩
end Go.Proofs.Ytfgiejeeolnhbaa
