/-
  CONTRACTS of heap's places and Tree.
-/
import Derived.Test.YtjnocijfjkbaiaaHeapK
namespace Go.Proofs.Ytjnocijfjkbaiaa
open Go.RowKit Go.Shelf

/-- A ROW OF NUMBERS in the block g. -/
structure IR (w : World) (g c : Nat) (l : List Int) : Prop where
  blk : ∃ cur, w.heap[g]? = some (.cells cur 3 (0, 0))
  le : l.length ≤ c ∧ c ≤ maxLen
  cell : ∀ i, i < l.length → w.cell? ⟨g, i, none⟩ = some (.int .i64 (l.getD i 0))
theorem IR.lt {w : World} {g c : Nat} {l : List Int} (h : IR w g c l) : g < w.heap.size := by
  obtain ⟨cur, hc⟩ := h.blk
  exact (Array.getElem?_eq_some_iff.1 hc).1
theorem IR.keep {w w' : World} {g c : Nat} {l : List Int} (h : IR w g c l) (e : w'.heap[g]? = w.heap[g]?) : IR w' g c l :=
  ⟨by rw [e]; exact h.blk, h.le, fun i hi => by rw [cell_blk e]; exact h.cell i hi⟩
theorem IR.below {w w' : World} {g c : Nat} {l : List Int} (h : IR w g c l) (hb : Below w.heap.size w w') : IR w' g c l := h.keep (hb.block g h.lt)
theorem IR.off {F : Nat → Prop} {w w' : World} {g c : Nat} {l : List Int} (h : IR w g c l) (hb : Off F w w') (hF : ¬ F g) : IR w' g c l := h.keep (hb.block g h.lt hF)
/-- The places of some entries. -/
def plc (t : List En) : List Int := t.map fun e => (e.2 : Int)
theorem plc_len (t : List En) : (plc t).length = t.length := by simp [plc]
theorem plc_get (t : List En) (i : Nat) (h : i < t.length) : (plc t).getD i 0 = ((en t i).2 : Int) := by
  unfold plc
  rw [List.getD_eq_getElem?_getD, List.getElem?_map, en_get h]; rfl
set_option maxRecDepth 100000 in
set_option maxHeartbeats 2000000 in
theorem places_calls (tv : Value) (t : List En) (w : World) (h : TV w tv t) (hn : t.length ≤ 4096) :
    Calls Try.prog 38 #[tv] w fun e w' => ∃ g c, e = .returned (.slice (some ⟨g, 0, none⟩) t.length c) ∧ IR w' g c (plc t) ∧ w.heap.size ≤ g ∧ Below w.heap.size w w' := by
  obtain ⟨ta, tc, rfl, htc, htl⟩ := h.shape
  obtain ⟨m, hm⟩ : ∃ m, t.length = m := ⟨_, rfl⟩
  obtain ⟨w1, hmk, ⟨C, hg1, hC⟩, hb1⟩ := make_ints m (by omega) w
  have HB1 := Lib.hid hb1
  have HG1 := Lib.hid (show ∃ cur, w1.heap[w.heap.size]? = some (.cells cur 3 (0, 0)) ∧ cur.size = m ∧ ∀ i, i < 0 → cur[i]? = some (.int .i64 ((en t i).2 : Int)) from ⟨_, hg1, by simpa using hC, fun i h => by omega⟩)
  have HT := Lib.hid h
  have HM := Lib.hid hm
  rw [hm]
  rw [hm] at hn htl
  clear hg1 hb1 hC h
  have hmi : (m : Int) ≤ 4096 := by omega
  obtain ⟨g, hg⟩ : ∃ g, w.heap.size = g := ⟨_, rfl⟩
  have HGe := Lib.hid hg
  rw [hg] at hmk HG1
  clear hm hg
  go_enter Try.func38, Try.ntmps38
  go_wp2_with fail
  go_loopw [11] (fun s11 wr => ∃ k : Nat, k ≤ m ∧ s11 = .int .i64 (k : Int) ∧ (∃ cur, wr.heap[g]? = some (.cells cur 3 (0, 0)) ∧ cur.size = m ∧ ∀ i, i < k → cur[i]? = some (.int .i64 ((en t i).2 : Int))) ∧ Below g w wr) (fun s11 _ => m - (intOf s11).toNat)
  case atStart => exact ⟨0, Nat.zero_le _, rfl, HG1.out, by rw [← HGe.out]; exact HB1.out⟩
  case round =>
    obtain ⟨k, hk, rfl, ⟨cur, hcur, hcs, hci⟩, hB⟩ := hrel
    have HB := Lib.hid hB
    have HCu := Lib.hid hcur
    have HCi := Lib.hid (And.intro hcs hci)
    clear HG1 HB1 hmk hB hci
    by_cases hlt : k < m
    · have ht := HT.out.below (show Below w.heap.size w wr by rw [HGe.out]; exact HB.out)
      rcases ht with ⟨e, e2⟩ | ⟨gt, cap, e, hrow, hcap⟩
      · have := HM.out; rw [e2] at this; simp at this; omega
      obtain ⟨x0, x1, x2, x3⟩ := hrow.cell k (by rw [HM.out]; exact hlt)
      have e3 : ta = some ⟨gt, 0, none⟩ ∧ tc = cap := by simpa [HM.out] using e
      obtain ⟨rfl, rfl⟩ := e3
      obtain ⟨E, hE⟩ : ∃ E, en t k = E := ⟨_, rfl⟩
      have HE := Lib.hid hE
      rw [hE] at x0 x1 x2 x3
      have hrl := hrow.lt
      have hgl : g < wr.heap.size := (Array.getElem?_eq_some_iff.1 hcur).1
      obtain ⟨cv, hgc⟩ : ∃ cv, wr.cell? ⟨g, k, none⟩ = some cv := ⟨cur[k]'(by omega), by simp [World.cell?, hcur, hcs, hlt]⟩
      have hgf : wr.frozen? ⟨g, k, none⟩ = false := by simp [World.frozen?, hcur]
      have hk1 : (k : Int) < (m : Int) := by omega
      have HNew := Lib.hid (show ∀ wx : World, wx.heap[g]? = wr.heap[g]? → ∃ cur', (wx.setCell ⟨g, k, none⟩ (.int .i64 (E.2 : Int))).heap[g]? = some (.cells cur' 3 (0, 0)) ∧ cur'.size = m ∧ ∀ i, i < k + 1 → cur'[i]? = some (.int .i64 ((en t i).2 : Int)) by
        intro wx hx
        refine ⟨_, heap_setC (hx.trans HCu.out) k _, by simp [HCi.out.1], fun i hi => ?_⟩
        rw [Array.getElem?_setIfInBounds]
        by_cases c : k = i
        · subst c
          rw [if_pos rfl, if_pos (by rw [HCi.out.1]; omega), HE.out]
        · rw [if_neg c]; exact HCi.out.2 i (by omega))
      clear hcur hcs e hrow hcap hE
      go_wp2_with fail
      go_roundw
      case rel =>
        refine ⟨k + 1, hlt, by go_num, ?_, ?_⟩
        · rw [Below.heap_alloc _ _ _ (by simpa using hgl)]
          exact HNew.out wr rfl
        · exact (HB.out.setCell (p := ⟨g, k, none⟩) (Nat.le_refl _) _).alloc (by simp; omega) _
      case measure => simp [intOf]; omega
    · obtain rfl : k = m := by omega
      go_wp2
      go_ret
      refine ⟨g, k, rfl, ⟨⟨cur, HCu.out⟩, ⟨by rw [plc_len, HM.out]; exact Nat.le_refl _, by unfold maxLen; omega⟩, fun i hi => ?_⟩, by rw [HGe.out]; exact Nat.le_refl _, by rw [HGe.out]; exact HB.out⟩
      rw [plc_len, HM.out] at hi
      rw [plc_get _ _ (by rw [HM.out]; exact hi)]
      have := HCi.out.2 i hi
      simp [World.cell?, HCu.out, this]
set_option maxHeartbeats 1000000 in
theorem tree_calls {w : World} {q : Nat} {F : Nat → Prop} {n : Nat} {M : Mp} (h : HA w q F n M) :
    Calls Try.prog 21 #[.pointer (some ⟨q, 0, none⟩)] w fun e w' => ∃ t ix g c, (Has t M ∧ HOrd t ∧ Agr n t ix) ∧ e = .returned (.slice (some ⟨g, 0, none⟩) t.length c) ∧ IR w' g c (plc t) ∧ w.heap.size ≤ g ∧ Below w.heap.size w w' := by
  obtain ⟨tv, x, xc, t, ix, hd, ho, hm, hF⟩ := h.ex
  obtain ⟨c0, -, -, -⟩ := hd.cells
  have HP := Lib.hid (places_calls tv t w hd.tree (by have := hd.agr.len; have := hd.caps.2.2; omega))
  obtain ⟨ta, tc, rfl, -, -⟩ := hd.tree.shape
  have HI := Lib.hid (is_calls hd.own)
  have HA := Lib.hid (And.intro hm (And.intro ho hd.agr))
  clear h hd ho hm hF
  go_enter Try.func21, Try.ntmps21
  go_wp2_with (first
    | (go_at_call 35; refine HI.out.mono ?_; rintro e w2 ⟨rfl, rfl⟩)
    | (go_at_call 38; refine HP.out.mono ?_; rintro e w2 ⟨g, c, rfl, h1, h2, h3⟩; have H1 := Lib.hid h1; have H2 := Lib.hid h2; have H3 := Lib.hid h3; clear h1 h2 h3)
    | fail)
  go_ret
  exact ⟨t, ix, g, c, HA.out, rfl, H1.out, H2.out, H3.out⟩
end Go.Proofs.Ytjnocijfjkbaiaa
