/-
  CONTRACT of fermatalaw03.played, the walk.
-/
import Derived.Test.YteaeedhhdnkldaaPlayed
namespace Go.Proofs.Yteaeedhhdnkldaa
open Go.RowKit Go.Shelf Pl

/-- What the loop of played keeps. -/
def PlyR (w : World) (g : Nat) (bv : Value) (b cuts : List Nat) (x1 x8 x9 x10 : Value) (wr : World) : Prop :=
  ∃ (k j : Nat) (ad : Option Addr) (c : Nat) (n : Nat) (a8 : Option Addr) (h : Value) (V : List Value), k ≤ b.length ∧ x1 = .slice ad (b.length - k) c ∧ (∀ W, BRow W bv b → BRow W (.slice ad (b.length - k) c) (b.drop k)) ∧ (x10 = .int .i64 j ∧ j ≤ cuts.length ∨ k = b.length ∧ ∃ z, x10 = .int .i64 z) ∧ x9 = .int .i64 (feedE (b.take k) : Nat) ∧
    x8 = .slice a8 (splB (b.take k)).length n ∧ wr.ownsRow w.heap.size 22 1 (.slice a8 (splB (b.take k)).length n) (splB (b.take k)).length V ∧ MVal wr w.heap.size V (splB (b.take k)) ∧ SAt wr g (if splE (b.take k) = 31 then 2 else 1) (splB (b.take k)).length h ∧ Own8 wr w.heap.size h (feedH (b.take k)) ∧
    (∀ i < (splB (b.take k)).length, ∀ q, (V.getD i undef).ownBlock = some q → h.ownBlock ≠ some q) ∧ w.grownBy wr (some g)
def lenV : Value → Nat
  | .slice _ n _ => n
  | _ => 0

theorem ply_measure (rem nn j C : Nat) (z : Int) (h : nn ≤ rem) (h0 : 0 < rem) (hz : j < C → z = ((j + 1 : Nat) : Int)) (hn : ¬ j < C → nn = rem) : (rem - nn) * (C + 1) + (C - z.toNat) < rem * (C + 1) + (C - j) := by
  by_cases hn0 : nn = 0
  · subst hn0
    have hjc : j < C := by
      by_cases h : j < C
      · exact h
      · have := hn h; omega
    rw [hz hjc, Nat.sub_zero, Int.toNat_natCast]
    omega
  · have hm := Nat.mul_le_mul_right (C + 1) (show rem - nn + 1 ≤ rem by omega)
    rw [Nat.add_mul, Nat.one_mul] at hm
    omega
def plyMs (C : Nat) (x1 x10 : Value) : Nat := lenV x1 * (C + 1) + (C - (intOf x10).toNat)
theorem plyMs_lt (rem nn j C : Nat) (z : Int) (ad ad2 : Option Addr) (c c2 : Nat) (h : nn ≤ rem) (h0 : 0 < rem) (hz : j < C → z = ((j + 1 : Nat) : Int)) (hn : ¬ j < C → nn = rem) : plyMs C (.slice ad (rem - nn) c) (.int .i64 z) < plyMs C (.slice ad2 rem c2) (.int .i64 (j : Int)) :=
  ply_measure rem nn j C z h h0 hz hn
theorem wrap_succ (j : Nat) (h : (j : Int) + 1 ≤ 9223372036854775807) : wrap64 ((j : Int) + 1) = ((j + 1 : Nat) : Int) := by
  rw [IntWalk.wrap64_in _ (by omega)]; omega

set_option maxRecDepth 100000 in
set_option maxHeartbeats 4000000 in
theorem played_calls (g : Nat) (bv cv : Value) (b cuts : List Nat) (w : World) (s : SAt w g 1 0 (.slice none 0 0)) (hb : BRow w bv b) (hcu : BRow w cv cuts) (hlen : b.length ≤ 500000) :
    Calls Try.prog 35 #[.pointer (some ⟨g, 0, none⟩), bv, cv] w (PlyP w g b) := by
  have hcl := hcu.len_le
  obtain ⟨ba, bc, hbv⟩ := hb.shape
  obtain ⟨ca, cc, hcv⟩ := hcu.shape
  subst hcv
  have HB := Lib.hid hb; have HCu := Lib.hid hcu; have HS := Lib.hid s
  have HBV := Lib.hid hbv
  clear hb hcu s
  have hst : PlyR w g bv b cuts bv (.slice none 0 0) (.int .i64 0) (.int .i64 0) w := by
    refine ⟨0, 0, ba, bc, 0, none, .slice none 0 0, [], Nat.zero_le _, by rw [hbv]; rfl, fun W hW => by rw [hbv] at hW; exact hW, .inl ⟨rfl, Nat.zero_le _⟩, rfl, rfl, World.ownsRow_nil _ _ _ _, mval_nil _ _, HS.out, own8_nil _ _, fun i hi => absurd hi (Nat.not_lt_zero _), ⟨rfl, rfl, rfl, Nat.le_refl _, fun _ _ _ => rfl⟩⟩
  have HSt := Lib.hid hst
  clear hst hbv
  go_enter Try.func35, Try.ntmps35
  go_wp2_with fail
  go_loopw [1, 8, 9, 10] (fun x1 x8 x9 x10 wr => PlyR w g bv b cuts x1 x8 x9 x10 wr) (fun x1 _ _ x10 _ => plyMs cuts.length x1 x10)
  case atStart => exact HSt.out
  case round =>
    obtain ⟨k, j, ad, c, n8, a8, h, V, hk, rfl, hrow, hj, rfl, rfl, hR, hM, hS, hO, hne, hgr⟩ := hrel
    have HRow := Lib.hid hrow; have HR := Lib.hid hR; have HM := Lib.hid hM; have HSs := Lib.hid hS; have HO := Lib.hid hO; have HNe := Lib.hid hne; have HG := Lib.hid hgr
    clear hrow hR hM hS hO hne hgr
    by_cases hlt : k < b.length
    · have hj2 : ∃ j : Nat, u10 = .int .i64 j ∧ j ≤ cuts.length := by
        rcases hj with ⟨e, h⟩ | ⟨e, _⟩
        · exact ⟨j, e, h⟩
        · omega
      clear hj
      obtain ⟨j, rfl, hjl⟩ := hj2
      obtain ⟨hball, hn | ⟨bb, off, cap, e, hcc, hmx, hcell⟩⟩ := HRow.out w HB.out
      · obtain ⟨_, _, _, e2, _⟩ := hn
        have := congrArg List.length e2
        rw [List.length_drop] at this
        simp at this
        omega
      rw [List.length_drop] at e hcc
      simp only [Value.slice.injEq, true_and] at e
      obtain ⟨rfl, rfl⟩ := e
      unfold maxLen at hmx
      clear hcell
      have hremi : decide ((0 : Int) < ((b.length - k : Nat) : Int)) = true := decide_eq_true (by omega)
      obtain ⟨rem, hrem⟩ : ∃ rem, b.length - k = rem := ⟨_, rfl⟩
      rw [hrem] at hremi hcc HRow ⊢
      have hr0 : 0 < rem := by omega
      have HRem := Lib.hid hrem
      clear hrem
      obtain ⟨nn, hnn, hnn1, hnn2⟩ : ∃ nn : Nat, nn = (if j < cuts.length then min (gt cuts j) rem else rem) ∧ nn ≤ rem ∧ (¬ j < cuts.length → nn = rem) := ⟨_, rfl, by split <;> omega, fun h => by rw [if_neg h]⟩
      have HNN := Lib.hid hnn
      clear hnn
      go_upto_if 24 with fail
      go_cut [11] (fun x wx => x = .int .i64 nn ∧ wx = wr)
      case first =>
        by_cases hjc : j < cuts.length
        · have hd : decide (j < cuts.length) = true := decide_eq_true hjc
          obtain ⟨hcb, hn | ⟨b2, off2, cap2, e2, hc2, hm2, hcell2⟩⟩ := HCu.out
          · obtain ⟨_, _, _, e3, _⟩ := hn
            rw [e3] at hjc
            exact absurd hjc (Nat.not_lt_zero _)
          simp only [Value.slice.injEq, true_and] at e2
          obtain ⟨rfl, rfl⟩ := e2
          have hg8 := gt_lt hcb j
          have hneb : b2 ≠ g := by
            intro e
            have hc := hcell2 0 (by omega)
            have hs := HS.out
            unfold SAt at hs
            rw [← e] at hs
            simp only [World.cell?, hs] at hc
            rcases (show off2 + 0 = 0 ∨ off2 + 0 = 1 ∨ off2 + 0 = 2 ∨ 3 ≤ off2 + 0 by omega) with q | q | q | q
            · rw [q] at hc; simp at hc
            · rw [q] at hc; simp at hc
            · rw [q] at hc; simp at hc
            · rw [Array.getElem?_eq_none (by simpa using q)] at hc; simp at hc
          have hcj : wr.cell? ⟨b2, off2 + j, none⟩ = some (.int .u8 (gt cuts j : Nat)) := HG.out.cell (hcell2 j hjc) (by simpa using hneb)
          have hnv := HNN.out
          rw [if_pos hjc] at hnv
          generalize gt cuts j = cj at *
          clear hcell2 hm2 hnn1 hnn2 hcl hmx hlen
          by_cases hlt2 : cj < rem
          · have hmin : min (cj : Int) (rem : Int) = (cj : Int) := by omega
            have hn0 : nn = cj := by omega
            clear hnv
            subst hn0
            go_wp2_with fail
            go_meet
            exact ⟨rfl, rfl⟩
          · have hmin : min (cj : Int) (rem : Int) = (rem : Int) := by omega
            have hn0 : nn = rem := by omega
            clear hnv
            subst hn0
            go_wp2_with fail
            all_goals
              go_meet
              exact ⟨by first | rfl | (rw [show (cj : Int) = (nn : Int) by omega]), rfl⟩
        · have hd : decide (j < cuts.length) = false := decide_eq_false hjc
          have hn0 : nn = rem := hnn2 hjc
          subst hn0
          go_wp2_with fail
          go_meet
          exact ⟨rfl, rfl⟩
      case rest =>
        obtain ⟨rfl, rfl⟩ := hcut
        have hP : b.take (k + nn) = b.take k ++ (b.drop k).take nn := by
          exact List.take_add
        have hpl : (b.take k).length + ((b.drop k).take nn).length ≤ 1000000 := by rw [List.length_take, List.length_take, List.length_drop]; omega
        have hbt : AllB (b.take k) := HB.out.1.take k
        have HP := Lib.hid hP
        have hbr : BRow wc (.slice (some ⟨bb, off, none⟩) nn c) ((b.drop k).take nn) := by
          have h1 := HRow.out wc (brow_sat HB.out HS.out ⟨_, _, _, rfl⟩ HG.out)
          have h2 : (b.drop k).length = rem := by rw [List.length_drop]; exact HRem.out
          have h3 : BRow wc (.slice (some ⟨bb, off, none⟩) (b.drop k).length c) (b.drop k) := by rw [h2]; exact h1
          exact h3.headW nn (by omega)
        have HF := Lib.hid (feed_any g w.heap.size h (b.take k) _ ((b.drop k).take nn) wc HSs.out HO.out hbt hbr HG.out.size hpl)
        have hsb := splB_length (b.take (k + nn))
        rw [List.length_take] at hsb
        have hni : (nn : Int) ≤ (c : Int) := by omega
        have hnr : (nn : Int) ≤ (rem : Int) := by omega
        clear hP hpl hbt hbr hsb
        go_wp2_with fail
        refine HF.out.mono ?_
        rintro e w1 ⟨v1, h1, V1, L1, he, hsp, hs1, ho1, hr1, hM1, hne1, hg1, hloc⟩
        subst he
        rw [← HP.out] at hsp hs1 ho1 ⊢
        have hrow1 := fed_row HR.out HO.out HSs.out hg1
        have hM0 := fed_mval HM.out HNe.out HO.out HSs.out hg1
        have hgw1 : w.grownBy w1 (some g) := by
          obtain ⟨wx, g1, g2⟩ := hg1
          exact (grownBy_chain HG.out g1 (.inr fun q hq => (HO.out.lt q hq).1)).trans g2
        have hlt1 : ∀ i < (splB (b.take k)).length, ∀ q, (V.getD i undef).ownBlock = some q → q < wc.heap.size := HM.out.lt
        have hgs : wc.heap.size ≤ w1.heap.size := by obtain ⟨wx, g1, g2⟩ := hg1; exact Nat.le_trans g1.size g2.size
        have hne0 : ∀ i < (splB (b.take k)).length, ∀ q, (V.getD i undef).ownBlock = some q → h1.ownBlock ≠ some q := fun i hi q hq e => by
          rcases hloc with e2 | e2
          · exact HNe.out i hi q hq (by rw [← e2]; exact e)
          · have := e2 q e
            have := hlt1 i hi q hq
            omega
        obtain ⟨a1, c1, rfl⟩ := owns_shape hr1
        have hlen1 : (splB (b.take k)).length + L1.length ≤ 2000000 := by
          rw [← List.length_append, ← hsp]
          have := splB_length (b.take (k + nn))
          rw [List.length_take] at this
          omega
        have hcw : wc.heap.size = wc.heap.size := rfl
        have HSp := Lib.hid hsp; have HS1 := Lib.hid hs1; have HO1 := Lib.hid ho1; have HR1 := Lib.hid hr1; have HM1 := Lib.hid hM1; have HNe1 := Lib.hid hne1; have HRow1 := Lib.hid hrow1; have HM0 := Lib.hid hM0; have HGw := Lib.hid hgw1; have HLt := Lib.hid hlt1; have HNe0 := Lib.hid hne0; have HLen := Lib.hid hlen1
        clear hsp hs1 ho1 hr1 hM1 hne1 hrow1 hM0 hgw1 hlt1 hne0 hlen1 hg1 hloc hcw hgs
        go_wp2_with (at_builtin; go_must (refine wpList_appendMM rfl (.tmp 40) (.tmp 41) rfl w.heap.size _ _ V (by first | rfl | simp [Act.eval]) HRow1.out wc.heap.size L1.length _ V1 (by first | rfl | simp [Act.eval]) HR1.out HM1.out.one HLen.out HGw.out.size ?_; intro v2 w2 hr2 hg2 hat2; have HR2 := Lib.hid hr2; have HG2 := Lib.hid hg2; clear hr2 hg2 hat2))
        obtain ⟨p1, p2, p3⟩ := ply_app HRow1.out HG2.out HM0.out HM1.out HG.out.size HS1.out HO1.out HLt.out
        obtain ⟨a2, c2, rfl⟩ := owns_shape HR2.out
        have hgw2 : w.grownBy w2 (some g) := grownBy_chain HGw.out HG2.out (.inr fun q hq => (HRow1.out.lt q hq).1)
        have hrem := HRem.out
        have hll : (splB (b.take (k + nn))).length = (splB (b.take k)).length + L1.length := by rw [HSp.out, List.length_append]
        have hrowN : ∀ W, BRow W bv b → BRow W (.slice (if c = nn then some ⟨bb, off, none⟩ else some ⟨bb, off + nn, none⟩) (b.length - (k + nn)) (c - nn)) (b.drop (k + nn)) := fun W hW => by
          have h0 := HRow.out W hW
          by_cases hcn : c = nn
          · have : b.drop (k + nn) = [] := List.drop_eq_nil_of_le (by omega)
            rw [this, show b.length - (k + nn) = 0 by omega]
            exact BRow.empty _ _ (by unfold maxLen; omega)
          · rw [if_neg hcn, show b.drop (k + nn) = (b.drop k).drop nn by rw [List.drop_drop]]
            exact h0.drop nn _ _ _ (by rw [List.length_drop]; omega) rfl (by rw [List.length_drop]; omega) (by omega) (by unfold maxLen; omega)
        go_roundw
        case rel =>
          refine ⟨k + nn, j + 1, _, c - nn, c2, a2, h1, V ++ V1, by omega, ?_, hrowN, ?_, rfl, ?_, ?_, ?_, p2, p3, ?_, hgw2⟩
          · rw [show rem - nn = b.length - (k + nn) by omega]
          · by_cases hjc : j < cuts.length
            · exact .inl ⟨by rw [show wrap64 ((j : Int) + 1) = ((j + 1 : Nat) : Int) from wrap_succ j (by omega)], by omega⟩
            · exact .inr ⟨by have := hnn2 hjc; omega, _, rfl⟩
          · rw [hll]
          · rw [hll]; exact HR2.out
          · rw [HSp.out]; exact p1
          · intro i hi q hq
            rw [hll] at hi
            have hVl := HM0.out.1
            by_cases hik : i < (splB (b.take k)).length
            · rw [show (V ++ V1).getD i undef = V.getD i undef by simp [List.getD_eq_getElem?_getD, List.getElem?_append_left (show i < V.length by omega)]] at hq
              exact HNe0.out i hik q hq
            · rw [show (V ++ V1).getD i undef = V1.getD (i - (splB (b.take k)).length) undef by simp [List.getD_eq_getElem?_getD, List.getElem?_append_right (show V.length ≤ i by omega), hVl]] at hq
              exact HNe1.out _ (by omega) q hq
        case measure =>
          exact plyMs_lt rem nn j cuts.length _ _ _ _ _ hnn1 hr0 (fun h => wrap_succ j (by omega)) hnn2
    · obtain rfl : k = b.length := by omega
      have hTk : b.take b.length = b := List.take_length
      rw [hTk] at HR HM HSs HO HNe ⊢
      have HTk := Lib.hid hTk
      clear hTk hj HRow
      have hz : b.length - b.length = 0 := Nat.sub_self _
      rw [hz]
      clear hz hlt hk
      have HFin := Lib.hid (show PlyP w g b (.returned (.tuple #[.slice a8 (splB b).length n8, .int .i64 (feedE b)])) wr from ⟨_, h, V, rfl, HSs.out, HO.out, HR.out, HM.out, HG.out⟩)
      go_wp2
      go_ret2
      exact HFin.out
end Go.Proofs.Yteaeedhhdnkldaa
