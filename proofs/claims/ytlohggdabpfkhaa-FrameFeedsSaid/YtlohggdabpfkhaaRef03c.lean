/-
  CONTRACT of the reference's Split of layer 3.
-/
import Derived.Test.YtlohggdabpfkhaaRef03b
namespace Go.Proofs.Ytlohggdabpfkhaa
open Go.RowKit Go.Shelf Pl

set_option maxRecDepth 100000 in
set_option maxHeartbeats 2000000 in
theorem refSplit3_calls (v : Value) (bs : List Nat) (w : World) (h : BRow w v bs) (hlen : bs.length ≤ 1000000) :
    Calls Try.prog 78 #[v] w fun e W' => ∃ v', e = .returned (.tuple #[v', .int .i64 (splS bs), .int .i64 (splE bs)]) ∧ MOwn W' w.heap.size v' (splB bs) ∧ Below w.heap.size w W' := by
  obtain ⟨va, vc, rfl⟩ := h.shape
  have HR0 := Lib.hid h
  have hS : splS bs = lastE (frq bs) := rfl
  have hBd : splB bs = (frq bs).map (·.2) := rfl
  have hE : splE bs = if splS bs = bs.length then 0 else ferr (bs.drop (splS bs)) := rfl
  have HS := Lib.hid hS; have HBd := Lib.hid hBd; have HE := Lib.hid hE
  clear h hS hBd hE
  go_enter Try.func78, Try.ntmps78
  go_wp2
  go_loopw [5, 6] (fun x i wr => ∃ (k : Nat) (P : List Bl) (a : Option Addr) (c : Nat) (V : List Value), k ≤ bs.length ∧ i = .int .i64 k ∧ x = .slice a P.length c ∧ lastE P = k ∧ frq bs = P ++ frA k (bs.drop k) ∧ wr.ownsRow w.heap.size 23 1 (.slice a P.length c) P.length V ∧ MVal wr w.heap.size V (P.map (·.2)) ∧ Below w.heap.size w wr) (fun _ i _ => bs.length - (intOf i).toNat)
  case atStart => exact ⟨0, [], none, 0, [], Nat.zero_le _, rfl, rfl, rfl, rfl, World.ownsRow_nil _ _ _ _, mval_nil _ _, Below.refl _ _⟩
  case round =>
    obtain ⟨k, P, a, c, V, hk, rfl, rfl, hl, hq, hr, hM, hbel⟩ := hrel
    have HL := Lib.hid hl; have HQ := Lib.hid hq; have HR := Lib.hid hr; have HM := Lib.hid hM; have HB := Lib.hid hbel
    have hPl : P.length ≤ 1000000 := by
      have := frq_length bs
      rw [hq, List.length_append] at this
      omega
    clear hl hq hr hM
    by_cases hlt : k < bs.length
    · obtain ⟨hball, ⟨_, _, _, e, _⟩ | ⟨b, off, cap, e, hc, hm, -⟩⟩ := HR0.out
      · rw [e] at hlt; simp at hlt
      simp only [Value.slice.injEq, true_and] at e
      obtain ⟨rfl, rfl⟩ := e
      have hm' := hm
      unfold maxLen at hm'
      have hck : ¬ vc = k := by omega
      have hkl : (k : Int) ≤ (vc : Int) := by omega
      have hkb : (k : Int) ≤ (bs.length : Int) := by omega
      have hrow := (HR0.out.below hbel).drop k _ _ _ hk rfl rfl (by omega) (by omega : vc - k ≤ maxLen)
      have HRd := Lib.hid (refRead3_calls _ _ wr hrow)
      have hfs := fsize_le (l := bs.drop k)
      rw [List.length_drop] at hfs
      have hd : decide ((k : Int) < (bs.length : Int)) = true := decide_eq_true (by omega)
      have hst := Lib.hid (frA_step k (l := bs.drop k))
      have hen := Lib.hid (frA_end k (l := bs.drop k))
      rw [List.drop_drop] at hst
      have hfe : ∃ fe, ferr (bs.drop k) = fe := ⟨_, rfl⟩
      obtain ⟨fe, hfe⟩ := hfe
      have HFe := Lib.hid hfe
      rw [hfe] at HRd hst hen
      have hpos := Lib.hid (fun h : ferr (bs.drop k) = 0 => fsize_pos h)
      rw [hfe] at hpos
      generalize fsize (bs.drop k) = fsz at *
      generalize fbody (bs.drop k) = fbd at *
      clear hrow hbel hball hm hfe
      by_cases h0 : fe = 0
      · subst h0
        simp only [Int.natCast_zero] at HRd
        have hne : ((0 : Int) != 0) = false := rfl
        have hp1 := hpos.out rfl
        have hki : (k : Int) + (fsz : Int) ≤ 9223372036854775807 := by omega
        go_wp2_with fail
        refine HRd.out.mono ?_
        rintro e w1 ⟨v1, rfl, ho1, hb1⟩
        obtain ⟨a1, n1, c1, rfl⟩ : ∃ a n c, v1 = .slice a n c := by obtain ⟨a, c, e⟩ := owns_shape ho1; exact ⟨a, _, c, e⟩
        have HO1 := Lib.hid ho1
        have HB1 := Lib.hid (HB.out.trans (hb1.mono HB.out.size))
        have HR1 := Lib.hid (ownsRow_below HR.out hb1)
        have HM1 := Lib.hid (HM.out.below hb1)
        have HLt := Lib.hid HM.out.lt
        clear ho1 hb1
        go_wp2_with (at_builtin; go_must (refine wpList_appendM rfl (.tmp 27) (.tmp 29) rfl w.heap.size _ P.length V (by first | rfl | simp [Act.eval]) (HR1.out.alloc _) ⟨w1.heap.size, 0, none⟩ 1 1 [.slice a1 n1 c1] (by first | rfl | simp [Act.eval]) rfl (cell_one_new _ _ _) (by intro u hu; simp at hu; subst hu; rfl) (by omega) (by have := HB1.out.size; simp; omega) ?_; intro v2 w2 hr2 hg2 hat2; have HR2 := Lib.hid hr2; have HG2 := Lib.hid hg2; clear hr2 hg2 hat2))
        obtain ⟨a2, c2, rfl⟩ := owns_shape HR2.out
        have hMs := HM1.out.snoc (m := wr.heap.size) (by rw [List.length_map]; exact HR1.out) (own_base HO1.out HB.out.size) HG2.out (by rw [List.length_map]; intro i hi; exact HLt.out i (by rw [List.length_map]; exact hi)) (fun q hq => (HO1.out.lt q hq).1)
        have hbel2 : Below w.heap.size w w2 := (HB1.out.alloc HB1.out.size _).grown HG2.out (HB1.out.alloc HB1.out.size _).size (fun q hq => (HR1.out.lt q hq).1)
        go_roundw
        case rel =>
          refine ⟨k + fsz, P ++ [(k + fsz, fbd)], a2, c2, V ++ [.slice a1 n1 c1], by omega, by go_num, by rw [List.length_append]; rfl, lastE_snoc _ _, ?_, ?_, ?_, hbel2⟩
          · rw [HQ.out, hst.out (by first | rfl | trivial), List.append_assoc]; rfl
          · rw [List.length_append]; exact HR2.out
          · rw [List.map_append]; exact hMs
        case measure => simp [intOf]; omega
      · have hne : ((fe : Int) != 0) = true := by rw [bne_iff_ne]; omega
        have hfq : frq bs = P := by rw [HQ.out, hen.out h0, List.append_nil]
        have hs : splS bs = k := by rw [HS.out, hfq]; exact HL.out
        have hEe : splE bs = fe := by rw [HE.out, hs, if_neg (by omega), HFe.out]
        have hBb : splB bs = P.map (·.2) := by rw [HBd.out, hfq]
        have H1 := Lib.hid hs; have H2 := Lib.hid hEe; have H3 := Lib.hid hBb
        clear h0 hfq hs hEe hBb
        go_wp2_with fail
        refine HRd.out.mono ?_
        rintro e w1 ⟨v1, rfl, -, hb1⟩
        have HB1 := Lib.hid (HB.out.trans (hb1.mono HB.out.size))
        have HR1 := Lib.hid (ownsRow_below HR.out hb1)
        have HM1 := Lib.hid (HM.out.below hb1)
        clear hb1
        go_wp2
        go_ret3
        refine ⟨.slice a P.length c, by rw [H1.out, H2.out]; first | rfl | (congr 3), ⟨V, ?_, by rw [H3.out]; exact HM1.out⟩, HB1.out⟩
        rw [H3.out, List.length_map]
        exact HR1.out
    · obtain rfl : k = bs.length := by omega
      have hfq : frq bs = P := by
        have := HQ.out
        rwa [List.drop_length, frA_end _ (by rw [ferr_nil]; decide), List.append_nil] at this
      have hs : splS bs = bs.length := by rw [HS.out, hfq]; exact HL.out
      have hEe : splE bs = 0 := by rw [HE.out, if_pos hs]
      have hBb : splB bs = P.map (·.2) := by rw [HBd.out, hfq]
      have H1 := Lib.hid hs; have H2 := Lib.hid hEe; have H3 := Lib.hid hBb
      clear hfq hs hEe hBb hbel
      go_wp2
      go_ret3
      refine ⟨.slice a P.length c, by rw [H1.out, H2.out]; rfl, ⟨V, ?_, by rw [H3.out]; exact HM.out⟩, HB.out⟩
      rw [H3.out, List.length_map]
      exact HR.out
end Go.Proofs.Ytlohggdabpfkhaa
