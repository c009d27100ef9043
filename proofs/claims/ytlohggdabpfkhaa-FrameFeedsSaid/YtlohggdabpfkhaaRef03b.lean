/-
  CONTRACTS of the reference of layer 3, on: Read, Need, Split.
-/
import Derived.Test.YtlohggdabpfkhaaRef03
namespace Go.Proofs.Ytlohggdabpfkhaa
open Go.RowKit Go.Shelf Pl

set_option maxRecDepth 100000 in
set_option maxHeartbeats 1000000 in
theorem refRead3_calls (v : Value) (l : List Nat) (w : World) (h : BRow w v l) :
    Calls Try.prog 76 #[v] w fun e w' => ∃ v', e = .returned (.tuple #[v', .int .i64 (fsize l), .int .i64 (ferr l)]) ∧ Own8 w' w.heap.size v' (fbody l) ∧ Below w.heap.size w w' := by
  have HB := Lib.hid (least_calls v l w h)
  have HR := Lib.hid h
  obtain ⟨o, ho⟩ : ∃ o, bnd l = o := ⟨_, rfl⟩
  obtain ⟨a, cap, rfl⟩ := h.shape
  cases o with
  | none =>
    have e1 : fsize l = 0 := by unfold fsize; rw [ho]
    have e2 : ferr l = 31 := by unfold ferr; rw [ho]
    have e3 : fbody l = [] := by unfold fbody; rw [ho]
    rw [show bndV l = (0, 0, 31) by unfold bndV; rw [ho]] at HB
    rw [e1, e2, e3]
    clear ho e1 e2 e3 h
    go_enter Try.func76, Try.ntmps76
    go_wp2_with fail
    refine HB.out.mono ?_
    rintro e w1 ⟨rfl, hb1⟩
    go_wp2
    go_ret3
    exact ⟨_, rfl, own8_nil _ _, hb1⟩
  | some p =>
    obtain ⟨f, t⟩ := p
    have hle := bnd_le h.1 ho
    have hlh := lstH_bnd ho
    rw [show bndV l = ((f : Int), (t : Int), 0) by unfold bndV; rw [ho]] at HB
    dsimp only at HB
    by_cases hlt : l.length < t
    · have e1 : fsize l = 0 := by unfold fsize; rw [ho]; exact if_pos hlt
      have e2 : ferr l = 30 := by unfold ferr; rw [ho]; exact if_pos hlt
      have e3 : fbody l = [] := by unfold fbody; rw [ho]; exact if_pos hlt
      rw [e1, e2, e3]
      have hd : decide (l.length < t) = true := decide_eq_true hlt
      clear ho e1 e2 e3 h
      generalize lstH l = hh at *
      by_cases h0 : hh = 0
      · have e0 : ((hh : Int) == 0) = true := by rw [beq_iff_eq]; omega
        clear hlh h0 hlt
        go_enter Try.func76, Try.ntmps76
        go_wp2_with fail
        refine HB.out.mono ?_
        rintro e w1 ⟨rfl, hb1⟩
        go_wp2
        go_ret3
        exact ⟨_, rfl, own8_nil _ _, hb1⟩
      · have e0 : ((hh : Int) == 0) = false := by rw [beq_eq_false_iff_ne]; omega
        clear hlh h0 hlt
        go_enter Try.func76, Try.ntmps76
        go_wp2_with fail
        refine HB.out.mono ?_
        rintro e w1 ⟨rfl, hb1⟩
        go_wp2
        go_ret3
        exact ⟨_, rfl, own8_nil _ _, hb1⟩
    · have e1 : fsize l = t := by unfold fsize; rw [ho]; exact if_neg hlt
      have e2 : ferr l = 0 := by unfold ferr; rw [ho]; exact if_neg hlt
      have e3 : fbody l = (l.drop f).take (t - f) := by unfold fbody; rw [ho]; exact if_neg hlt
      rw [e1, e2, e3]
      have hd : decide (l.length < t) = false := decide_eq_false hlt
      have hhf : lstH l = f := by
        rcases hlh with h | ⟨_, h⟩
        · exact h
        · exact absurd h hlt
      rw [hhf] at HB
      have e0 : ((f : Int) == 0) = false := by rw [beq_eq_false_iff_ne]; omega
      obtain ⟨ha, ⟨_, _, e, hl0, _⟩ | ⟨b, off, cap', e, hc, hm, hcell⟩⟩ := h
      · subst hl0; simp at hlt; omega
      simp only [Value.slice.injEq, true_and] at e
      obtain ⟨rfl, rfl⟩ := e
      have hm' := hm
      unfold maxLen at hm'
      have h1 : (f : Int) ≤ (t : Int) := by omega
      have h2 : (t : Int) ≤ (cap : Int) := by omega
      have h3 : t ≤ cap := by omega
      have h4 : f ≤ t := by omega
      by_cases hcf : cap = f
      · subst hcf
        have htf : t - cap = 0 := by omega
        rw [htf, List.take_zero]
        have HE := Lib.hid (fun (W : World) (n c : Nat) (hn : n = 0) (hc : c ≤ cap) => show BRow W (.slice (some ⟨b, off, none⟩) n c) [] by subst hn; exact BRow.empty _ c (by unfold maxLen; omega))
        clear ho e1 e2 e3 ha hcell hm hlt hlh hhf
        go_enter Try.func76, Try.ntmps76
        go_wp2_with fail
        refine HB.out.mono ?_
        rintro e w1 ⟨rfl, hb1⟩
        have HL := Lib.hid (own8_lit w1 [] #[] w1.heap.size 0 0 rfl rfl rfl rfl (by simp) w.heap.size hb1.size)
        have HA := Lib.hid (hb1.alloc hb1.size (.cells #[] 5))
        clear hb1
        go_wp2_with (at_builtin; go_must (refine wpList_append8 rfl (.tmp 25) (.tmp 29) rfl w.heap.size _ [] (by first | rfl | simp [Act.eval]) HL.out _ [] rfl (HE.out _ _ _ (by omega) (by omega)) (by simp) HA.out.size ?_; intro v5 w5 hown5 hg5; have HO5 := Lib.hid hown5; have HB5 := Lib.hid (HA.out.grown hg5 HA.out.size (fun j hj => (HL.out.lt j hj).1)); clear hown5 hg5))
        go_ret3
        exact ⟨_, rfl, HO5.out, HB5.out⟩
      · have HF := Lib.hid (fun W0 (hW0 : BRow W0 (.slice (some ⟨b, off, none⟩) l.length cap) l) => hW0.sub f t (off + f) (t - f) (cap - f) (by omega) (by omega) rfl (by omega) (by omega) (by unfold maxLen; omega))
        have hl2 : ((l.drop f).take (t - f)).length ≤ 16384 := by simp; omega
        generalize (l.drop f).take (t - f) = bd at *
        clear ho e1 e2 e3 ha hcell hm hlt hlh hhf
        go_enter Try.func76, Try.ntmps76
        go_wp2_with fail
        refine HB.out.mono ?_
        rintro e w1 ⟨rfl, hb1⟩
        have HL := Lib.hid (own8_lit w1 [] #[] w1.heap.size 0 0 rfl rfl rfl rfl (by simp) w.heap.size hb1.size)
        have HA := Lib.hid (hb1.alloc hb1.size (.cells #[] 5))
        have HRow := Lib.hid (HF.out _ ((HR.out.below hb1).below ((Below.refl _ w1).alloc (Nat.le_refl _) (.cells #[] 5))))
        clear hb1
        go_wp2_with (at_builtin; go_must (refine wpList_append8 rfl (.tmp 25) (.tmp 29) rfl w.heap.size _ [] (by first | rfl | simp [Act.eval]) HL.out _ bd rfl HRow.out (by simp; omega) HA.out.size ?_; intro v5 w5 hown5 hg5; have HO5 := Lib.hid hown5; have HB5 := Lib.hid (HA.out.grown hg5 HA.out.size (fun j hj => (HL.out.lt j hj).1)); clear hown5 hg5))
        go_ret3
        exact ⟨_, rfl, HO5.out, HB5.out⟩

set_option maxRecDepth 100000 in
set_option maxHeartbeats 1000000 in
theorem refNeed3_calls (v : Value) (l : List Nat) (w : World) (h : BRow w v l) :
    Calls Try.prog 77 #[v] w fun e w' => e = .returned (.tuple #[.int .i64 (fneed l), .int .i64 (fneedE l)]) ∧ Below w.heap.size w w' := by
  have HB := Lib.hid (least_calls v l w h)
  have hll := h.len_le
  obtain ⟨o, ho⟩ : ∃ o, bnd l = o := ⟨_, rfl⟩
  obtain ⟨a, cap, rfl⟩ := h.shape
  cases o with
  | none =>
    have e1 : fneed l = 0 := by unfold fneed; rw [ho]
    have e2 : fneedE l = 31 := by unfold fneedE; rw [ho]
    rw [show bndV l = (0, 0, 31) by unfold bndV; rw [ho]] at HB
    rw [e1, e2]
    clear ho e1 e2 h
    go_enter Try.func77, Try.ntmps77
    go_wp2_with fail
    refine HB.out.mono ?_
    rintro e w1 ⟨rfl, hb1⟩
    go_wp2
    go_ret2
    exact ⟨rfl, hb1⟩
  | some p =>
    obtain ⟨f, t⟩ := p
    have hle := bnd_le h.1 ho
    have e1 : fneed l = t - l.length := by unfold fneed; rw [ho]
    have e2 : fneedE l = 0 := by unfold fneedE; rw [ho]
    rw [show bndV l = ((f : Int), (t : Int), 0) by unfold bndV; rw [ho]] at HB
    dsimp only at HB
    rw [e1, e2]
    have ht : 0 ≤ (t : Int) := by omega
    have ht2 : (t : Int) ≤ 100000 := by omega
    have hl0 : (l.length : Int) ≤ 9223372036854775807 := by omega
    clear ho e1 e2 h hle hll
    by_cases hlt : t < l.length
    all_goals
      go_enter Try.func77, Try.ntmps77
      go_wp2_with fail
      refine HB.out.mono ?_
      rintro e w1 ⟨rfl, hb1⟩
      go_wp2
      go_ret2
      exact ⟨ret_int2 (by omega) rfl, hb1⟩

end Go.Proofs.Ytlohggdabpfkhaa
