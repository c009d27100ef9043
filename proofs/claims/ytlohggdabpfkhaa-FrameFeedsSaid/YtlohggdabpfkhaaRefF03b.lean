/-
  CONTRACT of the reference of layer 3: Feed; nothing that was there is written.
-/
import Derived.Test.YtlohggdabpfkhaaRefF03
import Derived.Test.YtlohggdabpfkhaaPlayed
namespace Go.Proofs.Ytlohggdabpfkhaa
open Go.RowKit Go.Shelf Pl

/-- WHAT the reference's Feed LEAVES. -/
def FedR (w : World) (R : Value) (P l : List Nat) (e : Ending) (w' : World) : Prop :=
  ∃ R' v', e = .returned (.tuple #[.agg #[R'], v', .int .i64 (feedE (P ++ l))]) ∧ (∀ W1 W2, Below w'.heap.size w' W1 → ∀ q, q < w.heap.size → W1.grownBy W2 (some q) → TRow W2 v' ((splB (P ++ l)).drop (splB P).length)) ∧ Below w.heap.size w w' ∧
   ((splE P = 31 ∧ R' = R) ∨ (splE P ≠ 31 ∧ Own8 w' w.heap.size R' (P ++ l)))
theorem own8_ne {w : World} {b q : Nat} {v : Value} {l : List Nat} (h : Own8 w b v l) (hq : q < b) : v.ownBlock = none ∨ v.ownBlock ≠ some q := by
  rcases h.2 with ⟨e, _⟩ | ⟨g, cap, cur, e, _⟩
  · exact .inl (by rw [e]; rfl)
  · exact .inr fun e2 => by have := (h.lt q e2).1; omega
theorem str_cell {w : World} {g : Nat} {R : Value} (h : w.heap[g]? = some (.cells #[R] 120 (0, 0))) : w.cell? ⟨g, 0, none⟩ = some R ∧ w.frozen? ⟨g, 0, none⟩ = false := by
  simp [World.cell?, World.frozen?, h]

theorem str_set {w : World} {g : Nat} {R : Value} (h : w.heap[g]? = some (.cells #[R] 120 (0, 0))) (u : Value) : (w.setCell ⟨g, 0, none⟩ u).heap[g]? = some (.cells #[u] 120 (0, 0)) := setCell_cells h 0 u
theorem feed_init (w : World) (R : Value) : ((w.alloc (.cells #[R] 120)).alloc (.cells #[.slice none 0 0] 120)).heap[w.heap.size]? = some (.cells #[R] 120 (0, 0)) ∧ ((w.alloc (.cells #[R] 120)).alloc (.cells #[.slice none 0 0] 120)).heap[w.heap.size + 1]? = some (.cells #[.slice none 0 0] 120 (0, 0)) ∧ ((w.alloc (.cells #[R] 120)).alloc (.cells #[.slice none 0 0] 120)).heap.size = w.heap.size + 2 ∧ Below w.heap.size w ((w.alloc (.cells #[R] 120)).alloc (.cells #[.slice none 0 0] 120)) := by
  have h1 := World.alloc_heap_new w (.cells #[R] 120)
  refine ⟨(((Below.refl _ (w.alloc (.cells #[R] 120))).alloc (Nat.le_refl _) (.cells #[.slice none 0 0] 120)).block w.heap.size (by simp)).trans h1, ?_, by simp, ((Below.refl w.heap.size w).alloc (Nat.le_refl _) _).alloc (by simp) _⟩
  have h2 := World.alloc_heap_new (w.alloc (.cells #[R] 120)) (.cells #[.slice none 0 0] 120)
  rwa [World.size_alloc] at h2

set_option maxRecDepth 100000 in
set_option maxHeartbeats 2000000 in
theorem refFeed3_dead (R v : Value) (P l : List Nat) (w : World) (hR : BRow w R P) (hv : BRow w v l) (hlen : P.length + l.length ≤ 1000000) (h31 : splE P = 31) :
    Calls Try.prog 81 #[.agg #[R], v] w (FedR w R P l) := by
  obtain ⟨a, c, rfl⟩ := hR.shape
  obtain ⟨va, vc, rfl⟩ := hv.shape
  obtain ⟨hd1, hd2⟩ := fed_dead P l hR.1 hv.1 h31
  obtain ⟨h0, h1, hsz, hA⟩ := feed_init w (.slice a P.length c)
  have HD := Lib.hid (refDead3_calls _ P _ (hR.below hA) (by omega))
  have HA := Lib.hid hA
  have hb31 : (splE P == 31) = true := by rw [h31]; rfl
  rw [hb31] at HD
  have H0 := Lib.hid h0; have H1 := Lib.hid h1
  have HF := Lib.hid (feedE_31 hd2)
  have HT := Lib.hid (show (splB (P ++ l)).drop (splB P).length = [] by rw [hd1, List.drop_length])
  have HE := Lib.hid h31
  have HSz := Lib.hid hsz
  clear hR hv hA h0 h1 h31 hd1 hd2 hb31 hsz
  go_enter Try.func81, Try.ntmps81
  go_wp2_with fail
  refine HD.out.mono ?_
  rintro e w1 ⟨rfl, hb1⟩
  have hk0 := (hb1.block w.heap.size (by rw [HSz.out]; omega)).trans H0.out
  have hk1 := (hb1.block (w.heap.size + 1) (by rw [HSz.out]; omega)).trans H1.out
  obtain ⟨p1, p2⟩ := str_cell hk0
  obtain ⟨q1, q2⟩ := str_cell hk1
  have HB1 := Lib.hid (HA.out.trans (hb1.mono HA.out.size))
  have HK1 := Lib.hid hk1
  clear hb1 hk0 hk1
  go_wp2
  have hset := str_set HK1.out (.slice a P.length c)
  have hc4 := (str_cell hset).1
  have hbel : Below w.heap.size w (w1.setCell ⟨w.heap.size + 1, 0, none⟩ (.slice a P.length c)) := HB1.out.grown (grownBy_setCell w1 (w.heap.size + 1) 0 _) HB1.out.size (fun q hq => by cases hq; omega)
  have HBl := Lib.hid hbel
  generalize w1.setCell ⟨w.heap.size + 1, 0, none⟩ (.slice a P.length c) = W at *
  refine bodyPost_ret (v := .tuple #[.agg #[.slice a P.length c], .slice none 0 0, .int .i64 31]) (by simp [results, Try.results81, go_sem, hc4]) rfl ⟨.slice a P.length c, .slice none 0 0, ?_, ?_, HBl.out, .inl ⟨HE.out, rfl⟩⟩
  · rw [HF.out]; rfl
  · intro W1 W2 _ q _ _; rw [HT.out]; exact trow_nil _ _ _ (Nat.zero_le _)

set_option maxRecDepth 100000 in
set_option maxHeartbeats 4000000 in
theorem refFeed3_live (R v : Value) (P l : List Nat) (w : World) (hR : BRow w R P) (hv : BRow w v l) (hlen : P.length + l.length ≤ 1000000) (h31 : splE P ≠ 31) :
    Calls Try.prog 81 #[.agg #[R], v] w (FedR w R P l) := by
  obtain ⟨a, c, rfl⟩ := hR.shape
  obtain ⟨va, vc, rfl⟩ := hv.shape
  have hPA := hR.1
  have hQA : AllB (P ++ l) := hR.1.append hv.1
  obtain ⟨q1, -, -, -, -⟩ := fed_more P l hR.1 hv.1 h31
  obtain ⟨h0, h1, hsz, hA⟩ := feed_init w (.slice a P.length c)
  have HD := Lib.hid (refDead3_calls _ P _ (hR.below hA) (by omega))
  have HA := Lib.hid hA
  have hb31 : (splE P == 31) = false := by rw [beq_eq_false_iff_ne]; exact h31
  rw [hb31] at HD
  have H0 := Lib.hid h0; have H1 := Lib.hid h1
  have HE := Lib.hid h31
  have HSz := Lib.hid hsz
  have HR := Lib.hid hR; have HV := Lib.hid hv; have HPA := Lib.hid hPA; have HQA := Lib.hid hQA
  have HSp := Lib.hid (splB_allB hQA)
  obtain ⟨m, hm⟩ : ∃ m, (splB P).length = m := ⟨_, rfl⟩
  obtain ⟨n, hn⟩ : ∃ n, (splB (P ++ l)).length = n := ⟨_, rfl⟩
  have hmn : m ≤ n := by rw [← hm, ← hn, q1, List.length_append]; omega
  have hnl : n ≤ 1000000 := by have := splB_length (P ++ l); rw [List.length_append] at this; omega
  have HM := Lib.hid hm; have HN := Lib.hid hn
  clear hR hv hA h0 h1 h31 hb31 hsz hPA hQA q1 hm hn
  go_enter Try.func81, Try.ntmps81
  go_wp2_with fail
  refine HD.out.mono ?_
  rintro e w1 ⟨rfl, hb1⟩
  have hk0 := (hb1.block w.heap.size (by rw [HSz.out]; omega)).trans H0.out
  have hk1 := (hb1.block (w.heap.size + 1) (by rw [HSz.out]; omega)).trans H1.out
  have hz1 : w.heap.size + 2 ≤ w1.heap.size := by have := hb1.size; rw [HSz.out] at this; exact this
  obtain ⟨p1, p2⟩ := str_cell hk0
  have HB1 := Lib.hid (HA.out.trans (hb1.mono HA.out.size))
  have HK0 := Lib.hid hk0; have HK1 := Lib.hid hk1; have HZ1 := Lib.hid hz1
  clear hb1 hk0 hk1 hz1
  go_wp2_with fail
  refine (refSplit3_calls _ P w1 (HR.out.below HB1.out) (by omega)).mono ?_
  rintro e w2 ⟨v2, rfl, ⟨V2, hr2, -⟩, hb2⟩
  obtain ⟨a2, c2, rfl⟩ := owns_shape hr2
  rw [HM.out]
  have hk0 := (hb2.block w.heap.size (by have := HZ1.out; omega)).trans HK0.out
  obtain ⟨p3, p4⟩ := str_cell hk0
  have HB2 := Lib.hid (HB1.out.trans (hb2.mono HB1.out.size))
  have HK02 := Lib.hid hk0; have HK12 := Lib.hid ((hb2.block (w.heap.size + 1) (by have := HZ1.out; omega)).trans HK1.out)
  have HZ2 := Lib.hid (Nat.le_trans HZ1.out hb2.size)
  clear hb2 hk0 hr2 p1 p2 HB1 HK0 HK1 HZ1
  have HL := Lib.hid (own8_lit w2 [] #[] w2.heap.size 0 0 rfl rfl rfl rfl (by simp) w2.heap.size (Nat.le_refl _))
  have HA2 := Lib.hid ((Below.refl w2.heap.size w2).alloc (Nat.le_refl _) (.cells #[] 5))
  have hp5 := (str_cell ((HA2.out.block w.heap.size (by have := HZ2.out; omega)).trans HK02.out)).1
  go_wp2_with (first
    | (at_builtin; (refine wpList_append8 rfl (.tmp 23) (.tmp 25) rfl w2.heap.size _ [] (by first | rfl | simp [Act.eval]) HL.out _ P (by first | rfl | simp [Act.eval]) ((HR.out.below HB2.out).below HA2.out) (by simp; omega) HA2.out.size ?_; intro v3 w3 ho3 hg3; have HO3 := Lib.hid (show Own8 w3 w2.heap.size v3 P from ho3); have HB3 := Lib.hid (HA2.out.grown hg3 HA2.out.size (fun j hj => (HL.out.lt j hj).1)); have hp6 := str_cell ((HB3.out.block w.heap.size (by have := HZ2.out; omega)).trans HK02.out); clear ho3 hg3))
    | (at_builtin; (refine wpList_append8 rfl (.tmp 26) (.tmp 27) rfl w2.heap.size _ P (by first | rfl | simp [Act.eval]) HO3.out _ l (by first | rfl | simp [Act.eval]) ((HV.out.below HB2.out).below HB3.out) (by omega) HB3.out.size ?_; intro v4 w4 ho4 hg4; have HO4 := Lib.hid ho4; have HB4 := Lib.hid (HB3.out.grown hg4 HB3.out.size (fun j hj => (HO3.out.lt j hj).1)); have hk7 := (HB4.out.block w.heap.size (by have := HZ2.out; omega)).trans HK02.out; have hp7 := str_cell hk7; obtain ⟨hp8, hp9⟩ := hp7; have HK7 := Lib.hid hk7; obtain ⟨a4, n4, c4, rfl⟩ : ∃ a n c, v4 = .slice a n c := (by obtain ⟨a, c, e⟩ := owns_shape ho4; exact ⟨a, _, c, e⟩); clear ho4 hg4 hk7))
    | fail)
  have hs5 := str_set HK7.out (.slice a4 n4 c4)
  have hg5 := grownBy_setCell w4 w.heap.size 0 (.slice a4 n4 c4)
  have HO5 := Lib.hid (show Own8 (w4.setCell ⟨w.heap.size, 0, none⟩ (.slice a4 n4 c4)) w2.heap.size (.slice a4 n4 c4) (P ++ l) from HO4.out.kept hg5 (.inr fun e => by have := (HO4.out.lt _ e).1; have := HZ2.out; omega))
  have HB5 := Lib.hid ((HB2.out.trans (HB4.out.mono HB2.out.size)).grown hg5 (HB2.out.trans (HB4.out.mono HB2.out.size)).size (fun q hq => by cases hq; omega))
  have HK15 := Lib.hid (((hg5.block (w.heap.size + 1) (by have := HZ2.out; have := HB4.out.size; omega) (by simp)).trans (HB4.out.block (w.heap.size + 1) (by have := HZ2.out; omega))).trans HK12.out)
  have HZ5 := Lib.hid (show w.heap.size + 2 ≤ (w4.setCell ⟨w.heap.size, 0, none⟩ (.slice a4 n4 c4)).heap.size by have := hg5.size; have := HB4.out.size; have := HZ2.out; omega)
  have HS5 := Lib.hid hs5
  clear hs5 hg5 HO4 HB4 HK12 HK7 HL HA2 HB3 HO3 hp5 hp6 hp8 hp9 HK02 p3 p4 HD HA H0 H1 HSz
  generalize w4.setCell ⟨w.heap.size, 0, none⟩ (.slice a4 n4 c4) = w5 at *
  refine (refSplit3_calls _ (P ++ l) w5 (BRow.of_own HO5.out HQA.out) (by rw [List.length_append]; exact hlen)).mono ?_
  rintro e w6 ⟨v6, rfl, ⟨V6, hr6, hm6⟩, hb6⟩
  rw [HN.out] at hr6
  obtain ⟨a6, c6, rfl⟩ := owns_shape hr6
  have hk0 := (hb6.block w.heap.size (by have := HZ5.out; omega)).trans HS5.out
  have hk1 := (hb6.block (w.heap.size + 1) (by have := HZ5.out; omega)).trans HK15.out
  obtain ⟨p1, p2⟩ := str_cell hk0
  obtain ⟨p3, p4⟩ := str_cell hk1
  have HB6 := Lib.hid (HB5.out.trans (hb6.mono HB5.out.size))
  have HO6 := Lib.hid (ownsRow_below HO5.out hb6)
  have HK6 := Lib.hid hk1
  have HZ6 := Lib.hid hb6.size
  have HR6 := Lib.hid hr6; have HM6 := Lib.hid hm6
  have hc6 : n ≤ c6 ∧ c6 ≤ maxLen := by
    rcases hr6.2 with ⟨e, h0⟩ | ⟨g2, cap, cur, e, _, _, h1, h2, _⟩
    · simp only [Value.slice.injEq] at e; obtain ⟨_, rfl, rfl⟩ := e; exact ⟨Nat.le_refl _, Nat.zero_le _⟩
    · simp only [Value.slice.injEq, true_and] at e; obtain ⟨_, rfl⟩ := e; exact ⟨h1, h2⟩
  have hsh : c6 = m ∨ ∃ g, a6 = some ⟨g, 0, none⟩ := by
    rcases hr6.2 with ⟨e, h0⟩ | ⟨g2, cap, cur, e, _⟩
    · simp only [Value.slice.injEq] at e; obtain ⟨_, rfl, rfl⟩ := e; exact .inl (by omega)
    · simp only [Value.slice.injEq, true_and] at e; exact .inr ⟨g2, e.1⟩
  obtain ⟨hc61, hc62⟩ := hc6
  unfold maxLen at hc62
  have hi1 : (m : Int) ≤ (n : Int) := by omega
  have hi2 : (m : Int) ≤ (c6 : Int) := by omega
  clear hb6 hr6 hm6 hk0 hk1 HB5 HO5 HK15 HS5
  have HFin := Lib.hid (show (((w6.setCell ⟨w.heap.size + 1, 0, none⟩ (.slice a4 n4 c4)).drew).cell? ⟨w.heap.size + 1, 0, none⟩ = some (.slice a4 n4 c4)) ∧ Below w.heap.size w ((w6.setCell ⟨w.heap.size + 1, 0, none⟩ (.slice a4 n4 c4)).drew) ∧ Own8 ((w6.setCell ⟨w.heap.size + 1, 0, none⟩ (.slice a4 n4 c4)).drew) w.heap.size (.slice a4 n4 c4) (P ++ l) ∧ ((w6.setCell ⟨w.heap.size + 1, 0, none⟩ (.slice a4 n4 c4)).drew).ownsRow w5.heap.size 23 1 (.slice a6 n c6) n V6 ∧ MVal ((w6.setCell ⟨w.heap.size + 1, 0, none⟩ (.slice a4 n4 c4)).drew) w5.heap.size V6 (splB (P ++ l)) from by
    have hs := str_set HK6.out (.slice a4 n4 c4)
    have hg := grownBy_setCell w6 (w.heap.size + 1) 0 (.slice a4 n4 c4)
    have hb : Below w.heap.size w (w6.setCell ⟨w.heap.size + 1, 0, none⟩ (.slice a4 n4 c4)) := HB6.out.grown hg HB6.out.size (fun q hq => by cases hq; omega)
    have ho : Own8 (w6.setCell ⟨w.heap.size + 1, 0, none⟩ (.slice a4 n4 c4)) w2.heap.size (.slice a4 n4 c4) (P ++ l) := HO6.out.kept hg (.inr fun e => by have := (HO6.out.lt _ e).1; have := HZ2.out; omega)
    have hr : (w6.setCell ⟨w.heap.size + 1, 0, none⟩ (.slice a4 n4 c4)).ownsRow w5.heap.size 23 1 (.slice a6 n c6) n V6 := HR6.out.kept hg (.inr fun e => by have := (HR6.out.lt _ e).1; have := HZ5.out; omega)
    have hm : MVal (w6.setCell ⟨w.heap.size + 1, 0, none⟩ (.slice a4 n4 c4)) w5.heap.size V6 (splB (P ++ l)) := HM6.out.keep hg fun r c t e hh => by cases e; rw [HK6.out] at hh; cases hh; decide
    generalize w6.setCell ⟨w.heap.size + 1, 0, none⟩ (.slice a4 n4 c4) = W0 at *
    have hd : Below W0.heap.size W0 W0.drew := (Below.refl _ W0).drew
    exact ⟨(str_cell ((hd.block _ (Array.getElem?_eq_some_iff.1 hs).1).trans hs)).1, hb.drew, own_base (ownsRow_below ho hd) HB2.out.size, ownsRow_below hr hd, hm.below hd⟩)
  have htail : ∀ (W : World) (g6 : Nat), W.ownsRow w5.heap.size 23 1 (.slice (some ⟨g6, 0, none⟩) n c6) n V6 → MVal W w5.heap.size V6 (splB (P ++ l)) → TRow W (.slice (some ⟨g6, m, none⟩) (n - m) (c6 - m)) ((splB (P ++ l)).drop (splB P).length) := fun W g6 hr hM => by
    rw [HM.out]
    by_cases hlt : m < n
    · exact trow_tail (L := splB (P ++ l)) hr HN.out.symm (fun i _ hi => hM.2.1 i (by rw [HN.out]; exact hi)) HSp.out hlt
    · rw [List.drop_eq_nil_of_le (by rw [HN.out]; omega), show n - m = 0 by omega]
      exact trow_nil _ _ _ (by unfold maxLen; omega)
  have HTail := Lib.hid htail
  have HW5 := Lib.hid (show w.heap.size ≤ w5.heap.size by have := HZ5.out; omega)
  clear htail
  by_cases hE : splE (P ++ l) = 31
  case' pos => have e1 : ((splE (P ++ l) : Int) != 31) = false := by rw [hE]; rfl
  case' neg => have e1 : ((splE (P ++ l) : Int) != 31) = true := by rw [bne_iff_ne]; omega
  all_goals
    have HF := Lib.hid hE
    clear hE
    by_cases hck : c6 = m
    case' pos => subst hck
    case' neg => obtain ⟨g6, rfl⟩ := hsh.resolve_left hck
    all_goals
      clear hsh
      go_wp2_with fail
      go_region
      all_goals
        go_wp2
        obtain ⟨f1, f2, f3, f4, f5⟩ := HFin.out
        generalize (w6.setCell ⟨w.heap.size + 1, 0, none⟩ (.slice a4 n4 c4)).drew = W at *
        first
          | (refine bodyPost_ret (v := .tuple #[.agg #[.slice a4 n4 c4], .slice a6 0 0, .int .i64 (splE (P ++ l) : Nat)]) (by simp [results, Try.results81, go_sem, f1]; done) rfl ⟨.slice a4 n4 c4, .slice a6 0 0, (by rw [feedE_31 HF.out, HF.out]), (fun W1 W2 _ q _ _ => by rw [List.drop_eq_nil_of_le (by rw [HM.out, HN.out]; omega)]; exact trow_nil _ _ _ (Nat.zero_le _)), f2, .inr ⟨HE.out, f3⟩⟩; done)
          | (refine bodyPost_ret (v := .tuple #[.agg #[.slice a4 n4 c4], .slice a6 0 0, .int .i64 0]) (by simp [results, Try.results81, go_sem, f1]; done) rfl ⟨.slice a4 n4 c4, .slice a6 0 0, (by rw [feedE_0 HF.out]; rfl), (fun W1 W2 _ q _ _ => by rw [List.drop_eq_nil_of_le (by rw [HM.out, HN.out]; omega)]; exact trow_nil _ _ _ (Nat.zero_le _)), f2, .inr ⟨HE.out, f3⟩⟩; done)
          | (refine bodyPost_ret (v := .tuple #[.agg #[.slice a4 n4 c4], .slice (some ⟨g6, m, none⟩) (n - m) (c6 - m), .int .i64 (splE (P ++ l) : Nat)]) (by simp [results, Try.results81, go_sem, f1]; done) rfl ⟨.slice a4 n4 c4, .slice (some ⟨g6, m, none⟩) (n - m) (c6 - m), (by rw [feedE_31 HF.out, HF.out]), (fun W1 W2 hb q hq hg => HTail.out _ _ ((ownsRow_below f4 hb).kept hg (.inr fun e => by have := (f4.lt _ e).1; have := HW5.out; omega)) ⟨f5.1, fun i hi => (ownsRow_below (f5.2.1 i hi) hb).kept hg (own8_ne (ownsRow_below (f5.2.1 i hi) hb) (by have := HW5.out; omega)), f5.2.2⟩), f2, .inr ⟨HE.out, f3⟩⟩; done)
          | (refine bodyPost_ret (v := .tuple #[.agg #[.slice a4 n4 c4], .slice (some ⟨g6, m, none⟩) (n - m) (c6 - m), .int .i64 0]) (by simp [results, Try.results81, go_sem, f1]; done) rfl ⟨.slice a4 n4 c4, .slice (some ⟨g6, m, none⟩) (n - m) (c6 - m), (by rw [feedE_0 HF.out]; rfl), (fun W1 W2 hb q hq hg => HTail.out _ _ ((ownsRow_below f4 hb).kept hg (.inr fun e => by have := (f4.lt _ e).1; have := HW5.out; omega)) ⟨f5.1, fun i hi => (ownsRow_below (f5.2.1 i hi) hb).kept hg (own8_ne (ownsRow_below (f5.2.1 i hi) hb) (by have := HW5.out; omega)), f5.2.2⟩), f2, .inr ⟨HE.out, f3⟩⟩; done)
end Go.Proofs.Ytlohggdabpfkhaa
