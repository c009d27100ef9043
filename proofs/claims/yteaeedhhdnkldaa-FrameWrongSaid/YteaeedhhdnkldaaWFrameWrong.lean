/-
  THE WALK of fermatalaw03.FrameWrong: it returns true; nothing that was there is written.
-/
import Derived.Test.YteaeedhhdnkldaaWrong03
import Derived.Test.YteaeedhhdnkldaaInsert03
import Derived.Test.YteaeedhhdnkldaaAwake03
import Derived.Test.YteaeedhhdnkldaaWrites01
namespace Go.Proofs.Yteaeedhhdnkldaa
open Go.RowKit Go.Shelf Pl

theorem HVal.app {w : World} {base : Nat} {V V' : List Value} {L L' : List (List Nat)} (h : HVal w base V L) (h' : HVal w base V' L') : HVal w base (V ++ V') (L ++ L') := by
  refine ⟨by simp [h.1, h'.1], fun i hi => ?_⟩
  rw [List.length_append] at hi
  by_cases hc : i < L.length
  · have e1 : (V ++ V').getD i undef = V.getD i undef := by simp [List.getD_eq_getElem?_getD, List.getElem?_append_left (show i < V.length by rw [h.1]; exact hc)]
    have e2 : mt (L ++ L') i = mt L i := by simp [mt, List.getD_eq_getElem?_getD, List.getElem?_append_left hc]
    rw [e1, e2]
    exact h.2 i hc
  · have e1 : (V ++ V').getD i undef = V'.getD (i - L.length) undef := by simp [List.getD_eq_getElem?_getD, List.getElem?_append_right (show V.length ≤ i by rw [h.1]; omega), h.1]
    have e2 : mt (L ++ L') i = mt L' (i - L.length) := by simp [mt, List.getD_eq_getElem?_getD, List.getElem?_append_right (show L.length ≤ i by omega)]
    rw [e1, e2]
    exact h'.2 _ (by omega)
theorem HVal.takeH {w : World} {base : Nat} {V : List Value} {L : List (List Nat)} (h : HVal w base V L) (k : Nat) : HVal w base (V.take k) (L.take k) := by
  refine ⟨by simp [h.1], fun i hi => ?_⟩
  rw [List.length_take] at hi
  have e1 : (V.take k).getD i undef = V.getD i undef := by simp [List.getD_eq_getElem?_getD, show i < k by omega]
  have e2 : mt (L.take k) i = mt L i := by simp [mt, List.getD_eq_getElem?_getD, show i < k by omega]
  rw [e1, e2]
  exact h.2 i (by omega)
theorem HVal.dropH {w : World} {base : Nat} {V : List Value} {L : List (List Nat)} (h : HVal w base V L) (k : Nat) : HVal w base (V.drop k) (L.drop k) := by
  refine ⟨by simp [h.1], fun i hi => ?_⟩
  rw [List.length_drop] at hi
  have e1 : (V.drop k).getD i undef = V.getD (k + i) undef := by simp [List.getD_eq_getElem?_getD, List.getElem?_drop]
  have e2 : mt (L.drop k) i = mt L (k + i) := by simp [mt, List.getD_eq_getElem?_getD, List.getElem?_drop]
  rw [e1, e2]
  exact h.2 _ (by omega)
theorem HVal.oneH {w : World} {base : Nat} {u : Value} {l : List Nat} (h : Half8 w base u l) : HVal w base [u] [l] := by
  refine ⟨rfl, fun i hi => ?_⟩
  have : i = 0 := by simp at hi; omega
  subst this
  exact h
theorem HVal.cells {w : World} {base : Nat} {V : List Value} {L : List (List Nat)} (h : HVal w base V L) : ∀ x ∈ V, x.oneCell' = true := by
  intro x hx
  obtain ⟨i, hi, rfl⟩ := List.getElem_of_mem hx
  obtain ⟨a, c, e⟩ := (h.2 i (by rw [← h.1]; exact hi)).shape
  have e2 : V.getD i undef = V[i] := by simp [List.getD_eq_getElem?_getD, hi]
  rw [← e2, e]
  rfl
theorem HVal.base0 {w : World} {base : Nat} {V : List Value} {L : List (List Nat)} (h : HVal w base V L) : HVal w 0 V L := ⟨h.1, fun i hi => (h.2 i hi).base (Nat.zero_le _)⟩
theorem tooL_first (L R : List (List Nat)) (m : List Nat) (hL : ∀ l ∈ L, l.length ≤ 16384) (hm : 16384 < m.length) : ∀ k, tooL k (L ++ m :: R) = some (k + L.length) := by
  induction L with
  | nil => intro k; simp [tooL, hm]
  | cons l L ih =>
    intro k
    simp only [List.cons_append, tooL]
    rw [if_neg (by have := hL l (by simp); omega), ih (fun x hx => hL x (by simp [hx])), List.length_cons]
    congr 1
    omega
theorem none_read {l : List Nat} (h : bnd l = none) : fsize l = 0 ∧ ferr l = 31 ∧ fbody l = [] ∧ fneed l = 0 ∧ fneedE l = 31 := by
  refine ⟨?_, ?_, ?_, ?_, ?_⟩
  · unfold fsize; rw [h]
  · unfold ferr; rw [h]
  · unfold fbody; rw [h]
  · unfold fneed; rw [h]
  · unfold fneedE; rw [h]
/-- The blocks of the rows of the literal, from one on, and that of their row. -/
def RowsAt (w : World) (g way k : Nat) : Prop :=
  w.heap[g + 5]? = some (.cells #[.slice (some ⟨g, 0, none⟩) 1 1, .slice (some ⟨g + 1, 0, none⟩) 2 2, .slice (some ⟨g + 2, 0, none⟩) 2 2, .slice (some ⟨g + 3, 0, none⟩) 2 2, .slice (some ⟨g + 4, 0, none⟩) 3 3] 22 (0, 0)) ∧
  ∀ j, k ≤ j → j < 5 → w.heap[g + j]? = some (.cells ((wrongL way j).map B8).toArray 5 (0, 0))
theorem RowsAt.cell {w : World} {g way k : Nat} (h : RowsAt w g way k) (hk : k < 5) : w.cell? ⟨g + 5, k, none⟩ = some (.slice (some ⟨g + k, 0, none⟩) (wrongL way k).length (wrongL way k).length) := by
  rw [cell_of_row w (g + 5) k _ _ (0, 0) h.1]
  rcases (show k = 0 ∨ k = 1 ∨ k = 2 ∨ k = 3 ∨ k = 4 by omega) with rfl | rfl | rfl | rfl | rfl <;> rfl
theorem RowsAt.own {w : World} {g way k : Nat} (h : RowsAt w g way k) (hk : k < 5) : Own8 w g (.slice (some ⟨g + k, 0, none⟩) (wrongL way k).length (wrongL way k).length) (wrongL way k) := by
  have hl := (wrongL_length way k).2
  refine ⟨by simp, .inr ⟨g + k, (wrongL way k).length, _, rfl, Nat.le_add_right _ _, h.2 k (Nat.le_refl _) hk, Nat.le_refl _, by unfold maxLen; omega, by simp, ?_⟩⟩
  rw [Nat.mul_one]
  exact List.take_of_length_le (by simp)
theorem RowsAt.next {w w' : World} {g way k : Nat} (h : RowsAt w g way k) (hg : w.grownBy w' (some (g + k))) (hk : k < 5) : RowsAt w' g way (k + 1) := by
  refine ⟨(hg.block (g + 5) (Array.getElem?_eq_some_iff.1 h.1).1 (by simp; omega)).trans h.1, fun j hj hj5 => ?_⟩
  have := h.2 j (by omega) hj5
  exact (hg.block (g + j) (Array.getElem?_eq_some_iff.1 this).1 (by simp; omega)).trans this
theorem RowsAt.below {w w' : World} {g way k : Nat} (h : RowsAt w g way k) (hb : Below w.heap.size w w') : RowsAt w' g way k :=
  ⟨(hb.block (g + 5) (Array.getElem?_eq_some_iff.1 h.1).1).trans h.1, fun j hj hj5 => (hb.block (g + j) (Array.getElem?_eq_some_iff.1 (h.2 j hj hj5)).1).trans (h.2 j hj hj5)⟩
theorem rowsAt_new (w : World) (way q7 q2 q1 q5 : Nat) (hq : way % 7 = q7 ∧ way % 247 = q2 ∧ way % 191 = q1 ∧ way % 255 = q5) :
    RowsAt ((((((w.alloc (.cells #[.int .u8 (249 + (q7 : Int))] 5)).alloc (.cells #[.int .u8 247, .int .u8 q2] 5)).alloc (.cells #[.int .u8 248, .int .u8 0] 5)).alloc (.cells #[.int .u8 248, .int .u8 (65 + (q1 : Int))] 5)).alloc (.cells #[.int .u8 248, .int .u8 64, .int .u8 (1 + (q5 : Int))] 5)).alloc (.cells #[.slice (some ⟨w.heap.size, 0, none⟩) 1 1, .slice (some ⟨w.heap.size + 1, 0, none⟩) 2 2, .slice (some ⟨w.heap.size + 2, 0, none⟩) 2 2, .slice (some ⟨w.heap.size + 3, 0, none⟩) 2 2, .slice (some ⟨w.heap.size + 4, 0, none⟩) 3 3] 22)) w.heap.size way 0 := by
  obtain ⟨e7, e2, e1, e5⟩ := hq
  obtain ⟨h0, h1, h2, h3, h4, h5⟩ := alloc6 w (.cells #[.int .u8 (249 + (q7 : Int))] 5) (.cells #[.int .u8 247, .int .u8 q2] 5) (.cells #[.int .u8 248, .int .u8 0] 5) (.cells #[.int .u8 248, .int .u8 (65 + (q1 : Int))] 5) (.cells #[.int .u8 248, .int .u8 64, .int .u8 (1 + (q5 : Int))] 5) (.cells #[.slice (some ⟨w.heap.size, 0, none⟩) 1 1, .slice (some ⟨w.heap.size + 1, 0, none⟩) 2 2, .slice (some ⟨w.heap.size + 2, 0, none⟩) 2 2, .slice (some ⟨w.heap.size + 3, 0, none⟩) 2 2, .slice (some ⟨w.heap.size + 4, 0, none⟩) 3 3] 22)
  refine ⟨h5, fun j _ hj => ?_⟩
  rcases (show j = 0 ∨ j = 1 ∨ j = 2 ∨ j = 3 ∨ j = 4 by omega) with rfl | rfl | rfl | rfl | rfl
  · refine h0.trans ?_; simp [wrongL, B8, e7]
  · refine h1.trans ?_; simp [wrongL, B8, e2]
  · refine h2.trans ?_; simp [wrongL, B8]
  · refine h3.trans ?_; simp [wrongL, B8, e1]
  · refine h4.trans ?_; simp [wrongL, B8, e5]
/-- A literal of one row of one byte. -/
theorem trow_one7 (w : World) : TRow ((w.alloc (.cells #[.int .u8 7] 5)).alloc (.cells #[.slice (some ⟨w.heap.size, 0, none⟩) 1 1] 22)) (.slice (some ⟨w.heap.size + 1, 0, none⟩) 1 1) [[7]] := by
  have h0 : (w.alloc (.cells #[.int .u8 7] 5)).heap[w.heap.size]? = some (.cells #[.int .u8 7] 5 (0, 0)) := heap_alloc_new w _
  have h1 := heap_alloc_new (w.alloc (.cells #[.int .u8 7] 5)) (.cells #[.slice (some ⟨w.heap.size, 0, none⟩) 1 1] 22)
  rw [World.size_alloc] at h1
  have hb := (brow_block (n := 1) (l := [7]) h0 rfl rfl (by intro d hd; rw [List.mem_singleton.1 hd]; decide) (by decide)).below ((Below.refl _ (w.alloc (.cells #[.int .u8 7] 5))).alloc (Nat.le_refl _) (.cells #[.slice (some ⟨w.heap.size, 0, none⟩) 1 1] 22))
  refine .inr ⟨w.heap.size + 1, 0, 1, fun _ => some ⟨w.heap.size, 0, none⟩, fun _ => 1, rfl, Nat.le_refl _, by unfold maxLen; omega, fun i hi => ?_⟩
  have hi0 : i = 0 := by simp at hi; omega
  subst hi0
  refine ⟨?_, hb⟩
  rw [cell_of_row _ _ _ _ _ (0, 0) h1]
  rfl

set_option maxRecDepth 100000 in
set_option maxHeartbeats 4000000 in
theorem frameWrong_walk (sv hv : Value) (S : List (Nat × Nat)) (at0 way : Nat) (behind : List Nat) (w : World) (hS : SRow w sv S) (hat : at0 < 256) (hway : way < 256) (hbe : BRow w hv behind) :
    Calls Try.prog 10 #[sv, .int .u8 at0, .int .u8 way, hv] w fun e w' => e = .returned (.bool true) ∧ Below w.heap.size w w' := by
  have hb64 := hbe.len_le
  obtain ⟨ha, hc, rfl⟩ := hbe.shape
  have HAw := Lib.hid (awake3_calls w)
  have HMd := Lib.hid (fun W (hb : Below w.heap.size w W) => made3_calls sv S W (hS.below hb))
  have HBe := Lib.hid hbe
  have hL30 := madeS_length S
  have HL599 := Lib.hid (madeS_len S)
  generalize madeS S = L at *
  clear hS hbe
  obtain ⟨nl, hnl⟩ : ∃ nl, 16385 + way = nl := ⟨_, rfl⟩
  have hnl1 : 16384 < nl := by omega
  have hnl2 : nl ≤ 16640 := by omega
  have hnli : (16385 : Int) + (way : Int) = (nl : Int) := by omega
  obtain ⟨k, hk⟩ : ∃ k, at0 % (L.length + 1) = k := ⟨_, rfl⟩
  have hkL : k ≤ L.length := by have := Nat.mod_lt at0 (show 0 < L.length + 1 by omega); omega
  have hki : (at0 : Int) % ((L.length : Int) + 1) = (k : Int) := by rw [← hk]; rfl
  have hat0 : (0 : Int) ≤ (at0 : Int) := by omega
  have hll0 : (0 : Int) < (L.length : Int) + 1 := by omega
  clear hk hnl
  go_enter Try.func10, Try.ntmps10
  go_wp2_with fail
  refine HAw.out.mono ?_
  rintro e w1 ⟨rfl, hb1⟩
  have HB1 := Lib.hid hb1
  clear hb1 HAw
  go_wp2_with fail
  refine (HMd.out _ HB1.out).mono ?_
  rintro e w2 ⟨v2, rfl, ho2, hb2⟩
  have HB2 := Lib.hid (HB1.out.trans (hb2.mono HB1.out.size))
  obtain ⟨V, hV1, hV2⟩ := ho2
  obtain ⟨a2, c2, rfl⟩ : ∃ a c, v2 = .slice a L.length c := owns_shape hV1
  obtain ⟨w3, hmk, ho3, hb3⟩ := make8 nl (by omega) w2
  have HV1 := Lib.hid (ownsRow_below hV1 hb3)
  have HV2 := Lib.hid (hV2.base0.below hb3)
  have HB3 := Lib.hid (HB2.out.trans (hb3.mono HB2.out.size))
  have hz : AllB (List.replicate nl 0) := fun x hx => by rw [List.eq_of_mem_replicate hx]; decide
  have HO3 := Lib.hid (Half8.of_own (own_base ho3 (Nat.zero_le _)) hz)
  have HZl := Lib.hid (show (List.replicate nl 0).length = nl from List.length_replicate)
  have hg2 : w2.heap.size < w3.heap.size := by
    rcases ho3.2 with ⟨e, _⟩ | ⟨g, cap, cur, e, _, hgb, _⟩
    · simp at e
    · simp only [Value.slice.injEq, Option.some.injEq, Addr.mk.injEq, and_true] at e
      rw [e.1]
      exact (Array.getElem?_eq_some_iff.1 hgb).1
  have HG2 := Lib.hid hg2
  clear hb2 ho3 hb3 hV1 hV2 HMd hg2
  have hmk2 := hmk
  clear hmk
  go_wp2_with fail
  refine (cloneM_calls _ L.length _ V w3 HV1.out HV2.out.cells (by omega)).mono ?_
  rintro e w4 ⟨v4, rfl, hr4, hb4⟩
  obtain ⟨a4, c4, rfl⟩ : ∃ a c, v4 = .slice a L.length c := owns_shape hr4
  have HX4 := Lib.hid hb4
  have HR4 := Lib.hid hr4
  have hlt4 : ∀ q, (Value.slice a4 L.length c4).ownBlock = some q → q < w4.heap.size := fun q hq => (hr4.lt q hq).2
  have HLt4 := Lib.hid hlt4
  clear hr4 hb4 hlt4 HV1
  have hins := insertM_calls w3.heap.size L.length k w4.heap.size (.slice a4 L.length c4) (.slice (some ⟨w2.heap.size, 0, none⟩) nl nl) V (w4.alloc (.cells #[.slice (some ⟨w2.heap.size, 0, none⟩) nl nl] 22)) (by have := HX4.out.size; rw [World.size_alloc]; omega) (HR4.out.alloc _) (World.alloc_heap_new w4 _) (fun e => by have := HLt4.out _ e; omega) hkL (by omega) HV2.out.cells rfl
  have HIns := Lib.hid hins
  clear hins
  go_wp2_with fail
  refine HIns.out.mono ?_
  rintro e w5 ⟨v5, rfl, hr5, hb5⟩
  have hx5 : Below w3.heap.size w3 w5 := (HX4.out.alloc HX4.out.size _).trans hb5
  have HX5 := Lib.hid hx5
  have HR5 := Lib.hid hr5
  clear hr5 hb5 hx5 HIns HX4 HR4 HLt4
  obtain ⟨V5, hV5⟩ : ∃ V5, V.take k ++ Value.slice (some ⟨w2.heap.size, 0, none⟩) nl nl :: V.drop k = V5 := ⟨_, rfl⟩
  rw [hV5] at HR5
  have HV5 := Lib.hid hV5
  clear hV5
  go_wp2_with (at_builtin; go_must (refine wpList_appendM rfl (.tmp 48) (.tmp 50) (by rfl) w3.heap.size _ (L.length + 1) V5 (by first | rfl | simp [Act.eval]) (HR5.out.alloc (.cells #[.slice (some ⟨w2.heap.size, 0, none⟩) nl nl] 22)) ⟨w5.heap.size, 0, none⟩ 1 1 [.slice (some ⟨w2.heap.size, 0, none⟩) nl nl] (by first | rfl | simp [Act.eval]) rfl (cell_one_new w5 (.slice (some ⟨w2.heap.size, 0, none⟩) nl nl) 22) (by intro u hu; rw [List.mem_singleton.1 hu]; rfl) (by omega) (by have := HX5.out.size; rw [World.size_alloc]; omega) ?_; intro v6 w6 hr6 hg6 hat6; have HR6 := Lib.hid hr6; have HX6 := Lib.hid ((HX5.out.alloc HX5.out.size _).grown hg6 (by have := HX5.out.size; rw [World.size_alloc]; omega) (fun j hj => (HR5.out.lt j hj).1)); clear hr6 hg6 hat6))
  obtain ⟨Z, hZ⟩ : ∃ Z, Z = List.replicate nl 0 := ⟨_, rfl⟩
  have HZl2 := HZl.out
  have HO3b := HO3.out
  rw [← hZ] at HZl2 HO3b
  have hq1 : HVal w3 0 V5 (L.take k ++ Z :: L.drop k) := by
    rw [← HV5.out]
    exact (HV2.out.takeH k).app ((HVal.oneH HO3b).app (HV2.out.dropH k))
  have hq2 := (hq1.app (HVal.oneH HO3b)).below (HX6.out.mono (Nat.le_refl _))
  have hll : (L.take k ++ Z :: L.drop k ++ [Z]).length = L.length + 1 + 1 := by simp; omega
  have hown : HOwn w6 0 v6 (L.take k ++ Z :: L.drop k ++ [Z]) := ⟨_, by
    rw [hll]
    exact ⟨HR6.out.1, HR6.out.2.imp id fun ⟨g, cap, cur, e, q1, q2⟩ => ⟨g, cap, cur, e, Nat.zero_le _, q2⟩⟩, hq2⟩
  have hjle : ∀ j, (joinF ((L.take k ++ Z :: L.drop k ++ [Z]).take j)).length ≤ 100000000 := fun j => by
    have h1 := joinF_le (L := (L.take k ++ Z :: L.drop k ++ [Z]).take j) (c := 16640) (fun l hl => by
      have hm := List.mem_of_mem_take hl
      simp only [List.mem_append, List.mem_cons, List.not_mem_nil, or_false] at hm
      rcases hm with (hm | rfl | hm) | rfl
      · have := HL599.out l (List.mem_of_mem_take hm); omega
      · omega
      · have := HL599.out l (List.mem_of_mem_drop hm); omega
      · omega)
    have h2 : ((L.take k ++ Z :: L.drop k ++ [Z]).take j).length ≤ 32 := by rw [List.length_take, hll]; omega
    have := Nat.mul_le_mul_right 16649 h2
    omega
  have hjv : joinV (L.take k ++ Z :: L.drop k ++ [Z]) = ([], (k : Int), 3) := by
    have e : L.take k ++ Z :: L.drop k ++ [Z] = L.take k ++ Z :: (L.drop k ++ [Z]) := by simp
    unfold joinV
    rw [e, tooL_first (L.take k) _ Z (fun l hl => by have := HL599.out l (List.mem_of_mem_take hl); omega) (by omega) 0, List.length_take, Nat.zero_add, Nat.min_eq_left hkL]
  have hj := join_calls v6 _ w6 hown.trow (by rw [hll]; omega) hjle
  rw [hjv] at hj
  have HJ := Lib.hid hj
  have HB6 := Lib.hid (HB3.out.trans (HX6.out.mono HB3.out.size))
  have hr6 := HO3b.1.below HX6.out
  have HW6 := Lib.hid (fun W (hb : Below w6.heap.size w6 W) => writeB_calls (.slice (some ⟨w2.heap.size, 0, none⟩) nl nl) Z W (hr6.below hb))
  have HZ3 := Lib.hid HZl2
  clear hq1 hq2 hll hown hjle hjv hj hr6 HZl2 HO3b HR6 HX6 HV5 HR5 HX5 HV2 HO3 HZl hZ HB3 HL599
  refine HJ.out.mono ?_
  rintro e w7 ⟨v7, rfl, ho7, hb7⟩
  obtain ⟨a7, c7, rfl⟩ := owns_shape ho7
  have HX7 := Lib.hid hb7
  have hw7 := HW6.out w7 hb7
  rw [if_pos (by rw [HZ3.out]; exact hnl1), if_pos (by rw [HZ3.out]; exact hnl1)] at hw7
  have HW7 := Lib.hid hw7
  clear ho7 hb7 hw7 HJ HW6
  go_wp2_with fail
  refine HW7.out.mono ?_
  rintro e w8 ⟨v8, rfl, ho8, hb8⟩
  obtain ⟨a8, c8, rfl⟩ := owns_shape ho8
  have HB8 := Lib.hid ((HB6.out.trans (HX7.out.mono HB6.out.size)).trans (hb8.mono (Nat.le_trans HB6.out.size HX7.out.size)))
  clear ho8 hb8 HW7 HX7 HB6
  obtain ⟨K2, hK2a, hK2b, hmin1, hmin2⟩ : ∃ K2 : Nat, K2 ≤ behind.length ∧ K2 ≤ 100 ∧ (if (100 : Int) < (behind.length : Int) then (100 : Int) else (behind.length : Int)) = (K2 : Int) ∧ min (behind.length : Int) 100 = (K2 : Int) := by
    by_cases h : (100 : Int) < (behind.length : Int)
    · exact ⟨100, by omega, by omega, by rw [if_pos h]; rfl, by omega⟩
    · exact ⟨behind.length, by omega, by omega, by rw [if_neg h], by omega⟩
  have hmc : behind.length ≤ hc := by
    obtain ⟨_, ⟨_, _, _, h, _⟩ | ⟨_, _, _, e, h, _⟩⟩ := HBe.out
    · rw [h]; exact Nat.zero_le _
    · cases e; exact h
  have hmi : (K2 : Int) ≤ (hc : Int) := by omega
  have HBh := Lib.hid ((HBe.out.below HB8.out).headW K2 hK2a)
  have hbl : (behind.take K2).length ≤ 100 := by rw [List.length_take]; omega
  have HBl := Lib.hid hbl
  go_upto_region 11 with fail
  all_goals
    generalize behind.take K2 = R at *
    obtain ⟨q7, hq7, hq7b⟩ : ∃ q, way % 7 = q ∧ q < 7 := ⟨_, rfl, by omega⟩
    obtain ⟨q2, hq2, hq2b⟩ : ∃ q, way % 247 = q ∧ q < 247 := ⟨_, rfl, by omega⟩
    obtain ⟨q1, hq1, hq1b⟩ : ∃ q, way % 191 = q ∧ q < 191 := ⟨_, rfl, by omega⟩
    obtain ⟨q5, hq5, hq5b⟩ : ∃ q, way % 255 = q ∧ q < 255 := ⟨_, rfl, by omega⟩
    have i7 : (way : Int) % 7 = (q7 : Int) := by omega
    have i2 : (way : Int) % 247 = (q2 : Int) := by omega
    have i1 : (way : Int) % 191 = (q1 : Int) := by omega
    have i5 : (way : Int) % 255 = (q5 : Int) := by omega
    have HQ := Lib.hid (And.intro hq7 (And.intro hq2 (And.intro hq1 hq5)))
    have HRs := Lib.hid (rowsAt_new w8 way q7 q2 q1 q5 HQ.out)
    have HRb := Lib.hid (fun o => (wrong_rows w8 way q7 q2 q1 q5 HQ.out o).2)
    clear hq7 hq2 hq1 hq5 hmc hbl HBe hK2a hnli
    go_wp2_with fail
    clear i7 i2 i1 i5
    go_loopw [103] (fun i wr => ∃ r : Nat, r ≤ 5 ∧ i = .int .i64 r ∧ RowsAt wr w8.heap.size way r ∧ Below w8.heap.size w8 wr) (fun i _ => 5 - (intOf i).toNat)
    case atStart => exact ⟨0, by omega, rfl, HRs.out, HRb.out _⟩
    case round =>
      obtain ⟨r, hr, rfl, hrows, hbel⟩ := hrel
      have HX := Lib.hid hbel
      have HRow := Lib.hid hrows
      by_cases hlt : r < 5
      · have dc : wr.cell? ⟨w8.heap.size + 1 + 1 + 1 + 1 + 1, r, none⟩ = some (.slice (some ⟨w8.heap.size + r, 0, none⟩) (wrongL way r).length (wrongL way r).length) := hrows.cell hlt
        have hO := hrows.own hlt
        have hwl := wrongL_length way r
        have hwf := none_read (bnd_none (wrongL_AllB way r) (wrongL_bnd way r) (r := R))
        have hwb := wrongL_AllB way r
        have hri : (r : Int) < 5 := by omega
        have HO := Lib.hid hO
        have HWb := Lib.hid hwb
        have HWf := Lib.hid hwf
        have HNx := Lib.hid (fun (W : World) (h : wr.grownBy W (some (w8.heap.size + r))) => hrows.next h hlt)
        have HLn := Lib.hid (show (wrongL way r).length + R.length ≤ 140737488355328 by have := HBl.out; omega)
        have HLn2 := Lib.hid (show (wrongL way r).length + R.length ≤ 1000 by have := HBl.out; omega)
        have HBr := Lib.hid (HBh.out.below HX.out)
        clear hrows hbel hO hwf hwb hwl
        generalize wrongL way r = X at *
        go_wp2_with (at_builtin; go_must (refine wpList_append8 rfl (.tmp 107) (.tmp 108) (by rfl) w8.heap.size _ X (by first | rfl | simp [Act.eval]) HO.out _ R (by first | rfl | simp [Act.eval]) HBr.out HLn.out HX.out.size ?_; intro vA wA hoA hgA; have HXA := Lib.hid (HX.out.grown hgA HX.out.size (fun j hj => (HO.out.lt j hj).1)); have HNA := Lib.hid (HNx.out wA hgA); have HOA := Lib.hid hoA; have HRA := Lib.hid (BRow.of_own hoA (HWb.out.append HBh.out.1)); clear hoA hgA))
        obtain ⟨p1, p2, p3, p4, p5⟩ := HWf.out
        have hrd := readB_calls vA (X ++ R) wA HRA.out
        rw [p1, p2, p3] at hrd
        have hnd := fun W (hb : Below wA.heap.size wA W) => need_calls vA (X ++ R) W (HRA.out.below hb)
        rw [p4, p5] at hnd
        have hjw := join_wrong (L := [[7]]) (fun l hl => by rw [List.mem_singleton.1 hl]; decide) p2
        have hj7 : joinF [[7]] = [1, 7] := rfl
        rw [hj7] at hjw
        have HRd := Lib.hid hrd
        have HNd := Lib.hid hnd
        have HJw := Lib.hid hjw
        clear p1 p2 p3 p4 p5 hrd hnd hjw hj7 HWf HRow HNx HLn HBr HO HX
        refine HRd.out.mono ?_
        rintro e wB ⟨vB, rfl, hoB, hbB⟩
        obtain ⟨aB, cB, rfl⟩ := owns_shape hoB
        have HXB := Lib.hid hbB
        clear hoB hbB HRd
        go_wp2_with fail
        refine (HNd.out _ HXB.out).mono ?_
        rintro e wC ⟨rfl, hbC⟩
        have HXC := Lib.hid (HXB.out.trans (hbC.mono HXB.out.size))
        have HRC := Lib.hid (HRA.out.below HXC.out)
        have HNC := Lib.hid (HNA.out.below HXC.out)
        have HXX := Lib.hid (HXA.out.trans (HXC.out.mono HXA.out.size))
        have HL7 := Lib.hid (own8_lit wC [1, 7] #[.int .u8 1, .int .u8 7] wC.heap.size 2 2 rfl rfl rfl rfl (by simp) wC.heap.size (Nat.le_refl _))
        have HA7 := Lib.hid ((Below.refl wC.heap.size wC).alloc (Nat.le_refl _) (.cells #[.int .u8 1, .int .u8 7] 5))
        have HLn3 := Lib.hid (show ([1, 7] : List Nat).length + (X ++ R).length ≤ 140737488355328 by rw [List.length_append]; have := HLn2.out; simp only [List.length_cons, List.length_nil]; omega)
        have HLn4 := Lib.hid (show ([1, 7] ++ (X ++ R) : List Nat).length ≤ 1000000 by rw [List.length_append, List.length_append]; have := HLn2.out; simp only [List.length_cons, List.length_nil]; omega)
        clear hbC HNd HXB HNA HXA HRA HOA
        go_wp2_with (at_builtin; go_must (refine wpList_append8 rfl (.tmp 122) (.tmp 123) (by rfl) wC.heap.size _ [1, 7] (by first | rfl | simp [Act.eval]) HL7.out _ (X ++ R) (by first | rfl | simp [Act.eval]) (HRC.out.below HA7.out) HLn3.out HA7.out.size ?_; intro vD wD hoD hgD; have HXD := Lib.hid (HA7.out.grown hgD HA7.out.size (fun j hj => (HL7.out.lt j hj).1)); have HRD := Lib.hid (BRow.of_own hoD (AllB.append (by intro d hd; simp only [List.mem_cons, List.not_mem_nil, or_false] at hd; rcases hd with rfl | rfl <;> decide) HRC.out.1)); clear hoD hgD))
        have hsp := split3_calls vD _ wD HRD.out HLn4.out
        rw [HJw.out.1, HJw.out.2.1, HJw.out.2.2] at hsp
        have HSp := Lib.hid hsp
        clear hsp
        refine HSp.out.mono ?_
        rintro e wE ⟨vE, rfl, hmE, hbE⟩
        obtain ⟨aE, cE, rfl⟩ := hmE.shape
        have HTE := Lib.hid (hmE.trow (fun l hl => by rw [List.mem_singleton.1 hl]; intro d hd; rw [List.mem_singleton.1 hd]; decide))
        have HXE := Lib.hid (HXD.out.trans (hbE.mono HXD.out.size))
        clear hmE hbE HSp HXD
        go_wp2_with fail
        have hbF : Below wE.heap.size wE ((wE.alloc (.cells #[.int .u8 7] 5)).alloc (.cells #[.slice (some ⟨wE.heap.size, 0, none⟩) 1 1] 22)) := ((Below.refl _ wE).alloc (Nat.le_refl _) _).alloc (by rw [World.size_alloc]; omega) _
        have HXF := Lib.hid (HXE.out.trans (hbF.mono HXE.out.size))
        have HTF := Lib.hid (HTE.out.below hbF)
        have HTG := Lib.hid (trow_one7 wE)
        clear hbF HXE HTE
        refine (equalM_calls _ _ [[7]] [[7]] _ HTF.out HTG.out).mono ?_
        rintro e wF ⟨rfl, rfl⟩
        rw [show decide (([[7]] : List (List Nat)) = [[7]]) = true from rfl]
        have HNF := Lib.hid (HNC.out.below HXF.out)
        have HXY := Lib.hid (HXX.out.trans (HXF.out.mono HXX.out.size))
        clear HTF HTG HXF HNC HXX
        go_wp2_with fail
        go_roundw
        case rel =>
          have hfin : ∃ r' : Nat, r' ≤ 5 ∧ Value.int .i64 ((r : Int) + 1) = .int .i64 r' ∧ RowsAt ((wE.alloc (.cells #[.int .u8 7] 5)).alloc (.cells #[.slice (some ⟨wE.heap.size, 0, none⟩) 1 1] 22)) w8.heap.size way r' ∧ Below w8.heap.size w8 ((wE.alloc (.cells #[.int .u8 7] 5)).alloc (.cells #[.slice (some ⟨wE.heap.size, 0, none⟩) 1 1] 22)) := ⟨r + 1, by omega, by go_num, HNF.out, HXY.out⟩
          first | exact hfin | ((repeat apply Exists.intro); exact ⟨hfin, rfl⟩)
        case measure => simp [intOf]; omega
      · obtain rfl : r = 5 := by omega
        go_wp2
        go_ret
        exact ⟨rfl, HB8.out.trans (HX.out.mono HB8.out.size)⟩
end Go.Proofs.Yteaeedhhdnkldaa
