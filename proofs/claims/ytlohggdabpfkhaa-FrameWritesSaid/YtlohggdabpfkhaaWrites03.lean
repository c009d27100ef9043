/-
  CONTRACT of fermatalaw03.writes: it returns true; nothing that was there is written.
-/
import Derived.Test.YtlohggdabpfkhaaRefW03
namespace Go.Proofs.Ytlohggdabpfkhaa
open Go.RowKit Go.Shelf Pl

theorem trow_allB {w : World} {v : Value} {L : List (List Nat)} (h : TRow w v L) : ∀ l ∈ L, AllB l := by
  intro l hl
  obtain ⟨i, hi, rfl⟩ := List.getElem_of_mem hl
  obtain ⟨b, off, cap, -, -, -, hc⟩ := h.cell (by omega)
  obtain ⟨a, c, -, hb⟩ := hc i hi
  have := hb.1
  simpa [mt, List.getD_eq_getElem?_getD, hi] using this
theorem joinF_len {L : List (List Nat)} (hsz : ∀ i < L.length, (mt L i).length ≤ 16400) : ∀ k, k ≤ L.length → (joinF (L.take k)).length ≤ k * 16500
  | 0, _ => by simp [joinF]
  | k + 1, hk => by
    rw [joinF_take L k (by omega)]
    have h1 := joinF_len hsz k (by omega)
    have h2 := hsz k (by omega)
    have h3 := form_length (mt L k).length
    simp only [List.length_append]
    omega
theorem joinF_all {L : List (List Nat)} (hL : L.length ≤ 20) (hsz : ∀ i < L.length, (mt L i).length ≤ 16400) (k : Nat) : (joinF (L.take k)).length ≤ 100000000 := by
  by_cases h : k ≤ L.length
  · have := joinF_len hsz k h
    omega
  · rw [List.take_of_length_le (by omega)]
    have := joinF_len hsz L.length (Nat.le_refl _)
    rw [List.take_length] at this
    omega
theorem joinF_allB {L : List (List Nat)} (h : ∀ l ∈ L, AllB l) : AllB (joinF L) := by
  intro d hd
  unfold joinF at hd
  obtain ⟨m, hm, hd⟩ := List.mem_flatMap.1 hd
  exact fr1_allB (h m hm) d hd
theorem joinV_allB {L : List (List Nat)} (h : ∀ l ∈ L, AllB l) : AllB (joinV L).1 := by
  unfold joinV
  split
  · exact joinF_allB h
  · exact AllB.nil
theorem bothWrite (bd : List Nat) (hb : AllB bd) : ∃ (F : List Nat) (E : Nat), AllB F ∧
    (∀ (W : World) (v : Value), BRow W v bd → Calls Try.prog 41 #[v] W fun e w' => ∃ v', e = .returned (.tuple #[v', .int .i64 (E : Int)]) ∧ Own8 w' W.heap.size v' F ∧ Below W.heap.size W w') ∧
    (∀ (W : World) (v : Value), BRow W v bd → Calls Try.prog 27 #[v] W fun e w' => ∃ v', e = .returned (.tuple #[v', .int .i64 (E : Int)]) ∧ Own8 w' W.heap.size v' F ∧ Below W.heap.size W w') :=
  ⟨if 16384 < bd.length then [] else fr1 bd, if 16384 < bd.length then 3 else 0, by split <;> first | exact AllB.nil | exact fr1_allB hb, fun W v h => writeB_calls v bd W h, fun W v h => refWrite3_calls v bd W h⟩
theorem bothJoin (L : List (List Nat)) (hL : L.length ≤ 20) (hsz : ∀ i < L.length, (mt L i).length ≤ 16400) (hb : ∀ l ∈ L, AllB l) : ∃ (F : List Nat) (I : Int) (E : Nat), AllB F ∧
    (∀ (W : World) (v : Value), TRow W v L → Calls Try.prog 32 #[v] W fun e w' => ∃ v', e = .returned (.tuple #[v', .int .i64 I, .int .i64 (E : Int)]) ∧ Own8 w' W.heap.size v' F ∧ Below W.heap.size W w') ∧
    (∀ (W : World) (v : Value), TRow W v L → Calls Try.prog 80 #[v] W fun e w' => ∃ v', e = .returned (.tuple #[v', .int .i64 I, .int .i64 (E : Int)]) ∧ Own8 w' W.heap.size v' F ∧ Below W.heap.size W w') :=
  ⟨(joinV L).1, (joinV L).2.1, (joinV L).2.2, joinV_allB hb, fun W v h => join_calls v L W h (by omega) (joinF_all hL hsz), fun W v h => refJoin3_calls v L W h (by omega) (joinF_all hL hsz)⟩

set_option maxRecDepth 100000 in
set_option maxHeartbeats 4000000 in
theorem writes3_calls (v : Value) (L : List (List Nat)) (w : World) (h : TRow w v L) (hL : L.length ≤ 20) (hsz : ∀ i < L.length, (mt L i).length ≤ 16400) :
    Calls Try.prog 24 #[v] w fun e w' => e = .returned (.bool true) ∧ Below w.heap.size w w' := by
  obtain ⟨va, vc, rfl⟩ := h.shape
  have HT := Lib.hid h
  have HAb := Lib.hid (trow_allB h)
  have HS := Lib.hid hsz
  obtain ⟨J, I, JE, hJb, hJ, hRJ⟩ := bothJoin L hL hsz (trow_allB h)
  have HJb := Lib.hid hJb; have HJ := Lib.hid hJ; have HRJ := Lib.hid hRJ
  have hls : (L.length : Int) ≤ 20 := by omega
  clear h hsz hJb hJ hRJ
  go_enter Try.func24, Try.ntmps24
  go_wp2
  go_loopw [3, 19] (fun x i wr => ∃ (k : Nat) (V : List Value), k ≤ L.length ∧ i = .int .i64 k ∧ wr.ownsRow w.heap.size 23 1 x k V ∧ MVal wr w.heap.size V (L.take k) ∧ Below w.heap.size w wr) (fun _ i _ => L.length - (intOf i).toNat)
  case atStart => exact ⟨0, [], Nat.zero_le _, rfl, World.ownsRow_nil _ _ _ _, mval_nil _ _, Below.refl _ _⟩
  case round =>
    obtain ⟨k, V, hk, rfl, hr, hM, hbel⟩ := hrel
    obtain ⟨ax, cx, rfl⟩ := owns_shape hr
    have HR := Lib.hid hr; have HM := Lib.hid hM; have HB := Lib.hid hbel
    clear hr hM
    by_cases hlt : k < L.length
    · have hd : decide ((k : Int) < (L.length : Int)) = true := decide_eq_true (by omega)
      obtain ⟨b, off, cap, e, hc, hm, hcell⟩ := HT.out.cell (by omega)
      simp only [Value.slice.injEq, true_and] at e
      obtain ⟨rfl, rfl⟩ := e
      obtain ⟨a1, c1, d1, r1⟩ := hcell k hlt
      have d1' := (hbel.cell (p := ⟨b, off + k, none⟩) (block_lt_of_cell d1)).trans d1
      have hz := HS.out k hlt
      obtain ⟨bd, hbd⟩ : ∃ bd, mt L k = bd := ⟨_, rfl⟩
      rw [hbd] at d1' hz r1
      have HRv := Lib.hid r1
      have htk : L.take (k + 1) = L.take k ++ [bd] := by
        rw [List.take_add_one, List.getElem?_eq_getElem hlt, ← hbd]
        simp [mt, List.getD_eq_getElem?_getD, hlt]
      have HTk := Lib.hid htk
      have hlk : (L.take k).length = k := by rw [List.length_take, Nat.min_eq_left hk]
      have HLk := Lib.hid hlk
      have HAbd := Lib.hid r1.1
      obtain ⟨F, E, hFb, hW, hRW⟩ := bothWrite bd r1.1
      have HFb := Lib.hid hFb; have HW := Lib.hid hW; have HRW := Lib.hid hRW
      have HR1 := Lib.hid (r1.below hbel)
      have hEE : ((E : Int) != (E : Int)) = false := by simp
      clear d1 r1 hbd hcell hbel htk hlk hFb hW hRW hm hc
      go_wp2_with fail
      refine (sclone_calls _ bd wr HR1.out (by omega)).mono ?_
      rintro e w1 ⟨v1, rfl, ho1, hb1⟩
      obtain ⟨a2, n2, c2, rfl⟩ : ∃ a n c, v1 = .slice a n c := by obtain ⟨a, c, e⟩ := owns_shape ho1; exact ⟨a, _, c, e⟩
      have HO1 := Lib.hid ho1
      have HB1 := Lib.hid (HB.out.trans (hb1.mono HB.out.size))
      have HRa := Lib.hid (ownsRow_below HR.out hb1)
      have HM1 := Lib.hid (HM.out.below hb1)
      have HLt := Lib.hid HM.out.lt
      clear ho1 hb1
      go_wp2_with (at_builtin; go_must (refine wpList_appendM rfl (.tmp 25) (.tmp 27) rfl w.heap.size _ k V (by first | rfl | simp [Act.eval]) (HRa.out.alloc _) ⟨w1.heap.size, 0, none⟩ 1 1 [.slice a2 n2 c2] (by first | rfl | simp [Act.eval]) rfl (cell_one_new _ _ _) (by intro u hu; simp at hu; subst hu; rfl) (by omega) (by have := HB1.out.size; simp; omega) ?_; intro v2 w2 hr2 hg2 hat2; have HR2 := Lib.hid hr2; have HG2 := Lib.hid hg2; clear hr2 hg2 hat2))
      obtain ⟨ay, cy, rfl⟩ := owns_shape HR2.out
      have HM2 := Lib.hid (HM1.out.snoc (m := wr.heap.size) (by rw [HLk.out]; exact HRa.out) (own_base HO1.out HB.out.size) HG2.out (by rw [HLk.out]; intro i hi; exact HLt.out i (by rw [HLk.out]; exact hi)) (fun q hq => (HO1.out.lt q hq).1))
      have HB2 := Lib.hid ((HB1.out.alloc HB1.out.size _).grown HG2.out (HB1.out.alloc HB1.out.size _).size (fun q hq => (HRa.out.lt q hq).1))
      have HX2 := Lib.hid (BRow.of_own (own8_thruM (own_base HO1.out HB.out.size) HRa.out HG2.out) HAbd.out)
      clear HR1 HO1 HB1 HRa HM1 HLt HG2 HR HM HB
      go_wp2_with fail
      refine (HW.out w2 _ HX2.out).mono ?_
      rintro e w3 ⟨v3, rfl, ho3, hb3⟩
      obtain ⟨a3, n3, c3, rfl⟩ : ∃ a n c, v3 = .slice a n c := by obtain ⟨a, c, e⟩ := owns_shape ho3; exact ⟨a, _, c, e⟩
      have HF3 := Lib.hid ho3
      have HB3 := Lib.hid (HB2.out.trans (hb3.mono HB2.out.size))
      have HR3 := Lib.hid (ownsRow_below HR2.out hb3)
      have HM3 := Lib.hid (HM2.out.below hb3)
      have HL2 := Lib.hid HM2.out.lt
      have HZ2 := Lib.hid HB2.out.size
      clear ho3 hb3 HX2 HM2 HR2 HB2
      go_wp2_with fail
      refine (HRW.out w3 _ (HRv.out.below HB3.out)).mono ?_
      rintro e w4 ⟨v4, rfl, ho4, hb4⟩
      have HF4 := Lib.hid (ownsRow_below HF3.out hb4)
      have HB4 := Lib.hid (HB3.out.trans (hb4.mono HB3.out.size))
      have HR4 := Lib.hid (ownsRow_below HR3.out hb4)
      have HM4 := Lib.hid (HM3.out.below hb4)
      have HO4 := Lib.hid ho4
      clear ho4 hb4 HF3 HB3 HR3 HM3
      go_wp2_with fail
      refine (bytesEqual_b _ _ F F w4 (BRow.of_own HF4.out HFb.out) (BRow.of_own HO4.out HFb.out) true (decide_eq_true rfl)).mono ?_
      rintro e w5 ⟨rfl, hb5⟩
      have HF5 := Lib.hid (ownsRow_below HF4.out hb5)
      have HB5 := Lib.hid (HB4.out.trans (hb5.mono HB4.out.size))
      have HR5 := Lib.hid (ownsRow_below HR4.out hb5)
      have HM5 := Lib.hid (HM4.out.below hb5)
      clear hb5 HF4 HB4 HR4 HM4 HO4
      go_wp2_with fail
      have hA := (Below.refl w5.heap.size w5).alloc (Nat.le_refl _) (.cells #[.slice a3 n3 c3] 23)
      refine (spoil1_calls _ F w2.heap.size w5.heap.size _ (ownsRow_below HF5.out hA) HFb.out (World.alloc_heap_new w5 _)).mono ?_
      rintro e w6 ⟨⟨r, rfl⟩, hg6⟩
      have hxl : ∀ q, (Value.slice a3 n3 c3).ownBlock = some q → w2.heap.size ≤ q := fun q hq => (HF5.out.lt q hq).1
      have hBA := HB5.out.alloc HB5.out.size (.cells #[.slice a3 n3 c3] 23)
      have hXk := ownsRow_below HF5.out hA
      have HB6 := Lib.hid (hBA.grown hg6 hBA.size (fun q hq => Nat.le_trans HZ2.out (hxl q hq)))
      have HR6 := Lib.hid (rowM_gr (ownsRow_below HR5.out hA) hXk hg6)
      have HM6 := Lib.hid (show MVal w6 w.heap.size (V ++ [.slice a2 n2 c2]) (L.take k ++ [bd]) from ⟨HM5.out.1, fun i hi => own8_gr ((HM5.out.below hA).2.1 i hi) hg6 (fun q hq e => by have := HL2.out i hi q hq; have := hxl q e; omega), HM5.out.2.2⟩)
      clear hA hg6 hxl hBA hXk HF5 HB5 HR5 HM5
      have hk1 : (k : Int) + 1 ≤ 20 := by omega
      go_wp2_with fail
      go_roundw
      case rel => exact ⟨k + 1, V ++ [.slice a2 n2 c2], by omega, by go_num, HR6.out, by rw [HTk.out]; exact HM6.out, HB6.out⟩
      case measure => simp [intOf]; omega
    · obtain rfl : k = L.length := by omega
      have hd : decide ((L.length : Int) < (L.length : Int)) = false := by simp
      have HM' := Lib.hid (show MVal wr w.heap.size V L by have := HM.out; rwa [List.take_length] at this)
      have HTv := Lib.hid (HT.out.below hbel)
      have hII : (I != I) = false := by simp
      have hEE : ((JE : Int) != (JE : Int)) = false := by simp
      clear hbel hk HM
      go_wp2_with fail
      refine (HJ.out wr _ (trow_of HR.out HM'.out HAb.out)).mono ?_
      rintro e w1 ⟨v1, rfl, ho1, hb1⟩
      obtain ⟨a1, n1, c1, rfl⟩ : ∃ a n c, v1 = .slice a n c := by obtain ⟨a, c, e⟩ := owns_shape ho1; exact ⟨a, _, c, e⟩
      have HF1 := Lib.hid ho1
      have HB1 := Lib.hid (HB.out.trans (hb1.mono HB.out.size))
      have HR1 := Lib.hid (ownsRow_below HR.out hb1)
      have HM1 := Lib.hid (HM'.out.below hb1)
      have HT1 := Lib.hid (HTv.out.below hb1)
      have HL0 := Lib.hid HM'.out.lt
      have HZ := Lib.hid HB.out.size
      clear ho1 hb1
      go_wp2_with fail
      refine (HRJ.out w1 _ HT1.out).mono ?_
      rintro e w2 ⟨v2, rfl, ho2, hb2⟩
      have HF2 := Lib.hid (ownsRow_below HF1.out hb2)
      have HB2 := Lib.hid (HB1.out.trans (hb2.mono HB1.out.size))
      have HR2 := Lib.hid (ownsRow_below HR1.out hb2)
      have HM2 := Lib.hid (HM1.out.below hb2)
      have HO2 := Lib.hid ho2
      clear ho2 hb2 HF1 HB1 HR1 HM1
      go_wp2_with fail
      refine (bytesEqual_b _ _ J J w2 (BRow.of_own HF2.out HJb.out) (BRow.of_own HO2.out HJb.out) true (decide_eq_true rfl)).mono ?_
      rintro e w3 ⟨rfl, hb3⟩
      have HF3 := Lib.hid (ownsRow_below HF2.out hb3)
      have HB3 := Lib.hid (HB2.out.trans (hb3.mono HB2.out.size))
      have HR3 := Lib.hid (ownsRow_below HR2.out hb3)
      have HM3 := Lib.hid (HM2.out.below hb3)
      clear hb3 HF2 HB2 HR2 HM2 HO2
      go_wp2_with fail
      have hA := (Below.refl w3.heap.size w3).alloc (Nat.le_refl _) (.cells #[.slice a1 n1 c1] 23)
      refine (spoil1_calls _ J wr.heap.size w3.heap.size _ (ownsRow_below HF3.out hA) HJb.out (World.alloc_heap_new w3 _)).mono ?_
      rintro e w4 ⟨⟨r, rfl⟩, hg4⟩
      have hxl : ∀ q, (Value.slice a1 n1 c1).ownBlock = some q → wr.heap.size ≤ q := fun q hq => (HF3.out.lt q hq).1
      have hBA := HB3.out.alloc HB3.out.size (.cells #[.slice a1 n1 c1] 23)
      have hXk := ownsRow_below HF3.out hA
      have HB4 := Lib.hid (hBA.grown hg4 hBA.size (fun q hq => Nat.le_trans HZ.out (hxl q hq)))
      have HR4 := Lib.hid (rowM_gr (ownsRow_below HR3.out hA) hXk hg4)
      have HM4 := Lib.hid (show MVal w4 w.heap.size V L from ⟨HM3.out.1, fun i hi => own8_gr ((HM3.out.below hA).2.1 i hi) hg4 (fun q hq e => by have := HL0.out i hi q hq; have := hxl q e; omega), HM3.out.2.2⟩)
      clear hA hg4 hxl hBA hXk HF3 HB3 HR3 HM3
      go_wp2_with fail
      refine (equalM_b _ _ L L w4 (trow_of HR4.out HM4.out HAb.out) (HT.out.below HB4.out) true (decide_eq_true rfl)).mono ?_
      rintro e w5 ⟨rfl, hb5⟩
      have HB5 := Lib.hid (HB4.out.trans (hb5.mono HB4.out.size))
      clear hb5
      go_wp2
      go_ret
      exact ⟨rfl, HB5.out⟩
end Go.Proofs.Ytlohggdabpfkhaa
