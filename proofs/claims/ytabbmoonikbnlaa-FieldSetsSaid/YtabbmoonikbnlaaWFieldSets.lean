/-
  THE WALK of fermatalaw02.FieldSets: it returns true, and writes nothing that was there.
-/
import Derived.Test.YtabbmoonikbnlaaWrongP
import Derived.Deep.CutBlock
import Derived.WalkMore
import Derived.Deep.DeepCutAuto
namespace Go.Proofs.Ytabbmoonikbnlaa
open Go.RowKit Pl

/-- Get, whatever is there. -/
theorem get_bool (t : Int) (v : Value) (L : List Fld) (w : World) (h : FRow w v L) (hl : ∀ i < L.length, (fb L i).length ≤ 140737488355000) :
    Calls Try.prog 18 #[v, .int .i64 t] w fun e w' => Below w.heap.size w w' ∧ ∃ v', e = .returned (.tuple #[v', .bool (getR t L).isSome]) :=
  (get_calls t v L w h hl).mono fun e w' hh => ⟨hh.1, by
    rcases hh.2 with ⟨h1, h2⟩ | ⟨l', v', h1, h2, _⟩
    · rw [getF_eq] at h1; rw [h1]; exact ⟨_, h2⟩
    · rw [getF_eq] at h1; rw [h1]; exact ⟨_, h2⟩⟩
theorem set_len {m : List Fld} (h : rightF m = true) (t : Int) (l : List Nat) : ((setR t l m).length : Int) = m.length + (if (getR t m).isSome then 0 else 1) := by
  rw [set_length t l m 0 ((rightF_iff m).1 h).2.1]
  split <;> simp
theorem get_each {m : List Fld} (h : rightF m = true) (t : Int) (y : List Nat) {j : Nat} (hj : j < m.length) : getF (setR t y m) (ft m j) = some (if ft m j = t then y else fb m j) := by
  rw [getF_eq]
  by_cases e : ft m j = t
  · rw [if_pos e, e, getR_set_same]
  · rw [if_neg e, getR_set_other _ _ _ _ e]
    exact get_there m 0 ((rightF_iff m).1 h).2.1 _ (ft_mem hj)
theorem set_each {m : List Fld} (h : rightF m = true) {j : Nat} (hj : j < m.length) : setR (ft m j) (fb m j) m = m := set_there m 0 ((rightF_iff m).1 h).2.1 _ (ft_mem hj)

set_option maxRecDepth 100000 in
set_option maxHeartbeats 4000000 in
theorem fieldSets_walk (vp vt : Value) (an : Option Addr) (cn : Nat) (p : List Nat) (T : List (List Nat)) (tag : Nat) (ay : List Nat) (w : World) (hp : BRow w vp p) (ht : TRow w vt T) (hx : tag < 256) (hy : BRow w (.slice an ay.length cn) ay) :
    Calls Try.prog 3 #[vp, vt, .int .u8 tag, .slice an ay.length cn] w fun e w' => e = .returned (.bool true) ∧ Below w.heap.size w w' := by
  have hcap : ay.length ≤ cn := by
    obtain ⟨_, ⟨_, _, e, rfl, _⟩ | ⟨_, _, _, e, h1, _⟩⟩ := hy
    · simp
    · cases e; exact h1
  have hlen := hy.len_le
  have hcut : ∃ K : Nat, K ≤ 100 ∧ K ≤ ay.length ∧ (if (100 : Int) < (ay.length : Int) then (100 : Int) else (ay.length : Int)) = (K : Int) := by
    by_cases h : ay.length ≤ 100
    · exact ⟨ay.length, h, Nat.le_refl _, by rw [if_neg (by omega)]⟩
    · exact ⟨100, Nat.le_refl _, by omega, by rw [if_pos (by omega)]; rfl⟩
  obtain ⟨K, hK1, hK2, hmin⟩ := hcut
  have hkc1 : (0 : Int) ≤ (K : Int) := by omega
  have hkc2 : (K : Int) ≤ (cn : Int) := by omega
  have hkl : (ay.take K).length = K := by rw [List.length_take]; omega
  have HY := Lib.hid (hy.headW K hK2)
  generalize ay.take K = y at *
  subst hkl
  obtain ⟨t0, ht1, htm⟩ : ∃ t0 : Nat, t0 < 200 ∧ (tag : Int) % 200 = (t0 : Int) := ⟨tag % 200, Nat.mod_lt _ (by omega), by omega⟩
  have HP := Lib.hid hp
  have HT := Lib.hid ht
  have HTa := Lib.hid ht.allB
  clear hp ht hy
  go_enter Try.func3, Try.ntmps3
  go_wp2_with fail
  refine (awake2_calls w).mono ?_
  rintro e w1 ⟨rfl, hb1⟩
  have HB1 := Lib.hid hb1
  clear hb1
  go_wp2_with fail
  refine (made_calls vp vt p T w1 (HP.out.below HB1.out) (HT.out.below HB1.out)).mono ?_
  rintro e wm ⟨vl, rfl, hm, hb2⟩
  have HB2 := Lib.hid (HB1.out.trans (hb2.mono HB1.out.size))
  have HL := Lib.hid (made_row HTa.out hm)
  obtain ⟨g1, g2, g3⟩ := made_under p T
  have hrm := madeF_right p T
  have hma := made_allB (gaps := p) HTa.out
  clear hb2 hm HB1 HP HT HTa
  generalize madeF p T = m at *
  obtain ⟨tg, htg⟩ : ∃ tg : Int, 1 + (t0 : Int) = tg := ⟨_, rfl⟩
  have htg1 : 0 < tg := by omega
  have htg2 : tg ≤ 200 := by omega
  have HTg := Lib.hid htg
  have hRM : rightF (setR tg y m) = true := set_right hrm (by omega) (by omega) (by omega) (by omega)
  have HSl := Lib.hid (set_len hrm tg y)
  have HGe := Lib.hid (fun j (hj : j < m.length) => get_each hrm tg y hj)
  have HSe := Lib.hid (fun j (hj : j < m.length) => set_each hrm hj)
  have HSd := Lib.hid (fun j (hj : j < m.length) => set_drop m hrm j hj)
  have HRd := Lib.hid (fun j => right_drop hrm j)
  have HGs := Lib.hid (show getF (setR tg y m) tg = some y by rw [getF_eq, getR_set_same])
  have HPos := Lib.hid (fun q hq => (right_tags hrm q hq).1)
  have HGb := Lib.hid (fun v W (h : FRow W v m) => get_bool tg v m W h (fun i hi => by have := (right_lens hrm).2 i hi; omega))
  have HT64 := Lib.hid (right_tag64 hrm)
  have HGn := Lib.hid (show getF m (-(tag : Int)) = none by rw [getF_eq]; exact getR_none_of _ _ (fun q hq => by have := (right_tags hrm q hq).1; omega))
  have HSet := Lib.hid (fun v a c W (h : FRow W v m) (hb : BRow W (.slice a y.length c) y) => set_ok tg v a c y m W h (by unfold Tag64; omega) hb hrm hRM)
  have HMl := Lib.hid hma
  have HMa := Lib.hid (mem_setR (t := tg) (l := y) (L := m) (P := fun q => AllB q.2) hma HY.out.1)
  obtain ⟨b, hb⟩ : ∃ b, (getR tg m).isSome = b := ⟨_, rfl⟩
  rw [hb] at HSl HGb
  generalize setR tg y m = M at *
  have HLn := Lib.hid (fun i hi => (right_lens hrm).2 i hi)
  have HLM := Lib.hid (fun i hi => (right_lens hRM).2 i hi)
  have HRM := Lib.hid hRM
  have HRm := Lib.hid hrm
  have hmlen : (m.length : Int) ≤ 20 := by omega
  clear g2 g3 hRM hrm hb hma
  have hFn := World.alloc_heap_new wm (.cells #[.int .i64 tg, .slice an y.length cn] 28)
  have hFb := (Below.refl wm.heap.size wm).alloc (Nat.le_refl _) (.cells #[.int .i64 tg, .slice an y.length cn] 28)
  have HFn := Lib.hid hFn
  have HFb := Lib.hid hFb
  clear hFn hFb
  go_wp2_with fail
  refine (HSet.out vl an cn _ (HL.out.below HFb.out) ((HY.out.below HB2.out).below HFb.out)).mono ?_
  rintro e w2 ⟨hb2, v2, rfl, hf2⟩
  have HB3 := Lib.hid ((HB2.out.trans (HFb.out.mono HB2.out.size)).trans (hb2.mono (by have := HB2.out.size; have := HFb.out.size; omega)))
  have HM2 := Lib.hid (hf2.row (right_tag64 HRM.out) (fb_mem_allB HMa.out))
  have HL2 := Lib.hid ((HL.out.below HFb.out).below hb2)
  have HY2 := Lib.hid (((HY.out.below HB2.out).below HFb.out).below hb2)
  have hF2 := (hb2.block wm.heap.size (Array.getElem?_eq_some_iff.1 HFn.out).1).trans HFn.out
  have HF2 := Lib.hid hF2
  have hsz2 : wm.heap.size < w2.heap.size := (Array.getElem?_eq_some_iff.1 hF2).1
  have q0 : w2.cell? ⟨wm.heap.size, 0, none⟩ = some (.int .i64 tg) := by simp [World.cell?, hF2]
  have q1 : w2.cell? ⟨wm.heap.size, 1, none⟩ = some (.slice an y.length cn) := by simp [World.cell?, hF2]
  obtain ⟨a2, c2, rfl⟩ := HM2.out.shape
  obtain ⟨a0, c0, rfl⟩ := HL2.out.shape
  clear hF2 hb2 hf2 HFb HFn HY HB2 HSet HL
  have HG1 := Lib.hid (get_some tg _ M y w2 HM2.out (fun i hi => by have := HLM.out i hi; omega) HGs.out)
  clear HGs
  go_wp2_with fail
  refine HG1.out.mono ?_
  rintro e w3 ⟨hb3, v3, rfl, ho3⟩
  obtain ⟨a3, c3, rfl⟩ := owns_shape ho3
  have HB4 := Lib.hid hb3
  have HO3 := Lib.hid (BRow.of_own ho3 HY2.out.1)
  have r1 := (hb3.cell (p := ⟨wm.heap.size, 1, none⟩) hsz2).trans q1
  have r0 := (hb3.cell (p := ⟨wm.heap.size, 0, none⟩) hsz2).trans q0
  clear hb3 ho3 HG1
  go_wp2_with fail
  refine (bytesEqual_calls _ _ y y _ HO3.out (HY2.out.below HB4.out)).mono ?_
  rintro e w' ⟨rfl, rfl⟩
  rw [decide_eq_true (rfl : y = y)]
  have HRt := Lib.hid (right_calls _ M w3 (HM2.out.below HB4.out))
  rw [HRM.out] at HRt
  clear HO3
  go_wp2_with fail
  refine HRt.out.mono ?_
  rintro e w4 ⟨rfl, hb4⟩
  have HB5 := Lib.hid (HB4.out.trans (hb4.mono HB4.out.size))
  have s0 := (hb4.cell (p := ⟨wm.heap.size, 0, none⟩) (Nat.lt_of_lt_of_le hsz2 HB4.out.size)).trans r0
  clear hb4 HB4 HRt r0 r1
  go_upto_region 10 with (go_at_call 18; refine (HGb.out _ _ (HL2.out.below HB5.out)).mono ?_; rintro e w5 ⟨hb5, v5, rfl⟩; have HB6 := Lib.hid (HB5.out.trans (hb5.mono HB5.out.size)); clear hb5)
  go_cut [95] (fun z wx => z = .bool false ∧ wx = w5)
  case first =>
    have hsl := HSl.out
    cases b
    · have e1 : ((M.length : Int) == (m.length : Int)) = false := by rw [beq_eq_false_iff_ne]; simp at hsl; omega
      have e2 : ((M.length : Int) != (m.length : Int) + 1) = false := by simpa using hsl
      clear hsl
      go_wp2_with fail
      go_meet
      exact ⟨rfl, rfl⟩
    · have e1 : ((M.length : Int) == (m.length : Int)) = true := by rw [beq_iff_eq]; simp at hsl; omega
      clear hsl
      go_wp2_with fail
      go_meet
      exact ⟨rfl, rfl⟩
  case rest =>
    obtain ⟨rfl, rfl⟩ := hcut
    obtain ⟨ws, rfl⟩ : ∃ ws : World, ws = wc := ⟨_, rfl⟩
    have hb5 := HB6.out
    have HL5 := Lib.hid (HL2.out.below hb5)
    have HM5 := Lib.hid (HM2.out.below hb5)
    have HW5 := Lib.hid (HB3.out.trans (hb5.mono HB3.out.size))
    have u0 := (hb5.cell (p := ⟨wm.heap.size, 0, none⟩) hsz2).trans q0
    have hsz5 : wm.heap.size < ws.heap.size := Nat.lt_of_lt_of_le hsz2 hb5.size
    clear hb5 HB6 HB5 HL2 HM2 HB3 s0 q0 q1 hsz2 HY2 HSl HGb HF2 htm htg
    go_wp2_with fail
    go_loopw [17, 98] (fun v i wr => ∃ k : Nat, k ≤ m.length ∧ i = .int .i64 k ∧ FRow wr v (m.drop (m.length - k)) ∧ Below ws.heap.size ws wr) (fun _ i _ => m.length - (intOf i).toNat)
    case atStart => exact ⟨0, Nat.zero_le _, rfl, by rw [Nat.sub_zero, List.drop_length]; exact FRow.none _, Below.refl _ _⟩
    case round =>
      obtain ⟨k, hk, rfl, hfr, hbel⟩ := hrel
      have HFr := Lib.hid hfr
      have HBl := Lib.hid hbel
      have u1 := (hbel.cell (p := ⟨wm.heap.size, 0, none⟩) hsz5).trans u0
      by_cases hlt : k < m.length
      · obtain ⟨j, hj⟩ : ∃ j, m.length = k + 1 + j := ⟨m.length - 1 - k, by omega⟩
        have hj1 : (m.length : Int) - 1 - (k : Int) = (j : Int) := by omega
        have hj2 : j < m.length := by omega
        have hj3 : (j : Int) < (m.length : Int) := by omega
        have hkl : decide ((k : Int) < (m.length : Int)) = true := decide_eq_true (by omega)
        have e1 : m.length - k = j + 1 := by omega
        have e2 : m.length - (k + 1) = j := by omega
        have E2 := Lib.hid e2
        rw [e1] at HFr
        obtain ⟨_, ⟨_, _, _, hn, _⟩ | ⟨bb, off, cap, A, C, e, hc, hmx, hcell⟩⟩ := HL5.out
        · rw [hn] at hj2; exact absurd hj2 (Nat.not_lt_zero _)
        simp only [Value.slice.injEq, true_and] at e
        obtain ⟨rfl, rfl⟩ := e
        obtain ⟨d1, d2, d3⟩ := hcell j hj2
        have d1' := (hbel.cell (p := ⟨bb, off + j * 2, none⟩) (block_lt_of_cell d1)).trans d1
        have d2' := (hbel.cell (p := ⟨bb, off + j * 2 + 1, none⟩) (block_lt_of_cell d2)).trans d2
        have hle := HLn.out j hj2
        have HT64j := Lib.hid (HT64.out _ (ft_mem hj2))
        have HGj := Lib.hid (HGe.out j hj2)
        have HSj := Lib.hid (HSe.out j hj2)
        have HSdj := Lib.hid (HSd.out j hj2)
        have HD3 := Lib.hid (d3.below hbel)
        generalize ft m j = t at *
        generalize fb m j = bs at *
        generalize A j = A1 at *
        generalize C j = C1 at *
        clear hcell d1 d2 d3 hfr hbel hj e1 e2 hmx hlt
        have HA := Lib.hid ((Below.refl wr.heap.size wr).alloc (Nat.le_refl _) (.cells #[.int .i64 t, .slice A1 bs.length C1] 28))
        have HAn := Lib.hid (World.alloc_heap_new wr (.cells #[.int .i64 t, .slice A1 bs.length C1] 28))
        have HGt := Lib.hid (fun W (hb : Below wr.heap.size wr W) => get_some t (.slice a2 M.length c2) M (if t = tg then y else bs) W ((HM5.out.below HBl.out).below hb) (fun i hi => by have := HLM.out i hi; omega) HGj.out)
        go_wp2_with fail
        refine (HGt.out _ HA.out).mono ?_
        rintro e w6 ⟨hb6, v6, rfl, ho6⟩
        have HB6 := Lib.hid (HA.out.trans (hb6.mono HA.out.size))
        have hX6 := (hb6.block wr.heap.size (Array.getElem?_eq_some_iff.1 HAn.out).1).trans HAn.out
        have HX6 := Lib.hid hX6
        have hsx : wr.heap.size < w6.heap.size := (Array.getElem?_eq_some_iff.1 hX6).1
        have x0 : w6.cell? ⟨wr.heap.size, 0, none⟩ = some (.int .i64 t) := by simp [World.cell?, hX6]
        have x1 : w6.cell? ⟨wr.heap.size, 1, none⟩ = some (.slice A1 bs.length C1) := by simp [World.cell?, hX6]
        have u2 := (HB6.out.cell (p := ⟨wm.heap.size, 0, none⟩) (Nat.lt_of_lt_of_le hsz5 HBl.out.size)).trans u1
        have HO6 := Lib.hid ho6
        clear hb6 hX6 ho6 HGt HA HAn u1
        go_upto_region 18 with fail
        go_cut [131] (fun z wx => z = .bool false ∧ wx = w6)
        case first =>
          by_cases htt : t = tg
          · subst htt
            have e1 : (t != t) = false := by simp
            clear HO6
            go_wp2_with fail
            go_meet
            exact ⟨rfl, rfl⟩
          · have e1 : (t != tg) = true := by simpa using htt
            have ho := HO6.out
            rw [if_neg htt] at ho
            obtain ⟨a6, c6, rfl⟩ := owns_shape ho
            have HEq := Lib.hid (bytesEqual_calls _ _ bs bs w6 (BRow.of_own ho HD3.out.1) (HD3.out.below HB6.out))
            rw [decide_eq_true (rfl : bs = bs)] at HEq
            clear HO6 ho htt
            go_wp2_with fail
            refine HEq.out.mono ?_
            rintro e w' ⟨rfl, rfl⟩
            go_wp2_with fail
            go_meet
            exact ⟨rfl, rfl⟩
        case rest =>
          obtain ⟨rfl, rfl⟩ := hcut
          clear u0 u2 HO6
          have HSa := Lib.hid (fun v W (h : FRow W v m) (hb : BRow W (.slice A1 bs.length C1) bs) => set_ok t v A1 C1 bs m W h HT64j.out hb HRm.out (by rw [HSj.out]; exact HRm.out))
          rw [HSj.out] at HSa
          have HSb := Lib.hid (fun v W (h : FRow W v (m.drop (j + 1))) (hb : BRow W (.slice A1 bs.length C1) bs) => set_ok t v A1 C1 bs (m.drop (j + 1)) W h HT64j.out hb (HRd.out _) (by rw [HSdj.out]; exact HRd.out _))
          rw [HSdj.out] at HSb
          go_wp2_with fail
          refine (HSa.out _ _ ((HL5.out.below HBl.out).below HB6.out) (HD3.out.below HB6.out)).mono ?_
          rintro e w7 ⟨hb7, v7, rfl, hf7⟩
          have HB7 := Lib.hid (HB6.out.trans (hb7.mono HB6.out.size))
          have HR7 := Lib.hid (hf7.row HT64.out (fb_mem_allB HMl.out))
          have HAk := Lib.hid (alike_calls v7 (.slice (some ⟨bb, off, none⟩) m.length c0) m m w7 HR7.out ((HL5.out.below HBl.out).below HB7.out) (by omega) (fun i hi => by have := HLn.out i hi; omega))
          rw [decide_eq_true (rfl : m = m)] at HAk
          have y0 := (hb7.cell (p := ⟨wr.heap.size, 0, none⟩) hsx).trans x0
          have y1 := (hb7.cell (p := ⟨wr.heap.size, 1, none⟩) hsx).trans x1
          have hsy := Nat.lt_of_lt_of_le hsx hb7.size
          clear hb7 hf7 HSa x0 x1 HB6 HX6 hsx
          go_wp2_with fail
          refine HAk.out.mono ?_
          rintro e w8 ⟨rfl, hb8⟩
          have HB8 := Lib.hid (HB7.out.trans (hb8.mono HB7.out.size))
          have x0 := (hb8.cell (p := ⟨wr.heap.size, 0, none⟩) hsy).trans y0
          have x1 := (hb8.cell (p := ⟨wr.heap.size, 1, none⟩) hsy).trans y1
          clear hb8 HAk HR7 HB7 y0 y1 hsy
          go_wp2_with fail
          refine (HSb.out _ _ (HFr.out.below HB8.out) (HD3.out.below HB8.out)).mono ?_
          rintro e w9 ⟨hb9, v9, rfl, hf9⟩
          have HB9 := Lib.hid (HB8.out.trans (hb9.mono HB8.out.size))
          have HR9 := Lib.hid (hf9.row (fun q hq => HT64.out q (List.mem_of_mem_drop hq)) (fb_mem_allB fun q hq => HMl.out q (List.mem_of_mem_drop hq)))
          clear hb9 hf9 HSb HB8 HFr x0 x1
          go_wp2_with fail
          go_roundw
          case rel =>
            have hfin : ∃ k' : Nat, k' ≤ m.length ∧ Value.int .i64 ((k : Int) + 1) = .int .i64 k' ∧ FRow w9 v9 (m.drop (m.length - k')) ∧ Below ws.heap.size ws w9 := ⟨k + 1, by omega, by go_num, by rw [E2.out]; exact HR9.out, HBl.out.trans (HB9.out.mono HBl.out.size)⟩
            first | exact hfin | ((repeat apply Exists.intro); exact ⟨hfin, rfl⟩)
          case measure => simp [intOf]; omega
      · obtain rfl : k = m.length := by omega
        rw [Nat.sub_self, List.drop_zero] at HFr
        have HG9 := Lib.hid (get_none (-(tag : Int)) (.slice a0 m.length c0) m wr (HL5.out.below HBl.out) (fun i hi => by have := HLn.out i hi; omega) HGn.out)
        clear hfr hbel hlt u1 u0
        go_wp2_with fail
        refine HG9.out.mono ?_
        rintro e w10 ⟨hb10, rfl⟩
        have HB10 := Lib.hid (HBl.out.trans (hb10.mono HBl.out.size))
        have HAk := Lib.hid (alike_calls u17 (.slice a0 m.length c0) m m w10 (HFr.out.below hb10) (HL5.out.below HB10.out) (by omega) (fun i hi => by have := HLn.out i hi; omega))
        rw [decide_eq_true (rfl : m = m)] at HAk
        clear hb10 HG9 HFr
        go_wp2_with fail
        refine HAk.out.mono ?_
        rintro e w11 ⟨rfl, hb11⟩
        have HB11 := Lib.hid (HW5.out.trans ((HB10.out.trans (hb11.mono HB10.out.size)).mono HW5.out.size))
        clear hb11
        go_wp2
        go_ret
        exact ⟨rfl, HB11.out⟩
end Go.Proofs.Ytabbmoonikbnlaa
