/-
  CONTRACT of the document's own Join of layer 4.
-/
import Derived.Test.YtdaalpiiagmdfaaNameRefD
import Derived.Lib.AppendStr
import Derived.Lib.BufferRead
import Derived.Laws.IdiomStrings
namespace Go.Proofs.Ytdaalpiiagmdfaa
open Go.RowKit Go.Shelf

theorem info_u8 : (Try.prog.info? 5).map (fun i => (i.zero, i.size, i.bytes)) = some (some (.int .u8 0), 1, 1) := by kernel_rfl
/-- A call's own row of bytes. -/
abbrev OwnU (w : World) (base : Nat) (v : Value) (l : List UInt8) : Prop := w.ownsRow base 5 1 v l.length (Lib.strCells ⟨l.toArray⟩)
theorem cells_app (a b : List UInt8) : Lib.strCells ⟨(a ++ b).toArray⟩ = Lib.strCells ⟨a.toArray⟩ ++ Lib.strCells ⟨b.toArray⟩ := by simp [Lib.strCells]
theorem ownU_shape {w : World} {base : Nat} {v : Value} {l : List UInt8} (h : OwnU w base v l) : ∃ a c, v = .slice a l.length c := by
  obtain ⟨hlen, ⟨rfl, hn⟩ | ⟨g, cap, cur, rfl, _⟩⟩ := h
  · exact ⟨none, 0, by rw [hn]⟩
  · exact ⟨_, _, rfl⟩
theorem ownU_text {w : World} {base : Nat} {v : Value} {l : List UInt8} (h : OwnU w base v l) : (convert 52 9 v).run Try.prog w = .ok (.string ⟨l.toArray⟩) w := by
  have hcells := fun g => h.cells (g := g)
  obtain ⟨hlen, ⟨rfl, hn⟩ | ⟨g, cap, cur, rfl, h1, h2, h3, h4, h5, h6⟩⟩ := h
  · have : l = [] := List.eq_nil_of_length_eq_zero hn
    subst this
    exact Lib.run_convert_nil_bytes w 52 9 5 0 Try.underlying52 Try.underlying5 Try.underlying9
  · refine run_convert_bytes_back w 52 9 5 ⟨g, 0, none⟩ cap l Try.underlying52 Try.underlying5 Try.underlying9 (fun j hj => ?_)
    refine hcells g rfl j _ ?_
    simp [Lib.strCells, hj]

theorem ownU_below {w w1 : World} {base : Nat} {v : Value} {l : List UInt8} (h : OwnU w base v l) (hb : Below w.heap.size w w1) : OwnU w1 base v l :=
  h.kept (row := none) ⟨hb.os, hb.tape, hb.output, hb.size, fun k hk _ => hb.block k hk⟩ (by cases hv : v.ownBlock <;> simp)
theorem one46 : ∀ u ∈ [Value.int .u8 46], u.oneCell' = true := by intro u hu; rw [List.mem_singleton.1 hu]; rfl

/-! The texts. -/
theorem part_nodot {p : List UInt8} (h : partOk p = true) : ∀ c ∈ p, c ≠ 46 := by
  intro c hc
  obtain ⟨j, hj, rfl⟩ := List.getElem_of_mem hc
  have h2 := (((partOk_iff p).1 h).2 j hj).2
  rw [List.getD_eq_getElem?_getD, List.getElem?_eq_getElem hj] at h2
  intro e
  simp only [Option.getD_some, e] at h2
  exact absurd h2 (by decide)
theorem glued_snoc (O : List (List UInt8)) (p : List UInt8) : glued (O ++ [p]) = if O = [] then p else glued O ++ 46 :: p := by
  by_cases hO : O = []
  · rw [if_pos hO, hO, glued_joinP]; rfl
  · rw [if_neg hO, glued_joinP, glued_joinP, joinP_app O [p] hO (by simp)]; rfl
theorem glued_app_le (A T : List (List UInt8)) : (glued A).length ≤ (glued (A ++ T)).length ∧ (glued T).length ≤ (glued (A ++ T)).length := by
  by_cases hA : A = []
  · subst hA; simp [glued_joinP, joinP]
  · by_cases hT : T = []
    · subst hT; simp [glued_joinP, joinP]
    · rw [glued_joinP, glued_joinP, glued_joinP, joinP_app A T hA hT]; simp; omega
theorem glued_part_le {l : List (List UInt8)} {k : Nat} (hk : k < l.length) : l[k].length ≤ (glued l).length := by
  have h1 := (glued_app_le (l.take k) (l.drop k)).2
  rw [List.take_append_drop, List.drop_eq_getElem_cons hk] at h1
  have h2 := (glued_app_le [l[k]] (l.drop (k + 1))).1
  have h3 : glued [l[k]] = l[k] := by rw [glued_joinP]; rfl
  rw [h3] at h2
  exact Nat.le_trans h2 h1
theorem glued_take_le (l : List (List UInt8)) (k : Nat) : (glued (l.take k)).length ≤ (glued l).length := by
  have h1 := (glued_app_le (l.take k) (l.drop k)).1
  rwa [List.take_append_drop] at h1
theorem right_short {s : List UInt8} (h : 32 < s.length) : rightN s = false := by
  unfold rightN; rw [decide_eq_false (show ¬ s.length ≤ 32 by omega)]; simp
theorem joinOk_long {l : List (List UInt8)} (h : 32 < (glued l).length) : joinOk l = false := by
  unfold joinOk; rw [right_short h]; rfl
theorem parts_glued : ∀ l : List (List UInt8), l ≠ [] → partsL (glued l) = l.flatMap partsL
  | [], h => absurd rfl h
  | [p], _ => by rw [glued_joinP]; simp [joinP]
  | p :: q :: ps, _ => by
    have ih := parts_glued (q :: ps) (by simp)
    rw [glued_joinP] at ih
    rw [glued_joinP, joinP_cons p (q :: ps) (by simp), partsL_app, ih]
    rfl
theorem flat_len : ∀ l : List (List UInt8), l.length ≤ (l.flatMap partsL).length ∧ ((l.flatMap partsL).length = l.length → ∀ p ∈ l, (partsL p).length = 1)
  | [] => ⟨by simp, by simp⟩
  | p :: ps => by
    have ih := flat_len ps
    have hp : 0 < (partsL p).length := List.length_pos_iff.2 (partsL_ne p)
    rw [List.flatMap_cons, List.length_append, List.length_cons]
    refine ⟨by omega, fun h q hq => ?_⟩
    rcases List.mem_cons.1 hq with rfl | hq
    · omega
    · exact ih.2 (by omega) q hq
theorem joinOk_part {l : List (List UInt8)} (h : joinOk l = true) : ∀ p ∈ l, partOk p = true := by
  intro p hp
  have hne : l ≠ [] := by intro e; rw [e] at hp; simp at hp
  unfold joinOk at h
  rw [Bool.and_eq_true] at h
  obtain ⟨hr, hc⟩ := h
  have hc := of_decide_eq_true hc
  have hn := count_parts (glued l)
  rw [parts_glued l hne] at hn
  have h1 := (flat_len l).2 (by have := List.length_pos_iff.2 hne; omega) p hp
  have h2 := count_parts p
  have h3 : p.count 46 = 0 := by omega
  have h4 : partsL p = [p] := partsL_none (fun c hc e => by subst e; exact absurd (List.count_pos_iff.2 hc) (by omega))
  have h5 : (partsL (glued l)).all partOk = true := by
    unfold rightN at hr
    simp only [Bool.and_eq_true] at hr
    exact hr.2.2.2
  rw [parts_glued l hne] at h5
  exact List.all_eq_true.1 h5 p (List.mem_flatMap.2 ⟨p, hp, by rw [h4]; simp⟩)
theorem joinOk_bad {l : List (List UInt8)} {k : Nat} (hk : k < l.length) (h : partOk l[k] = false) : joinOk l = false := by
  rw [Bool.eq_false_iff]
  intro hj
  rw [joinOk_part hj _ (List.getElem_mem hk)] at h
  cases h
theorem joinOk_all {l : List (List UInt8)} (h : ∀ p ∈ l, partOk p = true) : joinOk l = rightN (glued l) := by
  by_cases hl : l = []
  · subst hl; rfl
  · unfold joinOk
    have h1 : l.flatMap partsL = l := by
      have : ∀ m : List (List UInt8), (∀ p ∈ m, partOk p = true) → m.flatMap partsL = m := by
        intro m
        induction m with
        | nil => intro _; rfl
        | cons p ps ih =>
          intro hm
          rw [List.flatMap_cons, ih (fun q hq => hm q (by simp [hq])), partsL_none (part_nodot (hm p (by simp)))]
          rfl
      exact this l h
    have hn := count_parts (glued l)
    rw [parts_glued l hl, h1] at hn
    rw [decide_eq_true (by omega), Bool.and_true]

set_option maxRecDepth 100000 in
set_option maxHeartbeats 2000000 in
theorem rjoin_calls (v : Value) (l : List (List UInt8)) (w : World) (hrow : TRow w v l) (hlen : l.length ≤ 1000000) (hpl : ∀ p ∈ l, p.length ≤ 1000000) :
    Calls Try.prog 30 #[v] w fun e w' => e = .returned (.tuple #[str (joinV l), .int .i64 (joinE l)]) ∧ Below w.heap.size w w' := by
  obtain ⟨i0, hi0, hz0, hz1, hz2⟩ := info_parts info_u8
  have HI := Lib.hid hi0
  have HZ0 := Lib.hid hz0
  have HZ1 := Lib.hid hz1
  have HZ2 := Lib.hid hz2
  obtain ⟨a, c, rfl, hrw⟩ := trow_shape hrow
  have HRow := Lib.hid hrw
  have HPl := Lib.hid hpl
  have HBad := Lib.hid (fun (h : joinOk l = false) => show joinV l = [] ∧ joinE l = 40 from ⟨by unfold joinV; rw [h]; rfl, by unfold joinE; rw [h]; rfl⟩)
  clear hi0 hz0 hz1 hz2 hrw hpl hrow
  simp only [str] at *
  go_enter Try.func30, Try.ntmps30
  go_wp2
  go_loopw [4, 5] (fun ov iv wr => ∃ k : Nat, k ≤ l.length ∧ iv = .int .i64 (k : Int) ∧ (∀ p ∈ l.take k, partOk p = true) ∧ (glued (l.take k)).length ≤ 70 ∧ OwnU wr w.heap.size ov (glued (l.take k)) ∧ Below w.heap.size w wr) (fun _ iv _ => l.length - (intOf iv).toNat)
  case atStart => exact ⟨0, by omega, rfl, by simp, by rw [List.take_zero]; decide, World.ownsRow_nil _ _ _ _, Below.refl _ _⟩
  case round =>
    obtain ⟨k, hk, rfl, hall, hsh, hown, hbel⟩ := hrel
    have HA := Lib.hid hall
    have HO := Lib.hid hown
    have HB := Lib.hid hbel
    have hsize := hbel.size
    obtain ⟨oa, oc, rfl⟩ := ownU_shape hown
    have HSn := Lib.hid (fun (h : k < l.length) => List.take_succ_eq_append_getElem h)
    have HGs := Lib.hid (glued_snoc (l.take k))
    have HTk := Lib.hid (glued_take_le l k)
    have HNil := Lib.hid (show k = 0 → glued (l.take k) = [] from fun e => by rw [e]; rfl)
    have HE := Lib.hid (show k = l.length → glued (l.take k) = glued l from fun e => by rw [e, List.take_length])
    clear hall hown hbel
    generalize glued (l.take k) = O at *
    by_cases hkl : k < l.length
    · obtain ⟨hc, b, o, rfl, hb, hcell⟩ := HRow.out (by omega)
      have hcl : wr.cell? ⟨b, o + k, none⟩ = some (.string ⟨l[k].toArray⟩) := (HB.out.cell (p := ⟨b, o + k, none⟩) hb).trans (hcell k l[k] (List.getElem?_eq_getElem hkl))
      have HP := Lib.hid (fun W => rpart_calls l[k] (HPl.out _ (List.getElem_mem hkl)) W)
      have HLe := Lib.hid (glued_part_le hkl)
      have HB0 := Lib.hid (joinOk_bad hkl)
      have HSn2 := Lib.hid (HSn.out hkl)
      have hsz : (⟨l[k].toArray⟩ : ByteArray).size = l[k].length := by simp [ByteArray.size]
      have hlt : (k : Int) < (l.length : Int) := by omega
      have HCl := Lib.hid (fun (W : World) (h : Below w.heap.size w W) => show W.cell? ⟨b, o + k, none⟩ = some (.string ⟨l[k].toArray⟩) from (h.cell (p := ⟨b, o + k, none⟩) hb).trans (hcell k l[k] (List.getElem?_eq_getElem hkl)))
      clear hcell hb hk
      generalize l[k] = p at *
      obtain ⟨r, hr⟩ : ∃ r, partOk p = r := ⟨_, rfl⟩
      rw [hr] at HP HB0
      have HR := Lib.hid hr
      clear hr
      cases r with
      | false =>
        go_wp2_with fail
        refine (HP.out _).mono ?_
        rintro e w' ⟨rfl, rfl⟩
        go_wp2
        go_ret2
        exact ⟨by rw [(HBad.out (HB0.out (by first | trivial | simp))).1, (HBad.out (HB0.out (by first | trivial | simp))).2]; rfl, HB.out⟩
      | true =>
        by_cases hO : 32 < O.length
        · have hO' : (32 : Int) < (O.length : Int) := by omega
          have HBd := Lib.hid (HBad.out (joinOk_long (Nat.lt_of_lt_of_le hO HTk.out)))
          clear hO
          go_wp2_with fail
          refine (HP.out _).mono ?_
          rintro e w' ⟨rfl, rfl⟩
          go_wp2
          go_ret2
          exact ⟨by rw [HBd.out.1, HBd.out.2]; rfl, HB.out⟩
        · have hO' : ¬ (32 : Int) < (O.length : Int) := by omega
          by_cases hp : 32 < p.length
          · have hp' : (32 : Int) < (p.length : Int) := by omega
            have HBd := Lib.hid (HBad.out (joinOk_long (Nat.lt_of_lt_of_le hp HLe.out)))
            clear hp hO
            go_wp2_with fail
            refine (HP.out _).mono ?_
            rintro e w' ⟨rfl, rfl⟩
            go_wp2
            go_ret2
            exact ⟨by rw [HBd.out.1, HBd.out.2]; rfl, HB.out⟩
          · have hp' : ¬ (32 : Int) < (p.length : Int) := by omega
            have HPO := Lib.hid (show ∀ q ∈ l.take (k + 1), partOk q = true from fun q hq => by
              rw [HSn2.out] at hq
              rcases List.mem_append.1 hq with h | h
              · exact HA.out q h
              · rw [List.mem_singleton.1 h]; exact HR.out)
            by_cases hk0 : k = 0
            · have hkp : ¬ (0 : Int) < (k : Int) := by omega
              have HG := Lib.hid (show glued (l.take (k + 1)) = O ++ p by rw [HSn2.out, HGs.out, if_pos (by rw [hk0]; simp), HNil.out hk0]; rfl)
              clear hk0
              go_wp2_with fail
              refine (HP.out _).mono ?_
              rintro e w' ⟨rfl, rfl⟩
              go_wp2_with (at_builtin; refine Lib.wpList_append_own_string _ rfl _ _ 52 9 rfl w.heap.size 5 i0 Try.underlying52 Try.underlying9 HI.out HZ0.out HZ1.out HZ2.out _ _ _ rfl HO.out ⟨p.toArray⟩ rfl (by unfold maxLen; rw [hsz];  omega) (by rw [hsz];  omega) HB.out.size ?_; intro v3 w3 hown3 hgr3 _; have HO3 := Lib.hid (show OwnU w3 w.heap.size v3 (O ++ p) by unfold OwnU; rw [List.length_append, cells_app]; rw [hsz] at hown3; exact hown3); have HB3 := Lib.hid (HB.out.grown hgr3 HB.out.size (fun k hk => (HO.out.lt k hk).1)); clear hown3 hgr3)
              go_roundw
              case rel => exact ⟨k + 1, by omega, by go_num, HPO.out, by rw [HG.out, List.length_append]; omega, by rw [HG.out]; exact HO3.out, HB3.out⟩
              case measure => simp [intOf]; omega
            · have hkp : (0 : Int) < (k : Int) := by omega
              have HG := Lib.hid (show glued (l.take (k + 1)) = (O ++ [46]) ++ p by rw [HSn2.out, HGs.out, if_neg (by intro e; rcases List.take_eq_nil_iff.1 e with h | h; exact hk0 h; rw [h] at hkl; simp at hkl), List.append_assoc]; rfl)
              clear hk0
              go_wp2_with fail
              refine (HP.out _).mono ?_
              rintro e w' ⟨rfl, rfl⟩
              go_wp2_with (first | (at_builtin; refine wpList_append_own _ rfl _ _ 52 rfl w.heap.size 5 i0 (.int .u8 0) 1 1 Try.underlying52 HI.out HZ0.out HZ1.out HZ2.out rfl (by decide) _ _ _ rfl (HO.out.alloc _) ⟨wr.heap.size, 0, none⟩ 1 1 [.int .u8 46] rfl rfl (cell_one_new _ _ _) one46 (by unfold maxLen; omega) (by omega) (by simp; omega) ?_; intro v2 w2 hown2 hgr2 _; have HO2 := Lib.hid (show OwnU w2 w.heap.size v2 (O ++ [46]) by unfold OwnU; rw [List.length_append, cells_app]; exact hown2); have HB2 := Lib.hid ((HB.out.alloc HB.out.size _).grown hgr2 (by simp; omega) (fun k hk => (HO.out.lt k hk).1)); have hcl2 := HCl.out _ HB2.out; clear hown2 hgr2) | (at_builtin; refine Lib.wpList_append_own_string _ rfl _ _ 52 9 rfl w.heap.size 5 i0 Try.underlying52 Try.underlying9 HI.out HZ0.out HZ1.out HZ2.out _ _ _ rfl HO2.out ⟨p.toArray⟩ rfl (by unfold maxLen; rw [hsz, List.length_append]; simp only [List.length_cons, List.length_nil]; omega) (by rw [hsz, List.length_append]; simp only [List.length_cons, List.length_nil]; omega) HB2.out.size ?_; intro v3 w3 hown3 hgr3 _; have HO3 := Lib.hid (show OwnU w3 w.heap.size v3 ((O ++ [46]) ++ p) by unfold OwnU; rw [List.length_append, cells_app]; rw [hsz] at hown3; exact hown3); have HB3 := Lib.hid (HB2.out.grown hgr3 HB2.out.size (fun k hk => (HO2.out.lt k hk).1)); clear hown3 hgr3))
              go_roundw
              case rel => exact ⟨k + 1, by omega, by go_num, HPO.out, by rw [HG.out, List.length_append, List.length_append]; simp; omega, by rw [HG.out]; exact HO3.out, HB3.out⟩
              case measure => simp [intOf]; omega
    · obtain rfl : k = l.length := by omega
      have hnl : ¬ (l.length : Int) < (l.length : Int) := by omega
      have HOk := Lib.hid (show joinOk l = rightN (glued l) from joinOk_all (fun p hp => HA.out p (by rwa [List.take_length])))
      obtain rfl := HE.out rfl
      have hconv := ownU_text HO.out
      have HR := Lib.hid (fun W : World => rright_calls (glued l) (by omega) W)
      have HV := Lib.hid (fun (h : joinOk l = true) => show joinV l = glued l ∧ joinE l = 0 from ⟨by unfold joinV; rw [h]; rfl, by unfold joinE; rw [h]; rfl⟩)
      obtain ⟨r, hr⟩ : ∃ r, rightN (glued l) = r := ⟨_, rfl⟩
      rw [hr] at HR HOk
      clear hr
      generalize glued l = g at *
      cases r with
      | false =>
        go_wp2_with fail
        refine (HR.out _).mono ?_
        rintro e w1 ⟨rfl, hb1⟩
        have HB1 := Lib.hid (HB.out.trans (hb1.mono HB.out.size))
        clear hb1
        go_wp2
        go_ret2
        exact ⟨by rw [(HBad.out HOk.out).1, (HBad.out HOk.out).2]; rfl, HB1.out⟩
      | true =>
        go_wp2_with fail
        refine (HR.out _).mono ?_
        rintro e w1 ⟨rfl, hb1⟩
        have hconv2 := ownU_text (ownU_below HO.out hb1)
        have HB1 := Lib.hid (HB.out.trans (hb1.mono HB.out.size))
        clear hb1
        go_wp2
        go_ret2
        exact ⟨by rw [(HV.out HOk.out).1, (HV.out HOk.out).2]; rfl, HB1.out⟩
end Go.Proofs.Ytdaalpiiagmdfaa
