/-
  CONTRACTS of fermatakit.SameTexts and of the document's own Order, Compare and Under of layer 4.
-/
import Derived.Test.YtdaalpiiagmdfaaNameRefB
import Derived.BigQuiet
import Derived.Deep.QuietTactic
import Derived.WalkLawsBesides
namespace Go.Proofs.Ytdaalpiiagmdfaa
open Go.RowKit Go.Shelf

theorem ownS_below {w w1 : World} {base : Nat} {v : Value} {l : List (List UInt8)} (h : OwnS w base v l) (hb : Below w.heap.size w w1) : OwnS w1 base v l :=
  h.kept (row := none) ⟨hb.os, hb.tape, hb.output, hb.size, fun k hk _ => hb.block k hk⟩ (by cases hv : v.ownBlock <;> simp)
theorem trow_shape {w : World} {v : Value} {l : List (List UInt8)} (h : TRow w v l) : ∃ a c, v = .slice a l.length c ∧ (0 < l.length → l.length ≤ c ∧ ∃ b o, a = some ⟨b, o, none⟩ ∧ b < w.heap.size ∧ ∀ i x, l[i]? = some x → w.cell? ⟨b, o + i, none⟩ = some (.string ⟨x.toArray⟩)) := by
  rcases h with ⟨rfl, a, c, rfl⟩ | ⟨b, o, c, rfl, hb, hc, hcell⟩
  · exact ⟨a, c, rfl, fun h => by simp at h⟩
  · exact ⟨_, c, rfl, fun _ => ⟨hc, b, o, rfl, hb, hcell⟩⟩
theorem same_upto {α : Type} {l m : List α} (hlen : l.length = m.length) (h : ∀ i, i < l.length → l[i]? = m[i]?) : l = m := by
  refine List.ext_getElem? fun i => ?_
  by_cases hi : i < l.length
  · exact h i hi
  · rw [List.getElem?_eq_none (by omega), List.getElem?_eq_none (by omega)]

set_option maxRecDepth 100000 in
set_option maxHeartbeats 2000000 in
theorem sameTexts_calls (v v' : Value) (l m : List (List UInt8)) (w : World) (h : TRow w v l) (h' : TRow w v' m) (hlen : l.length ≤ 1000000) :
    Calls Try.prog 23 #[v, v'] w fun e w' => e = .returned (.bool (decide (l = m))) ∧ ∃ n, w' = w.drewN n := by
  obtain ⟨a, c, rfl, hl⟩ := trow_shape h
  obtain ⟨a', c', rfl, hm⟩ := trow_shape h'
  have HL := Lib.hid hl
  have HM := Lib.hid hm
  clear hl hm h h'
  by_cases hne : l.length = m.length
  · have e1 : ((l.length : Int) != (m.length : Int)) = false := by rw [hne]; simp
    have HNe := Lib.hid hne
    clear hne
    obtain ⟨R, hR⟩ : ∃ R, decide (l = m) = R := ⟨_, rfl⟩
    rw [hR]
    have HR := Lib.hid hR
    clear hR
    go_enter Try.func23, Try.ntmps23
    go_wp2
    go_loopw [5] (fun iv wr => ∃ k : Nat, k ≤ l.length ∧ iv = .int .i64 (k : Int) ∧ (∀ i, i < k → l[i]? = m[i]?) ∧ ∃ n, wr = w.drewN n) (fun iv _ => l.length - (intOf iv).toNat)
    case atStart => exact ⟨0, by omega, rfl, fun i hi => absurd hi (Nat.not_lt_zero _), 0, rfl⟩
    case round =>
      obtain ⟨k, hk, rfl, hall, nd, rfl⟩ := hrel
      have HA := Lib.hid hall
      clear hall
      by_cases hlt : k < l.length
      · obtain ⟨hc, b, o, rfl, _, hcell⟩ := HL.out (by omega)
        obtain ⟨hc', b', o', rfl, _, hcell'⟩ := HM.out (by rw [← HNe.out]; omega)
        have hkm : k < m.length := by rw [← HNe.out]; exact hlt
        have c1 := hcell k l[k] (List.getElem?_eq_getElem hlt)
        have c2 := hcell' k m[k] (List.getElem?_eq_getElem hkm)
        have HX := Lib.hid (And.intro (List.getElem?_eq_getElem hlt) (List.getElem?_eq_getElem hkm))
        have hkm' : (k : Int) < (m.length : Int) := by omega
        clear hcell hcell'
        generalize l[k] = x at *
        generalize m[k] = y at *
        by_cases hxy : x = y
        · subst hxy
          have q1 : (x == x) = true := by simp
          have q2 : (x != x) = false := by simp
          have HN := Lib.hid (show ∀ i, i < k + 1 → l[i]? = m[i]? from fun i hi => by
            by_cases e : i = k
            · subst e; rw [HX.out.1, HX.out.2]
            · exact HA.out i (by omega))
          go_wp2
          go_quiet (fail)
          rename_i nq
          go_wp2
          go_roundw
          case rel => exact ⟨k + 1, by omega, by go_num, HN.out, nd + nq, by simp [World.drewN]⟩
          case measure => simp [intOf]; omega
        · have q1 : (x == y) = false := beq_eq_false_iff_ne.2 hxy
          have q2 : (x != y) = true := bne_iff_ne.2 hxy
          have HF := Lib.hid (show R = false by
            rw [← HR.out]
            refine decide_eq_false (fun e => hxy ?_)
            have := HX.out
            rw [e, this.2] at this
            have h2 := this.1
            simp only [Option.some.injEq] at h2
            exact h2.symm)
          clear hxy
          go_wp2
          go_quiet (fail)
          rename_i nq
          go_wp2
          go_ret
          exact ⟨by rw [HF.out]; rfl, nd + nq, by simp [World.drewN, Nat.add_assoc]⟩
      · obtain rfl : k = l.length := by omega
        have HT := Lib.hid (show R = true by rw [← HR.out]; exact decide_eq_true (same_upto HNe.out HA.out))
        go_wp2
        go_ret
        exact ⟨by rw [HT.out]; rfl, nd, rfl⟩
  · have e1 : ((l.length : Int) != (m.length : Int)) = true := by rw [bne_iff_ne]; omega
    rw [decide_eq_false (fun e => hne (by rw [e]))]
    clear hne
    go_enter Try.func23, Try.ntmps23
    go_wp2
    go_ret
    exact ⟨rfl, 0, rfl⟩
/-! The order. -/
/-- What the loop of the document's own Order tells from a place on. -/
theorem lexC_drop {k l : List (List UInt8)} {i : Nat} (hk : i < k.length) (hl : i < l.length) : lexC Lib.compareBytes (k.drop i) (l.drop i) = if Lib.compareBytes k[i] l[i] = 0 then lexC Lib.compareBytes (k.drop (i + 1)) (l.drop (i + 1)) else Lib.compareBytes k[i] l[i] := by
  rw [List.drop_eq_getElem_cons hk, List.drop_eq_getElem_cons hl]
  rfl
theorem less_cmp : ∀ a b : List UInt8, Op.bytesLess a b = decide (Lib.compareBytes a b = -1)
  | [], [] => by decide
  | [], _ :: _ => by simp [Op.bytesLess, Lib.compareBytes]
  | _ :: _, [] => by simp [Op.bytesLess, Lib.compareBytes]
  | x :: a, y :: b => by
    have ih := less_cmp a b
    rw [compareBytes_lex] at ih ⊢
    simp only [Op.bytesLess, ih, lexC, byteC]
    by_cases h1 : x < y
    · simp [h1]
    · by_cases h2 : y < x
      · have h3 : ¬ x = y := fun e => by subst e; exact h1 h2
        simp [h1, h2, h3]
      · have h3 : x = y := by
          rcases Nat.lt_trichotomy x.toNat y.toNat with h | h | h
          · exact absurd h h1
          · exact UInt8.toNat_inj.1 h
          · exact absurd h h2
        subst h3
        simp
theorem cmp_range (a b : List UInt8) : Lib.compareBytes a b = -1 ∨ Lib.compareBytes a b = 0 ∨ Lib.compareBytes a b = 1 := by
  have h := lexC_range byteC_range a b
  rw [← compareBytes_lex] at h
  omega
theorem cmp_zero {a b : List UInt8} : Lib.compareBytes a b = 0 ↔ a = b := ⟨compareBytes_good.eq a b, fun e => by subst e; exact compareBytes_good.refl a⟩

set_option maxRecDepth 100000 in
set_option maxHeartbeats 4000000 in
theorem rorder_calls (s t : List UInt8) (hs : s.length ≤ 1000000) (ht : t.length ≤ 1000000) (w : World) :
    Calls Try.prog 61 #[.string ⟨s.toArray⟩, .string ⟨t.toArray⟩] w fun e w' => e = .returned (.int .i64 (lexC Lib.compareBytes (partsL s) (partsL t))) ∧ Below w.heap.size w w' := by
  have HC1 := Lib.hid (rcut_calls s hs w)
  have HC2 := Lib.hid (fun W => rcut_calls t ht W)
  have HN1 := Lib.hid (partsL_ne s)
  have HN2 := Lib.hid (partsL_ne t)
  obtain ⟨R, hR⟩ : ∃ R, lexC Lib.compareBytes (partsL s) (partsL t) = R := ⟨_, rfl⟩
  rw [hR]
  have HR := Lib.hid hR
  clear hR
  go_enter Try.func61, Try.ntmps61
  go_wp2_with fail
  refine HC1.out.mono ?_
  rintro e w1 ⟨v1, rfl, hown1, hb1⟩
  obtain ⟨g, cap, rfl, hg, hcap, hmax, -⟩ := owns_some hown1 HN1.out
  go_wp2_with fail
  refine (HC2.out _).mono ?_
  rintro e w2 ⟨v2, rfl, hown2, hb2⟩
  have HB2 := Lib.hid (hb1.trans (hb2.mono hb1.size))
  obtain ⟨a, c, hv, hl⟩ := trow_shape (trow_own (ownS_below hown1 hb2))
  simp only [Value.slice.injEq] at hv
  obtain ⟨rfl, -, rfl⟩ := hv
  obtain ⟨a', c', rfl, hm⟩ := trow_shape (trow_own hown2)
  have HL := Lib.hid hl
  have HM := Lib.hid hm
  have hlk := partsL_length s
  have hll := partsL_length t
  clear hl hm hown1 hown2 hb1 hb2 hg hcap hmax
  generalize partsL s = K at *
  generalize partsL t = L at *
  go_wp2
  go_loopw [7] (fun iv wr => ∃ i : Nat, i ≤ K.length ∧ i ≤ L.length ∧ iv = .int .i64 (i : Int) ∧ lexC Lib.compareBytes (K.drop i) (L.drop i) = R ∧ ∃ n, wr = w2.drewN n) (fun iv _ => K.length - (intOf iv).toNat)
  case atStart => exact ⟨0, by omega, by omega, rfl, HR.out, 0, rfl⟩
  case round =>
    obtain ⟨i, hik, hil, rfl, hrest, nd, rfl⟩ := hrel
    have HRe := Lib.hid hrest
    clear hrest
    by_cases h1 : i < K.length
    · by_cases h2 : i < L.length
      · obtain ⟨hc, b, o, hb, _, hcell⟩ := HL.out (by omega)
        simp only [Option.some.injEq, Addr.mk.injEq] at hb
        obtain ⟨rfl, rfl, -⟩ := hb
        obtain ⟨hc', b', o', rfl, _, hcell'⟩ := HM.out (by omega)
        have c1 := hcell i K[i] (List.getElem?_eq_getElem h1)
        have c2 := hcell' i L[i] (List.getElem?_eq_getElem h2)
        rw [Nat.zero_add] at c1
        have HX := Lib.hid (lexC_drop h1 h2)
        have h1' : (i : Int) < (K.length : Int) := by omega
        have h2' : (i : Int) < (L.length : Int) := by omega
        clear hcell hcell'
        generalize K[i] = x at *
        generalize L[i] = y at *
        have hlt := less_cmp x y
        rcases cmp_range x y with hcm | hcm | hcm
        · rw [hcm] at HX hlt
          have HF := Lib.hid (show R = -1 by rw [← HRe.out, HX.out]; rfl)
          have q1 : Op.bytesLess x y = true := hlt
          clear hlt hcm
          go_wp2
          go_quiet (fail)
          rename_i nq
          go_wp2
          go_ret
          exact ⟨by rw [HF.out]; rfl, below_drewN (below_drewN HB2.out nd) nq⟩
        · rw [hcm] at HX hlt
          have HN := Lib.hid (show lexC Lib.compareBytes (K.drop (i + 1)) (L.drop (i + 1)) = R by rw [← HRe.out, HX.out]; rfl)
          have q1 : Op.bytesLess x y = false := hlt
          have q2 : (x == y) = true := by rw [cmp_zero.1 hcm]; simp
          clear hlt hcm
          go_wp2
          go_quiet (fail)
          rename_i nq
          go_wp2
          go_quiet (fail)
          go_wp2
          go_roundw
          case rel => exact ⟨i + 1, by omega, by omega, by go_num, HN.out, by first | exact ⟨_, by rw [World.drewN_drewN, World.drewN_drewN]⟩ | exact ⟨_, by rw [World.drewN_drewN]⟩ | exact ⟨_, rfl⟩⟩
          case measure => simp [intOf]; omega
        · rw [hcm] at HX hlt
          have HF := Lib.hid (show R = 1 by rw [← HRe.out, HX.out]; rfl)
          have q1 : Op.bytesLess x y = false := hlt
          have q2 : (x == y) = false := beq_eq_false_iff_ne.2 (fun e => by rw [cmp_zero.2 e] at hcm; cases hcm)
          clear hlt hcm
          go_wp2
          go_quiet (fail)
          rename_i nq
          go_wp2
          go_quiet (fail)
          go_wp2
          go_ret
          exact ⟨by rw [HF.out]; rfl, by first | exact below_drewN (below_drewN (below_drewN HB2.out _) _) _ | exact below_drewN (below_drewN HB2.out _) _⟩
      · obtain rfl : i = L.length := by omega
        have HF := Lib.hid (show R = 1 by
          rw [← HRe.out, List.drop_of_length_le (Nat.le_refl L.length), List.drop_eq_getElem_cons h1]; rfl)
        have e1 : (L.length : Int) < (K.length : Int) := by omega
        have e2 : ¬ (L.length : Int) < (L.length : Int) := by omega
        have e3 : ¬ (K.length : Int) < (L.length : Int) := by omega
        go_wp2
        go_ret
        exact ⟨by rw [HF.out]; rfl, below_drewN HB2.out nd⟩
    · obtain rfl : i = K.length := by omega
      have e1 : ¬ (K.length : Int) < (K.length : Int) := by omega
      by_cases h2 : K.length < L.length
      · have HF := Lib.hid (show R = -1 by
          rw [← HRe.out, List.drop_of_length_le (Nat.le_refl K.length), List.drop_eq_getElem_cons h2]; rfl)
        have e2 : (K.length : Int) < (L.length : Int) := by omega
        go_wp2
        go_ret
        exact ⟨by rw [HF.out]; rfl, below_drewN HB2.out nd⟩
      · have hkl : L.length = K.length := by omega
        have HF := Lib.hid (show R = 0 by
          rw [← HRe.out, List.drop_of_length_le (Nat.le_refl K.length), List.drop_of_length_le (by omega)]; rfl)
        have e2 : ¬ (K.length : Int) < (L.length : Int) := by omega
        have e3 : ¬ (L.length : Int) < (K.length : Int) := by omega
        clear hkl
        go_wp2
        go_ret
        exact ⟨by rw [HF.out]; rfl, below_drewN HB2.out nd⟩
end Go.Proofs.Ytdaalpiiagmdfaa
