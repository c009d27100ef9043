/-
  CONTRACTS of the document's own Compare and Under of layer 4.
-/
import Derived.Test.YtdaalpiiagmdfaaNameRefC
namespace Go.Proofs.Ytdaalpiiagmdfaa
open Go.RowKit Go.Shelf

set_option maxRecDepth 100000 in
set_option maxHeartbeats 2000000 in
theorem rcompare_calls (s t : List UInt8) (hs : s.length ≤ 1000000) (ht : t.length ≤ 1000000) (w : World) :
    Calls Try.prog 31 #[.string ⟨s.toArray⟩, .string ⟨t.toArray⟩] w fun e w' => e = .returned (.tuple #[.int .i64 (compareN s t), .int .i64 (compareE s t)]) ∧ Below w.heap.size w w' := by
  have HA := Lib.hid (fun W => rright_calls s hs W)
  have HB := Lib.hid (fun W => rright_calls t ht W)
  have HO := Lib.hid (fun W => rorder_calls s t hs ht W)
  unfold compareN compareE
  cases ha : rightN s with
  | false =>
    rw [ha] at HA
    simp only [Bool.false_and, Bool.false_eq_true, if_false]
    go_enter Try.func31, Try.ntmps31
    go_wp2_with fail
    refine (HA.out _).mono ?_
    rintro e w1 ⟨rfl, hb1⟩
    have HB1 := Lib.hid hb1
    clear hb1
    go_wp2
    go_ret2
    exact ⟨rfl, HB1.out⟩
  | true =>
    rw [ha] at HA
    cases hb : rightN t with
    | false =>
      rw [hb] at HB
      simp only [Bool.and_false, Bool.false_eq_true, if_false]
      go_enter Try.func31, Try.ntmps31
      go_wp2_with fail
      refine (HA.out _).mono ?_
      rintro e w1 ⟨rfl, hb1⟩
      have HB1 := Lib.hid hb1
      clear hb1
      go_wp2_with fail
      refine (HB.out _).mono ?_
      rintro e w2 ⟨rfl, hb2⟩
      have HB2 := Lib.hid (HB1.out.trans (hb2.mono HB1.out.size))
      clear hb2
      go_wp2
      go_ret2
      exact ⟨rfl, HB2.out⟩
    | true =>
      rw [orderN_lex s t hb]
      rw [hb] at HB
      simp only [Bool.and_true, if_true]
      go_enter Try.func31, Try.ntmps31
      go_wp2_with fail
      refine (HA.out _).mono ?_
      rintro e w1 ⟨rfl, hb1⟩
      have HB1 := Lib.hid hb1
      clear hb1
      go_wp2_with fail
      refine (HB.out _).mono ?_
      rintro e w2 ⟨rfl, hb2⟩
      have HB2 := Lib.hid (HB1.out.trans (hb2.mono HB1.out.size))
      clear hb2
      go_wp2_with fail
      refine (HO.out _).mono ?_
      rintro e w3 ⟨rfl, hb3⟩
      have HB3 := Lib.hid (HB2.out.trans (hb3.mono HB2.out.size))
      clear hb3
      go_wp2
      go_ret2
      exact ⟨rfl, HB3.out⟩

/-! Under. -/
theorem pre_at {k l : List (List UInt8)} (hle : l.length ≤ k.length) : l <+: k ↔ ∀ i, i < l.length → k[i]? = l[i]? := by
  constructor
  · rintro ⟨t, rfl⟩ i hi
    rw [List.getElem?_append_left hi]
  · intro h
    refine ⟨k.drop l.length, ?_⟩
    have : k.take l.length = l := by
      refine List.ext_getElem? fun i => ?_
      by_cases hi : i < l.length
      · rw [List.getElem?_take, if_pos hi]; exact h i hi
      · rw [List.getElem?_take, if_neg hi, List.getElem?_eq_none (by omega)]
    conv => lhs; lhs; rw [← this]
    exact List.take_append_drop _ _

set_option maxRecDepth 100000 in
set_option maxHeartbeats 4000000 in
theorem runder_tail (s t : List UInt8) (hs : s.length ≤ 1000000) (ht : t.length ≤ 1000000) (ha : rightN s = true) (hb : rightN t = true) (w : World) :
    Calls Try.prog 33 #[.string ⟨s.toArray⟩, .string ⟨t.toArray⟩] w fun e w' => e = .returned (.bool (undN s t)) ∧ Below w.heap.size w w' := by
  have HA := Lib.hid (fun W => by have h := rright_calls s hs W; rw [ha] at h; exact h)
  have HB := Lib.hid (fun W => by have h := rright_calls t ht W; rw [hb] at h; exact h)
  have HC1 := Lib.hid (fun W => rcut_calls s hs W)
  have HC2 := Lib.hid (fun W => rcut_calls t ht W)
  have HN1 := Lib.hid (partsL_ne s)
  have HU := Lib.hid (undN_iff s t)
  obtain ⟨R, hR⟩ : ∃ R, undN s t = R := ⟨_, rfl⟩
  rw [hR] at HU ⊢
  clear hR ha hb
  go_enter Try.func33, Try.ntmps33
  go_wp2_with fail
  refine (HA.out _).mono ?_
  rintro e u1 ⟨rfl, hu1⟩
  go_wp2_with fail
  refine (HB.out _).mono ?_
  rintro e u2 ⟨rfl, hu2⟩
  have HBu := Lib.hid (hu1.trans (hu2.mono hu1.size))
  clear hu1 hu2
  go_wp2_with fail
  refine (HC1.out _).mono ?_
  rintro e w1 ⟨v1, rfl, hown1, hb1⟩
  obtain ⟨g, cap, rfl, hg, hcap, hmax, -⟩ := owns_some hown1 HN1.out
  go_wp2_with fail
  refine (HC2.out _).mono ?_
  rintro e w2 ⟨v2, rfl, hown2, hb2⟩
  have HB2 := Lib.hid (HBu.out.trans ((hb1.trans (hb2.mono hb1.size)).mono HBu.out.size))
  obtain ⟨a, c, hv, hl⟩ := trow_shape (trow_own (ownS_below hown1 hb2))
  simp only [Value.slice.injEq] at hv
  obtain ⟨rfl, -, rfl⟩ := hv
  obtain ⟨a', c', rfl, hm⟩ := trow_shape (trow_own hown2)
  have HL := Lib.hid hl
  have HM := Lib.hid hm
  have hlk := partsL_length s
  have hll := partsL_length t
  clear hl hm hown1 hown2 hb1 hb2 hg hcap hmax
  generalize partsL s = K at *
  generalize partsL t = L at *
  by_cases hkl : K.length < L.length
  · have e1 : (K.length : Int) < (L.length : Int) := by omega
    have HF := Lib.hid (show R = false by
      cases R with
      | false => rfl
      | true =>
        have := (HU.out.1 rfl).length_le
        omega)
    clear hkl
    go_wp2
    go_ret
    exact ⟨by rw [HF.out]; rfl, HB2.out⟩
  · have e1 : ¬ (K.length : Int) < (L.length : Int) := by omega
    have HP := Lib.hid (pre_at (k := K) (l := L) (by omega))
    have HKL := Lib.hid (show L.length ≤ K.length by omega)
    clear hkl
    go_wp2
    go_loopw [7] (fun iv wr => ∃ i : Nat, i ≤ L.length ∧ iv = .int .i64 (i : Int) ∧ (∀ j, j < i → K[j]? = L[j]?) ∧ ∃ n, wr = w2.drewN n) (fun iv _ => L.length - (intOf iv).toNat)
    case atStart => exact ⟨0, by omega, rfl, fun j hj => absurd hj (Nat.not_lt_zero _), 0, rfl⟩
    case round =>
      obtain ⟨i, hil, rfl, hall, nd, rfl⟩ := hrel
      have HAl := Lib.hid hall
      clear hall
      by_cases h2 : i < L.length
      · have h1 : i < K.length := Nat.lt_of_lt_of_le h2 HKL.out
        obtain ⟨hc, b, o, hb, _, hcell⟩ := HL.out (by omega)
        simp only [Option.some.injEq, Addr.mk.injEq] at hb
        obtain ⟨rfl, rfl, -⟩ := hb
        obtain ⟨hc', b', o', rfl, _, hcell'⟩ := HM.out (by omega)
        have c1 := hcell i K[i] (List.getElem?_eq_getElem h1)
        have c2 := hcell' i L[i] (List.getElem?_eq_getElem h2)
        rw [Nat.zero_add] at c1
        have HX := Lib.hid (And.intro (List.getElem?_eq_getElem h1) (List.getElem?_eq_getElem h2))
        have h1' : (i : Int) < (K.length : Int) := by omega
        have h2' : (i : Int) < (L.length : Int) := by omega
        clear hcell hcell'
        generalize K[i] = x at *
        generalize L[i] = y at *
        by_cases hxy : x = y
        · subst hxy
          have q1 : (x == x) = true := by simp
          have q2 : (x != x) = false := by simp
          have HN := Lib.hid (show ∀ j, j < i + 1 → K[j]? = L[j]? from fun j hj => by
            by_cases e : j = i
            · subst e; rw [HX.out.1, HX.out.2]
            · exact HAl.out j (by omega))
          go_wp2
          go_quiet (fail)
          rename_i nq
          go_wp2
          go_roundw
          case rel => exact ⟨i + 1, by omega, by go_num, HN.out, nd + nq, by simp [World.drewN]⟩
          case measure => simp [intOf]; omega
        · have q1 : (x == y) = false := beq_eq_false_iff_ne.2 hxy
          have q2 : (x != y) = true := bne_iff_ne.2 hxy
          have HF := Lib.hid (show R = false by
            cases R with
            | false => rfl
            | true =>
              have h := HP.out.1 (HU.out.1 rfl) i h2
              rw [HX.out.1, HX.out.2] at h
              exact absurd (Option.some.inj h) hxy)
          clear hxy
          go_wp2
          go_quiet (fail)
          rename_i nq
          go_wp2
          go_ret
          exact ⟨by rw [HF.out]; rfl, below_drewN (below_drewN HB2.out nd) nq⟩
      · obtain rfl : i = L.length := by omega
        have HT := Lib.hid (show R = true from HU.out.2 (HP.out.2 HAl.out))
        go_wp2
        go_ret
        exact ⟨by rw [HT.out]; rfl, below_drewN HB2.out nd⟩

set_option maxRecDepth 100000 in
theorem runder_calls (s t : List UInt8) (hs : s.length ≤ 1000000) (ht : t.length ≤ 1000000) (w : World) :
    Calls Try.prog 33 #[.string ⟨s.toArray⟩, .string ⟨t.toArray⟩] w fun e w' => e = .returned (.bool (underN s t)) ∧ Below w.heap.size w w' := by
  have HA := Lib.hid (fun W => rright_calls s hs W)
  have HB := Lib.hid (fun W => rright_calls t ht W)
  unfold underN
  cases ha : rightN s with
  | false =>
    rw [ha] at HA
    simp only [Bool.false_and]
    go_enter Try.func33, Try.ntmps33
    go_wp2_with fail
    refine (HA.out _).mono ?_
    rintro e w1 ⟨rfl, hb1⟩
    have HB1 := Lib.hid hb1
    clear hb1
    go_wp2
    go_ret
    exact ⟨rfl, HB1.out⟩
  | true =>
    cases hb : rightN t with
    | false =>
      rw [ha] at HA
      rw [hb] at HB
      simp only [Bool.false_and, Bool.and_false]
      go_enter Try.func33, Try.ntmps33
      go_wp2_with fail
      refine (HA.out _).mono ?_
      rintro e w1 ⟨rfl, hb1⟩
      have HB1 := Lib.hid hb1
      clear hb1
      go_wp2_with fail
      refine (HB.out _).mono ?_
      rintro e w2 ⟨rfl, hb2⟩
      have HB2 := Lib.hid (HB1.out.trans (hb2.mono HB1.out.size))
      clear hb2
      go_wp2
      go_ret
      exact ⟨rfl, HB2.out⟩
    | true =>
      have h := runder_tail s t hs ht ha hb w
      simpa using h
end Go.Proofs.Ytdaalpiiagmdfaa
