/-
  THE WALK of fermatalaw04.NameTells: it returns true, and writes nothing that was there.
-/
import Derived.Test.YtlbnkacdeghigaaNameFew
import Derived.Test.YtlbnkacdeghigaaNameAwake
import Derived.BigGuard
namespace Go.Proofs.Ytlbnkacdeghigaa
open Go.RowKit Go.Shelf

theorem glued_len : ∀ l : List (List UInt8), (∀ p ∈ l, p.length ≤ 200) → (glued l).length ≤ 201 * l.length
  | [], _ => by decide
  | [p], h => by rw [glued_joinP]; have := h p (by simp); simp [joinP]; omega
  | p :: q :: ps, h => by
    have ih := glued_len (q :: ps) (fun x hx => h x (by simp [hx]))
    have hp := h p (by simp)
    rw [glued_joinP] at ih ⊢
    have e1 : (46 :: joinP (q :: ps)).length = (joinP (q :: ps)).length + 1 := rfl
    have e2 : (p :: q :: ps).length = (q :: ps).length + 1 := rfl
    rw [joinP_cons p (q :: ps) (by simp), List.length_append, e1, e2]
    omega
theorem partsV_len (s : List UInt8) (hs : s.length ≤ 200) : (partsV s).length ≤ 1000000 := by
  unfold partsV
  have := partsL_length s
  split
  · omega
  · simp

set_option maxRecDepth 100000 in
set_option maxHeartbeats 2000000 in
theorem tells_main (s t : List UInt8) (v : Value) (l : List (List UInt8)) (w : World) (h : TRow w v l) (hs : s.length ≤ 200) (ht : t.length ≤ 200) (hf : fewN l = true) (hln : l.length ≤ 40) :
    Calls Try.prog 10 #[str s, str t, v] w fun e w' => e = .returned (.bool true) ∧ Below w.heap.size w w' := by
  have hall : ∀ p ∈ l, p.length ≤ 200 := fun p hp => by
    unfold fewN at hf
    rw [Bool.and_eq_true] at hf
    exact of_decide_eq_true (List.all_eq_true.1 hf.1 p hp)
  have hgl := glued_len l hall
  have F1 := Lib.hid (by have h := few_calls v l w h (fun p hp => by have := hall p hp; unfold maxLen; omega) (by unfold maxLen; omega); rw [hf] at h; exact h)
  have P1 := Lib.hid (fun W => Parts_calls s (by omega) W)
  have P2 := Lib.hid (fun W => rparts_calls s (by omega) W)
  have C1 := Lib.hid (fun v W (h : TRow W v l) => copyTexts_calls v l W h (by omega))
  have J1 := Lib.hid (fun v W (h : TRow W v l) => join_calls v l W h (by omega) (by omega))
  have J2 := Lib.hid (fun v W (h : TRow W v l) => rjoin_calls v l W h (by omega) (fun p hp => by have := hall p hp; omega))
  have D1 := Lib.hid (fun W => compare_calls s t W (by omega) (by omega))
  have D2 := Lib.hid (fun W => rcompare_calls s t (by omega) (by omega) W)
  have R1 := Lib.hid (fun W => right_calls s W (by omega))
  have R2 := Lib.hid (fun W => rright_calls s (by omega) W)
  have U1 := Lib.hid (fun W => Under_calls s t W (by omega) (by omega))
  have U2 := Lib.hid (fun W => runder_calls s t (by omega) (by omega) W)
  have S1 := Lib.hid (fun v v' W (h : TRow W v (partsV s)) (h' : TRow W v' (partsV s)) => by have h := sameTexts_calls v v' (partsV s) (partsV s) W h h' (partsV_len s hs); rw [decide_eq_true rfl] at h; exact h)
  have S2 := Lib.hid (fun v v' W (h : TRow W v l) (h' : TRow W v' l) => by have h := sameTexts_calls v v' l l W h h' (by omega); rw [decide_eq_true rfl] at h; exact h)
  have T0 := Lib.hid h
  have hsz : (⟨s.toArray⟩ : ByteArray).size = s.length := by simp [ByteArray.size]
  have htz : (⟨t.toArray⟩ : ByteArray).size = t.length := by simp [ByteArray.size]
  have e1 : ¬ (200 : Int) < (s.length : Int) := by omega
  have e2 : ¬ (200 : Int) < (t.length : Int) := by omega
  have e3 : ¬ (40 : Int) < (l.length : Int) := by omega
  obtain ⟨a, c, rfl, _⟩ := trow_shape h
  clear h hall hf hgl
  generalize partsV s = PV at *
  generalize partsE s = PE at *
  generalize joinV l = JV at *
  generalize joinE l = JE at *
  generalize compareN s t = CN at *
  generalize compareE s t = CE at *
  generalize rightN s = RN at *
  generalize underN s t = UN at *
  have q1 : (RN == RN) = true := by simp
  have q2 : (PE == PE) = true := by simp
  have q3 : (CN == CN) = true := by simp
  have q4 : (CE == CE) = true := by simp
  have q5 : (JE == JE) = true := by simp
  have q6 : (UN == UN) = true := by simp
  have q7 : ((⟨JV.toArray⟩ : ByteArray).toList == (⟨JV.toArray⟩ : ByteArray).toList) = true := beq_self_eq_true _
  have HB0 := Lib.hid (Below.refl w.heap.size w)
  simp only [str] at *
  go_enter Try.func10, Try.ntmps10
  go_wp2_with fail
  refine F1.out.mono ?_
  rintro e w' ⟨rfl, rfl⟩
  go_wp2_with fail
  refine (P1.out _).mono ?_
  rintro e w1 ⟨a1, c1, rfl, ho, hb⟩
  have HB1 := Lib.hid (HB0.out.trans (hb.mono HB0.out.size))
  have T0 := Lib.hid (T0.out.below hb)
  have T1 := Lib.hid (trow_own ho)
  clear hb
  clear ho
  go_wp2_with fail
  refine (P2.out _).mono ?_
  rintro e w2 ⟨v2, rfl, ho, hb⟩
  have HB2 := Lib.hid (HB1.out.trans (hb.mono HB1.out.size))
  have T0 := Lib.hid (T0.out.below hb)
  have T1 := Lib.hid (T1.out.below hb)
  have T2 := Lib.hid (trow_own ho)
  clear hb
  clear ho
  go_wp2_with fail
  refine (C1.out _ _ T0.out).mono ?_
  rintro e w3 ⟨v3, rfl, ho, hb⟩
  have HB3 := Lib.hid (HB2.out.trans (hb.mono HB2.out.size))
  have T0 := Lib.hid (T0.out.below hb)
  have T1 := Lib.hid (T1.out.below hb)
  have T2 := Lib.hid (T2.out.below hb)
  have T3 := Lib.hid (trow_own ho)
  clear hb
  clear ho
  go_wp2_with fail
  refine (J1.out _ _ T3.out).mono ?_
  rintro e w4 ⟨rfl, hb⟩
  have HB4 := Lib.hid (HB3.out.trans (hb.mono HB3.out.size))
  have T0 := Lib.hid (T0.out.below hb)
  have T1 := Lib.hid (T1.out.below hb)
  have T2 := Lib.hid (T2.out.below hb)
  have T3 := Lib.hid (T3.out.below hb)
  clear hb
  go_wp2_with fail
  refine (J2.out _ _ T0.out).mono ?_
  rintro e w5 ⟨rfl, hb⟩
  have HB5 := Lib.hid (HB4.out.trans (hb.mono HB4.out.size))
  have T0 := Lib.hid (T0.out.below hb)
  have T1 := Lib.hid (T1.out.below hb)
  have T2 := Lib.hid (T2.out.below hb)
  have T3 := Lib.hid (T3.out.below hb)
  clear hb
  go_wp2_with fail
  refine (D1.out _).mono ?_
  rintro e w6 ⟨rfl, hb⟩
  have HB6 := Lib.hid (HB5.out.trans (hb.mono HB5.out.size))
  have T0 := Lib.hid (T0.out.below hb)
  have T1 := Lib.hid (T1.out.below hb)
  have T2 := Lib.hid (T2.out.below hb)
  have T3 := Lib.hid (T3.out.below hb)
  clear hb
  go_wp2_with fail
  refine (D2.out _).mono ?_
  rintro e w7 ⟨rfl, hb⟩
  have HB7 := Lib.hid (HB6.out.trans (hb.mono HB6.out.size))
  have T0 := Lib.hid (T0.out.below hb)
  have T1 := Lib.hid (T1.out.below hb)
  have T2 := Lib.hid (T2.out.below hb)
  have T3 := Lib.hid (T3.out.below hb)
  clear hb
  go_wp2_with fail
  refine (R1.out _).mono ?_
  rintro e w8 ⟨rfl, hb⟩
  have HB8 := Lib.hid (HB7.out.trans (hb.mono HB7.out.size))
  have T0 := Lib.hid (T0.out.below hb)
  have T1 := Lib.hid (T1.out.below hb)
  have T2 := Lib.hid (T2.out.below hb)
  have T3 := Lib.hid (T3.out.below hb)
  clear hb
  go_wp2_with fail
  refine (R2.out _).mono ?_
  rintro e w9 ⟨rfl, hb⟩
  have HB9 := Lib.hid (HB8.out.trans (hb.mono HB8.out.size))
  have T0 := Lib.hid (T0.out.below hb)
  have T1 := Lib.hid (T1.out.below hb)
  have T2 := Lib.hid (T2.out.below hb)
  have T3 := Lib.hid (T3.out.below hb)
  clear hb
  go_wp2_with fail
  refine (S1.out _ _ _ T1.out T2.out).mono ?_
  rintro e wx ⟨rfl, nx, rfl⟩
  have hd : Below w9.heap.size w9 (w9.drewN nx) := below_drewN (Below.refl _ _) _
  have HB9x := Lib.hid (HB9.out.trans (hd.mono HB9.out.size))
  have T0 := Lib.hid (T0.out.below hd)
  have T3 := Lib.hid (T3.out.below hd)
  clear hd
  generalize w9.drewN nx = wy at *
  go_wp2_with fail
  refine (U1.out _).mono ?_
  rintro e w10 ⟨rfl, hb⟩
  have HB10 := Lib.hid (HB9x.out.trans (hb.mono HB9x.out.size))
  have T0 := Lib.hid (T0.out.below hb)
  have T3 := Lib.hid (T3.out.below hb)
  clear hb
  go_wp2_with fail
  refine (U2.out _).mono ?_
  rintro e w11 ⟨rfl, hb⟩
  have HB11 := Lib.hid (HB10.out.trans (hb.mono HB10.out.size))
  have T0 := Lib.hid (T0.out.below hb)
  have T3 := Lib.hid (T3.out.below hb)
  clear hb
  go_wp2_with fail
  refine (S2.out _ _ _ T3.out T0.out).mono ?_
  rintro e wz ⟨rfl, nz, rfl⟩
  have hd : Below w11.heap.size w11 (w11.drewN nz) := below_drewN (Below.refl _ _) _
  have HB12 := Lib.hid (HB11.out.trans (hd.mono HB11.out.size))
  clear hd
  go_wp2
  go_ret
  exact ⟨rfl, HB12.out⟩
set_option maxRecDepth 100000 in
set_option maxHeartbeats 2000000 in
theorem tells_calls (s t : List UInt8) (v : Value) (l : List (List UInt8)) (w : World) (h : TRow w v l) (hsm : ∀ p ∈ l, p.length ≤ maxLen) (hlm : l.length ≤ maxLen) :
    Calls Try.prog 10 #[str s, str t, v] w fun e w' => e = .returned (.bool true) ∧ Below w.heap.size w w' := by
  have hsz : (⟨s.toArray⟩ : ByteArray).size = s.length := by simp [ByteArray.size]
  have htz : (⟨t.toArray⟩ : ByteArray).size = t.length := by simp [ByteArray.size]
  have F1 := Lib.hid (few_calls v l w h hsm hlm)
  by_cases hs : s.length ≤ 200
  · have e1 : ¬ (200 : Int) < (s.length : Int) := by omega
    by_cases ht : t.length ≤ 200
    · have e2 : ¬ (200 : Int) < (t.length : Int) := by omega
      cases hf : fewN l with
      | true =>
        rw [hf] at F1
        by_cases hln : l.length ≤ 40
        · exact tells_main s t v l w h hs ht hf hln
        · have e3 : (40 : Int) < (l.length : Int) := by omega
          obtain ⟨a, c, rfl, _⟩ := trow_shape h
          clear h hsm hlm hs ht hf hln
          simp only [str] at *
          go_enter Try.func10, Try.ntmps10
          go_wp2_with fail
          refine F1.out.mono ?_
          rintro e w' ⟨rfl, rfl⟩
          go_wp2
          go_ret
          exact ⟨rfl, Below.refl _ _⟩
      | false =>
        rw [hf] at F1
        obtain ⟨a, c, rfl, _⟩ := trow_shape h
        clear h hsm hlm hs ht hf
        simp only [str] at *
        go_enter Try.func10, Try.ntmps10
        go_wp2_with fail
        refine F1.out.mono ?_
        rintro e w' ⟨rfl, rfl⟩
        go_wp2
        go_ret
        exact ⟨rfl, Below.refl _ _⟩
    · have e2 : (200 : Int) < (t.length : Int) := by omega
      clear h hsm hlm hs ht F1
      simp only [str] at *
      go_enter Try.func10, Try.ntmps10
      go_wp2
      go_ret
      exact ⟨rfl, Below.refl _ _⟩
  · have e1 : (200 : Int) < (s.length : Int) := by omega
    clear h hsm hlm hs F1
    simp only [str] at *
    go_enter Try.func10, Try.ntmps10
    go_wp2
    go_ret
    exact ⟨rfl, Below.refl _ _⟩

set_option maxRecDepth 100000 in
theorem nameTells_walk (s t : List UInt8) (v : Value) (l : List (List UInt8)) (w : World) (h : TRow w v l) (hsm : ∀ p ∈ l, p.length ≤ maxLen) (hlm : l.length ≤ maxLen) :
    Calls Try.prog 3 #[str s, str t, v] w fun e w' => e = .returned (.bool true) ∧ Below w.heap.size w w' := by
  have T := Lib.hid (tells_calls s t v l w h hsm hlm)
  have A := Lib.hid (fun W => awake4_calls W)
  clear h hsm hlm
  simp only [str] at *
  go_enter Try.func3, Try.ntmps3
  go_wp2_with fail
  refine T.out.mono ?_
  rintro e w1 ⟨rfl, hb⟩
  have HB := Lib.hid hb
  clear hb
  go_wp2_with fail
  refine (A.out _).mono ?_
  rintro e w2 ⟨rfl, hb⟩
  have HB2 := Lib.hid (HB.out.trans (hb.mono HB.out.size))
  clear hb
  go_wp2
  go_ret
  exact ⟨rfl, HB2.out⟩
end Go.Proofs.Ytlbnkacdeghigaa
