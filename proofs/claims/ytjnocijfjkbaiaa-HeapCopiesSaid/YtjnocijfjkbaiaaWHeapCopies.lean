/-
  WALK of HeapCopies.
-/
import Derived.Test.YtjnocijfjkbaiaaHeapSameP
import Derived.Test.YtjnocijfjkbaiaaHeapWrongP
import Derived.Test.YtjnocijfjkbaiaaHeapAwake
import Derived.Test.YtjnocijfjkbaiaaHeapClone
import Derived.Test.YtjnocijfjkbaiaaHeapCopiesP
namespace Go.Proofs.Ytjnocijfjkbaiaa
open Go.RowKit Go.Shelf

set_option maxRecDepth 100000 in
set_option maxHeartbeats 8000000 in
theorem heapCopies_walk (v : Value) (l : List Sm) (x : Sm) (w : World) (hv : SmRow w v l) (hx : SmOk x) :
    Calls Try.prog 7 #[v, .agg #[.int .u8 (x.1 : Int), .int .u8 (x.2.1 : Int), .int .u8 (x.2.2.1 : Int), .int .u8 (x.2.2.2 : Int)]] w fun e w' => e = .returned (.bool true) ∧ Below w.heap.size w w' := by
  have mixed : Try.prog.follows .mixedOrders = true := by kernel_rfl
  have HAw := Lib.hid awake_calls
  have HV := Lib.hid hv
  have HX := Lib.hid hx
  obtain ⟨va, vc, rfl, -, -⟩ := hv.shape
  clear hv hx
  obtain ⟨xa, xb, xc, xd⟩ := x
  dsimp only
  go_enter Try.func7, Try.ntmps7
  go_wp2_with fail
  refine (HAw.out _).mono ?_
  rintro e w1 ⟨rfl, hb1⟩
  have hb0 : Below w.heap.size w (w.alloc (.cells #[.int .u8 (xa : Int), .int .u8 (xb : Int), .int .u8 (xc : Int), .int .u8 (xd : Int)] 61)) := (Below.refl _ w).alloc (Nat.le_refl _) _
  have hx0 : XBox (w.alloc (.cells #[.int .u8 (xa : Int), .int .u8 (xb : Int), .int .u8 (xc : Int), .int .u8 (xd : Int)] 61)) w.heap.size xa xb xc xd := World.alloc_heap_new w _
  have HB1 := Lib.hid (hb0.trans (hb1.mono hb0.size))
  have HX1 := Lib.hid (hx0.to hb1)
  have HMd := Lib.hid (made_calls _ l w1 ((HV.out.below hb0).below hb1))
  clear hb1 hb0 hx0
  go_wp2_with fail
  refine HMd.out.mono ?_
  rintro e w2 ⟨q, K, T, F, rfl, hA, hF, hT, hb2⟩
  have HB2 := Lib.hid (HB1.out.trans (hb2.mono HB1.out.size))
  have HX2 := Lib.hid (HX1.out.to hb2)
  have HA := Lib.hid hA; have HF := Lib.hid hF; have HT := Lib.hid hT
  clear hA hF hT hb2
  have i53 : (Try.prog.info? 53).map (·.size) = some (kcs K).size := by rw [kcs_size]; exact info_karr
  have i54 : (Try.prog.info? 54).map (·.size) = some (tcs T).size := by rw [tcs_size]; exact info_tarr
  have HI := Lib.hid (And.intro i53 i54)
  clear i53 i54
  obtain ⟨h3, h4, hb3⟩ := two_rows w2 K T (kcs fun _ => (0, 0, 0)) (tcs fun _ => false) (kcs_size _) (tcs_size _)
  have H3 := Lib.hid h3; have H4 := Lib.hid h4; have H5 := Lib.hid hb3
  clear h3 h4 hb3
  go_upto_region 4 with (first
    | (refine wpList_alloc_row rfl 53 rfl _ zero_karr ?_)
    | (refine wpList_alloc_row rfl 54 rfl _ zero_tarr ?_)
    | (refine wpList_store_row rfl 53 _ _ rfl w2.heap.size (kcs K) (by simp [Act.eval, Act.put]) (by simp [Act.eval, Act.put]) 53 (kcs fun _ => (0, 0, 0)) ((Below.heap_alloc _ _ _ (by simp)).trans (World.alloc_heap_new w2 _)) HI.out.1 (by rw [kcs_size, kcs_size]) (kcs_one K) ?_)
    | (refine wpList_store_row rfl 54 _ _ rfl (w2.heap.size + 1) (tcs T) (by simp [Act.eval, Act.put]) (by simp [Act.eval, Act.put]) 54 (tcs fun _ => false) ((setRow_other _ _ _ _ (by omega)).trans (by have := World.alloc_heap_new (w2.alloc (.cells (kcs fun _ => (0, 0, 0)) 53)) (.cells (tcs fun _ => false) 54); rwa [World.size_alloc] at this)) HI.out.2 (by rw [tcs_size, tcs_size]) (tcs_one T) ?_)
    | fail)
  have hAH := HA.out.below H5.out
  have hlt1 : w.heap.size < w2.heap.size := (Array.getElem?_eq_some_iff.1 HX2.out).1
  have hlt0 : w.heap.size < w1.heap.size := (Array.getElem?_eq_some_iff.1 HX1.out).1
  have HX3 := Lib.hid (HX2.out.to H5.out)
  obtain ⟨W3, hW3⟩ : ∃ W3, W3 = (((w2.alloc (.cells (kcs fun _ => (0, 0, 0)) 53)).alloc (.cells (tcs fun _ => false) 54)).setRow w2.heap.size (kcs K)).setRow (w2.heap.size + 1) (tcs T) := ⟨_, rfl⟩
  rw [← hW3] at H3 H4 H5 hAH HX3 ⊢
  have HB3 := Lib.hid (HB2.out.trans (H5.out.mono HB2.out.size))
  have HCp := Lib.hid (copy_calls hAH)
  have HA3 := Lib.hid hAH
  clear hW3 hAH HMd HAw HV HI HX1 HX2
  go_wp2_with fail
  refine HCp.out.mono ?_
  rintro e w4 ⟨q2, rfl, hn4⟩
  obtain ⟨F2, hA4, hB4, hF4⟩ := hn4.ex
  have h0 : CpAt w w4 q q2 w.heap.size (w2.heap.size + 1) xa xb xc xd T (fun j => j = w.heap.size ∨ j = w2.heap.size + 1) (mKT K T) (mKT K T) := by
    have hk4 := (Array.getElem?_eq_some_iff.1 H4.out).1
    refine ⟨⟨⟨F, F2, HA3.out.below hB4, hA4, fun j hj => ?_, fun j hj => ?_⟩, fun j hj => ?_, HB3.out.trans (hB4.mono HB3.out.size)⟩, HX3.out.to hB4, (hB4.block _ hk4).trans H4.out, .inl rfl, .inr rfl⟩
    · have h1 := HA.out.lt j hj
      have h2 := HF.out j hj
      have h3 := H5.out.size
      exact ⟨fun k => by have := hF4 j k; omega, by rintro (e | e) <;> omega, by omega⟩
    · have h1 := hF4 j hj
      have h3 := HB3.out.size
      have h4 := (Array.getElem?_eq_some_iff.1 HX3.out).1
      exact ⟨by rintro (e | e) <;> omega, by omega⟩
    · have := hB4.size
      have h4 := (Array.getElem?_eq_some_iff.1 HX3.out).1
      rcases hj with e | e <;> omega
  have H0 := Lib.hid h0
  clear h0 hn4 hA4 hB4 hF4 HA3 HB3 HCp H3 H4 H5 HA HF HB1 HB2 HX3 hlt0 hlt1
  generalize w2.heap.size + 1 = bt at H0 ⊢
  generalize hbx : w.heap.size = bx at H0 ⊢
  have HBX := Lib.hid hbx
  clear hbx
  have HMe := Lib.hid (fun p => mKT_isSome K T p)
  generalize mKT K T = M at H0 HMe
  -- the copy's order is the heap's
  obtain ⟨Fa, Fb, ha, hb', -, -⟩ := H0.out.heaps.ex
  have HO1 := Lib.hid (heapOrder_calls hb')
  have HB' := Lib.hid ha
  have HLe := Lib.hid (ordM_le ha)
  obtain ⟨O, hO⟩ : ∃ O, ordM 24 M = O := ⟨_, rfl⟩
  rw [hO] at HO1 HLe
  have HOe := Lib.hid hO
  clear ha hb' hO
  go_wp2_with fail
  refine HO1.out.mono ?_
  rintro e w5 ⟨g1, c1, rfl, hr1, -, hb5⟩
  have HO2 := Lib.hid (heapOrder_calls (HB'.out.below hb5))
  rw [HOe.out] at HO2
  have T5 := Lib.hid (H0.out.to hb5)
  have R1 := Lib.hid hr1
  clear hr1 hb5 HB' HO1 H0
  go_wp2_with fail
  refine HO2.out.mono ?_
  rintro e w6 ⟨g2, c2, rfl, hr2, -, hb6⟩
  have HS := Lib.hid (by have := same_calls g1 c1 g2 c2 (plc O) w6 (R1.out.below hb6) hr2; rw [plc_len] at this; exact this)
  have T6 := Lib.hid (T5.out.to hb6)
  clear hr2 hb6 HO2 T5 R1
  go_wp2_with fail
  refine HS.out.mono ?_
  rintro e w7 ⟨rfl, hb7⟩
  have T7 := Lib.hid (T6.out.to hb7)
  clear hb7 HS T6
  obtain ⟨Fa, Fb, ha, hb', -, -⟩ := T7.out.heaps.ex
  have HO3 := Lib.hid (heapOrder_calls ha)
  rw [HOe.out] at HO3
  clear ha hb'
  go_wp2_with fail
  refine HO3.out.mono ?_
  rintro e w8 ⟨g3, c3, rfl, hr3, hg3, hb8⟩
  have T8 := Lib.hid (T7.out.more hb8 g3 ⟨hg3, hr3.lt⟩)
  have R3 := Lib.hid hr3
  clear hr3 hb8 hg3 T7 HO3
  obtain ⟨x0, x1, x2, x3⟩ := T8.out.box.cells
  have hok := HX.out
  have hoa := hok.1
  have hob := hok.2.1
  dsimp only at hoa hob
  obtain ⟨p, hp⟩ : ∃ p, xb % 24 = p := ⟨_, rfl⟩
  have hp24 : p < 24 := by omega
  have hpi : (p : Int) < 24 := by omega
  have hb1 : IntKind.i64.wrap (xb : Int) = (xb : Int) := by rw [IntKind.wrap_i64]; omega
  have hb2 : (xb : Int).tmod 24 = (p : Int) := by rw [Int.tmod_eq_emod_of_nonneg (by omega)]; omega
  have hb2' : (xb : Int) % 24 = (p : Int) := by omega
  have hb3 : IntKind.i64.wrap (p : Int) = (p : Int) := by rw [IntKind.wrap_i64]; omega
  obtain ⟨t0, -⟩ := T8.out.there.cells p hp24
  have HOf := Lib.hid (fun W => of_calls (xa, xb, xc, xd) hok W)
  obtain ⟨k, hk⟩ : ∃ k, keyS (xa, xb, xc, xd) = k := ⟨_, rfl⟩
  rw [hk] at HOf
  dsimp only at HOf
  have hMp := HMe.out p
  obtain ⟨tp, htp⟩ : ∃ tp, T p = tp := ⟨_, rfl⟩
  rw [htp] at t0 hMp
  clear hok hk hp
  go_upto_if 44 with fail
  go_cut [] from 45 to 52 (fun wx => ∃ M2, CpAt w wx q q2 bx bt xa xb xc xd T (fun j => (j = bx ∨ j = bt) ∨ j = g3) M M2 ∧ (M2 p).isSome = !tp ∧ IR wx g3 c3 (plc O))
  case first =>
    cases tp with
    | false =>
      have hput : putF M p k = (0, updM M p (some k)) := by
        unfold putF
        cases hM : M p with
        | none => rfl
        | some j => rw [hM] at hMp; cases hMp
      have C1 := Lib.hid (fun W q F (h : HA W q F 24 M) => putF_calls h p hp24 k)
      rw [hput] at C1
      dsimp only at C1
      clear hput
      go_wp2_with fail
      refine (HOf.out _).mono ?_
      rintro e w9 ⟨rfl, hb9⟩
      have T9 := Lib.hid (T8.out.to hb9)
      have R9 := Lib.hid (R3.out.below hb9)
      clear hb9
      go_wp2_with fail
      refine (T9.out.heaps.two (fun F h => C1.out _ _ F h)).mono ?_
      rintro e w10 ⟨rfl, t10, k10⟩
      have T10 := Lib.hid (T9.out.kept2 t10 k10)
      have R10 := Lib.hid (R9.out.keep (k10 g3 (.inr rfl)))
      clear t10 k10
      go_wp2_with fail
      go_meet
      exact ⟨_, T10.out, by rw [updM_same]; rfl, R10.out⟩
    | true =>
      obtain ⟨r, hr⟩ : ∃ r, M p = some r := by
        cases hM : M p with
        | none => rw [hM] at hMp; cases hMp
        | some j => exact ⟨j, rfl⟩
      have hrem : remF M p = (r, 0, updM M p none) := by unfold remF; rw [hr]
      have C1 := Lib.hid (fun W q F (h : HA W q F 24 M) => remF_calls h p hp24)
      rw [hrem] at C1
      obtain ⟨r1, r2, r3⟩ := r
      dsimp only at C1
      clear hrem hr
      go_wp2_with fail
      refine (T8.out.heaps.two (fun F h => C1.out _ _ F h)).mono ?_
      rintro e w10 ⟨rfl, t10, k10⟩
      have T10 := Lib.hid (T8.out.kept2 t10 k10)
      have R10 := Lib.hid (R3.out.keep (k10 g3 (.inr rfl)))
      clear t10 k10
      go_wp2_with fail
      go_meet
      exact ⟨_, T10.out, by rw [updM_same]; rfl, R10.out⟩
  case rest =>
  obtain ⟨M2, hC, hM2, hR⟩ := hcut
  have TC := Lib.hid hC
  have RC := Lib.hid hR
  clear hC hR T8 R3 HOf x0 x1 x2 x3 t0 hoa hob hb1 hb2 hb2' hb3
  go_upto_region 14 with fail
  go_cut [75] from 53 to 74 (fun s75 wx => s75 = .bool false ∧ CpAt w wx q q2 bx bt xa xb xc xd T (fun j => (j = bx ∨ j = bt) ∨ j = g3) M M2)
  case first =>
    have CO := Lib.hid (show ∀ W, CpAt w W q q2 bx bt xa xb xc xd T (fun j => (j = bx ∨ j = bt) ∨ j = g3) M M2 → IR W g3 c3 (plc O) → Calls Try.prog 20 #[.pointer (some ⟨q, 0, none⟩)] W fun e w' => ∃ g c, e = .returned (.slice (some ⟨g, 0, none⟩) O.length c) ∧ CpAt w w' q q2 bx bt xa xb xc xd T (fun j => (j = bx ∨ j = bt) ∨ j = g3) M M2 ∧ IR w' g3 c3 (plc O) ∧ IR w' g c (plc O) ∧ w'.cell? ⟨bt, p, none⟩ = some (.bool tp) from fun W hc hr => by
      obtain ⟨Fa, Fb, ha, -, -, -⟩ := hc.heaps.ex
      have h := heapOrder_calls ha
      rw [HOe.out] at h
      exact h.mono fun e w' ⟨g, c, he, h1, _, h2⟩ => ⟨g, c, he, hc.to h2, hr.below h2, h1, by rw [((hc.to h2).there.cells p hp24).1, htp]⟩)
    have CS := Lib.hid (show ∀ W g c, CpAt w W q q2 bx bt xa xb xc xd T (fun j => (j = bx ∨ j = bt) ∨ j = g3) M M2 → IR W g c (plc O) → IR W g3 c3 (plc O) → Calls Try.prog 26 #[.slice (some ⟨g, 0, none⟩) O.length c, .slice (some ⟨g3, 0, none⟩) O.length c3] W fun e w' => e = .returned (.bool true) ∧ CpAt w w' q q2 bx bt xa xb xc xd T (fun j => (j = bx ∨ j = bt) ∨ j = g3) M M2 ∧ w'.cell? ⟨bt, p, none⟩ = some (.bool tp) from fun W g c hc h1 h2 => by
      have h := same_calls g c g3 c3 (plc O) W h1 h2
      rw [plc_len] at h
      exact h.mono fun e w' hh => ⟨hh.1, hc.to hh.2, by rw [((hc.to hh.2).there.cells p hp24).1, htp]⟩)
    have CH := Lib.hid (show ∀ W, CpAt w W q q2 bx bt xa xb xc xd T (fun j => (j = bx ∨ j = bt) ∨ j = g3) M M2 → Calls Try.prog 19 #[.pointer (some ⟨q, 0, none⟩), .int .i64 (p : Int)] W fun e w' => e = .returned (.bool tp) ∧ W = w' from fun W hc => by
      obtain ⟨Fa, Fb, ha, hb, -, -⟩ := hc.heaps.ex
      exact hasM_calls ha p hp24 tp hMp)
    have CI := Lib.hid (show ∀ W, CpAt w W q q2 bx bt xa xb xc xd T (fun j => (j = bx ∨ j = bt) ∨ j = g3) M M2 → Calls Try.prog 19 #[.pointer (some ⟨q2, 0, none⟩), .int .i64 (p : Int)] W fun e w' => e = .returned (.bool (!tp)) ∧ W = w' from fun W hc => by
      obtain ⟨Fa, Fb, ha, hb, -, -⟩ := hc.heaps.ex
      exact hasM_calls hb p hp24 (!tp) hM2)
    have c0 := TC.out
    have r0 := RC.out
    have c0d : CpAt w wc.drew q q2 bx bt xa xb xc xd T (fun j => (j = bx ∨ j = bt) ∨ j = g3) M M2 := c0.to (Below.refl _ _).drew
    have r0d : IR wc.drew g3 c3 (plc O) := r0.below (Below.refl _ _).drew
    have y0 : wc.cell? ⟨bt, p, none⟩ = some (.bool tp) := by rw [(c0.there.cells p hp24).1, htp]
    have y0d : wc.drew.cell? ⟨bt, p, none⟩ = some (.bool tp) := y0
    clear TC RC HMe
    cases tp
    all_goals
      simp only [Bool.not_true, Bool.not_false] at CI
      go_region_law (first
        | (go_simp; go_at_call 20; refine (CO.out _ (by with_reducible assumption) (by with_reducible assumption)).mono ?_; rintro e w9 ⟨g9, c9, rfl, t9, r9, s9, y9⟩)
        | (go_simp; go_at_call 26; refine (CS.out _ _ _ (by with_reducible assumption) (by with_reducible assumption) (by with_reducible assumption)).mono ?_; rintro e w9 ⟨rfl, t9, y9⟩)
        | (go_simp; go_at_call 19; with_reducible refine (CH.out _ (by with_reducible assumption)).mono ?_; rintro e w9 ⟨rfl, rfl⟩)
        | (go_simp; go_at_call 19; with_reducible refine (CI.out _ (by with_reducible assumption)).mono ?_; rintro e w9 ⟨rfl, rfl⟩)
        | fail)
      all_goals
        simp [Act.put]
        go_wp2_with fail
        go_meet
        exact ⟨by first | rfl | simp, by first | (with_reducible assumption) | assumption⟩
  case rest =>
  obtain ⟨rfl, hC⟩ := hcut
  have TC2 := Lib.hid hC
  clear hC TC RC HMe hMp hM2 htp
  obtain ⟨Fa, Fb, ha, hb', -, -⟩ := TC2.out.heaps.ex
  have HO4 := Lib.hid (heapOrder_calls hb')
  obtain ⟨O2, hO2⟩ : ∃ O, ordM 24 M2 = O := ⟨_, rfl⟩
  rw [hO2] at HO4
  have HOe2 := Lib.hid hO2
  clear ha hb' hO2
  go_wp2_with fail
  refine HO4.out.mono ?_
  rintro e w12 ⟨g4, c4, rfl, hr4, hg4, hb12⟩
  have T12 := Lib.hid (TC2.out.more hb12 g4 ⟨hg4, hr4.lt⟩)
  have R4 := Lib.hid hr4
  clear hr4 hg4 hb12 HO4 TC2
  go_wp2_with fail
  go_loopw [78] (fun s78 wx => ∃ (i : Nat) (M1 : Mp), i ≤ 24 ∧ s78 = .int .i64 (i : Int) ∧ CpAt w wx q q2 bx bt xa xb xc xd T (fun j => ((j = bx ∨ j = bt) ∨ j = g3) ∨ j = g4) M1 M2 ∧ (ordM 24 M1).length ≤ 24 - i ∧ IR wx g4 c4 (plc O2)) (fun s78 _ => 24 - (intOf s78).toNat)
  case atStart => exact ⟨0, M, by omega, rfl, T12.out, by rw [HOe.out]; have := HLe.out; omega, R4.out⟩
  case round =>
    obtain ⟨i, M1, hi, rfl, hC, hL, hR⟩ := hrel
    have TL := Lib.hid hC
    have RL := Lib.hid hR
    have HL := Lib.hid hL
    clear hC hR hL T12 R4 HLe
    by_cases hlt : i < 24
    · obtain ⟨R, hR⟩ : ∃ R, takF M1 = R := ⟨_, rfl⟩
      obtain ⟨P, ⟨r1, r2, r3⟩, E, M'⟩ := R
      have C1 := Lib.hid (fun W q F (h : HA W q F 24 M1) => takF_calls h)
      rw [hR] at C1
      dsimp only at C1
      have HL2 := Lib.hid (show (ordM 24 M').length ≤ (ordM 24 M1).length - 1 by have := takF_len M1; rw [hR] at this; exact this)
      have hi1 : (i : Int) < 24 := by omega
      have hwi : IntKind.i64.wrap ((i : Int) + 1) = (i : Int) + 1 := by rw [IntKind.wrap_i64]; omega
      clear hR
      go_wp2_with fail
      refine (TL.out.heaps.one (fun F h => C1.out _ _ F h)).mono ?_
      rintro e w13 ⟨rfl, t13, k13⟩
      have T13 := Lib.hid (TL.out.kept t13 k13)
      have R13 := Lib.hid (RL.out.keep (k13 g4 (.inr rfl)))
      clear t13 k13
      go_wp2_with fail
      go_roundw
      case rel => exact ⟨i + 1, M', by omega, by go_num, T13.out, by have := HL.out; have := HL2.out; omega, R13.out⟩
      case measure => simp [intOf]; omega
    · obtain rfl : i = 24 := by omega
      have hz : (ordM 24 M1).length = 0 := by have := HL.out; omega
      obtain ⟨Fa, Fb, ha, hb', -, -⟩ := TL.out.heaps.ex
      have HLn := Lib.hid (len_calls ha)
      rw [hz] at HLn
      have HO5 := Lib.hid (heapOrder_calls hb')
      rw [HOe2.out] at HO5
      clear ha hb' hz
      go_wp2_with fail
      refine HLn.out.mono ?_
      rintro e w14 ⟨rfl, rfl⟩
      go_wp2_with fail
      refine HO5.out.mono ?_
      rintro e w15 ⟨g5, c5, rfl, hr5, -, hb15⟩
      have HS := Lib.hid (by have := same_calls g5 c5 g4 c4 (plc O2) w15 hr5 (RL.out.below hb15); rw [plc_len] at this; exact this)
      have T15 := Lib.hid (TL.out.to hb15)
      clear hr5 hb15
      go_wp2_with fail
      refine HS.out.mono ?_
      rintro e w16 ⟨rfl, hb16⟩
      have T16 := Lib.hid (T15.out.to hb16)
      clear hb16
      go_wp2_with fail
      go_ret
      exact ⟨rfl, by have := T16.out.heaps.below; exact this⟩
end Go.Proofs.Ytjnocijfjkbaiaa
