/-
  CONTRACT of the reference's Parse: a text is read sign by sign, written again, and held against what was read.
-/
import Derived.Test.YtapaccbffhcjdaaDoorKeyRef3
import Derived.Test.YtapaccbffhcjdaaDoorKeyParP
import Derived.Test.YtapaccbffhcjdaaDoorWKeyTells
namespace Go.Proofs.YtapaccbffhcjdaaDoor
open Go.RowKit Go.Shelf Go.Sort

attribute [-go_sem] run_index_string

instance (l : List UInt8) (m : Nat) : Decidable (numOk l m) := by unfold numOk; infer_instance
instance (s : List UInt8) : Decidable (textOk s) := by unfold textOk; infer_instance
def pV (s : List UInt8) : Ky := if textOk s then keyT s else (0, 0, 0)
def pE (s : List UInt8) : Int := if textOk s then 0 else 72
/-- The block of the three numbers. -/
def NAt (W : World) (b : Nat) (t : PSt) : Prop := W.heap[b]? = some (.cells #[.int .i64 (t.n 0 : Int), .int .i64 (t.n 1 : Int), .int .i64 (t.n 2 : Int)] 120 (0, 0))
theorem NAt.lt {W : World} {b : Nat} {t : PSt} (h : NAt W b t) : b < W.heap.size := (Array.getElem?_eq_some_iff.1 h).1
theorem NAt.below {W W' : World} {b : Nat} {t : PSt} (h : NAt W b t) (hb : Below W.heap.size W W') : NAt W' b t := (hb.block _ h.lt).trans h
theorem NAt.cell {W : World} {b : Nat} {t : PSt} (h : NAt W b t) (j : Nat) (hj : j < 3) : W.cell? ⟨b, j, none⟩ = some (.int .i64 (t.n j : Int)) ∧ W.frozen? ⟨b, j, none⟩ = false := by
  unfold NAt at h
  obtain rfl | rfl | rfl : j = 0 ∨ j = 1 ∨ j = 2 := by omega
  all_goals exact ⟨by simp [World.cell?, h], by simp [World.frozen?, h]⟩
theorem NAt.set {W : World} {b : Nat} {t : PSt} (h : NAt W b t) (j : Nat) (hj : j < 3) (v : Nat) : NAt (W.setCell ⟨b, j, none⟩ (.int .i64 (v : Int))) b ⟨t.at_, fun i => if i = j then v else t.n i⟩ := by
  unfold NAt at h ⊢
  rw [heap_setC h]
  obtain rfl | rfl | rfl : j = 0 ∨ j = 1 ∨ j = 2 := by omega
  all_goals rfl
theorem NAt.other {W : World} {b : Nat} {t : PSt} (h : NAt W b t) (c : Nat) (hc : c ≠ b) (j : Nat) (v : Value) : NAt (W.setCell ⟨c, j, none⟩ v) b t := (Below.heap_setCell _ _ _ b (fun e => hc e.symm)).trans h
theorem NAt.same {W : World} {b : Nat} {t : PSt} (h : NAt W b t) (a : Nat) : NAt W b ⟨a, t.n⟩ := h
theorem pstep_mark {s : PSt} {c : UInt8} (h : (c = 64 ∧ s.at_ = 0) ∨ (c = 35 ∧ s.at_ = 1)) : pstep s c = some ⟨s.at_ + 1, s.n⟩ := by unfold pstep; rw [if_pos h]
theorem pstep_digit {s : PSt} {c : UInt8} (h : 48 ≤ c.toNat ∧ c.toNat ≤ 57) (hn : s.n s.at_ < 1000000000000000) : pstep s c = some ⟨s.at_, fun j => if j = s.at_ then 10 * s.n s.at_ + c.toNat - 48 else s.n j⟩ := by
  unfold pstep
  have n1 : ¬ ((c = 64 ∧ s.at_ = 0) ∨ (c = 35 ∧ s.at_ = 1)) := by
    rintro (⟨rfl, _⟩ | ⟨rfl, _⟩)
    · exact absurd h.2 (by decide)
    · exact absurd h.1 (by decide)
  rw [if_neg n1, if_pos ⟨h, hn⟩]
theorem pstep_none {s : PSt} {c : UInt8} (h1 : ¬ ((c = 64 ∧ s.at_ = 0) ∨ (c = 35 ∧ s.at_ = 1))) (h2 : ¬ ((48 ≤ c.toNat ∧ c.toNat ≤ 57) ∧ s.n s.at_ < 1000000000000000)) : pstep s c = none := by
  unfold pstep; rw [if_neg h1, if_neg h2]
/-- Where a sign is not taken, the text is none. -/
theorem parse_not {s : List UInt8} {i : Nat} {t : PSt} (hi : i < s.length) (h40 : i < 40) (hf : pfold (s.take i) p0 = some t) (hn : pstep t (s.getD i 0) = none) : ¬ textOk s := by
  intro h
  obtain ⟨u, hu, _⟩ := parse_ok h
  have e : s.take 40 = s.take i ++ (s.getD i 0 :: (s.take 40).drop (i + 1)) := by
    have h1 : (s.take 40).take i = s.take i := by rw [List.take_take, Nat.min_eq_left (by omega)]
    have h2 : (s.take 40).drop i = s.getD i 0 :: (s.take 40).drop (i + 1) := by
      rw [List.drop_eq_getElem_cons (by rw [List.length_take]; omega)]
      congr 1
      rw [List.getElem_take]
      simp [List.getD_eq_getElem?_getD, hi]
    rw [← h1, ← h2, List.take_append_drop]
  rw [e, pfold_append, hf] at hu
  have : pfold (s.getD i 0 :: (s.take 40).drop (i + 1)) t = none := by
    show (pstep t (s.getD i 0)).bind _ = none
    rw [hn]; rfl
  rw [Option.bind_some, this] at hu
  cases hu
theorem parse_end {s : List UInt8} {t : PSt} (hf : pfold (s.take 40) p0 = some t) :
    if oE ((t.n 0 : Int), (t.n 1 : Int), (t.n 2 : Int)) = 0 ∧ tL ((t.n 0 : Int), (t.n 1 : Int), (t.n 2 : Int)) = s then (pV s = ((t.n 0 : Int), (t.n 1 : Int), (t.n 2 : Int)) ∧ pE s = 0) else (pV s = (0, 0, 0) ∧ pE s = 72) := by
  by_cases hk : RightK ((t.n 0 : Int), (t.n 1 : Int), (t.n 2 : Int))
  · unfold oE tL pV pE
    simp only [if_pos hk, true_and]
    by_cases hs : textK ((t.n 0 : Int), (t.n 1 : Int), (t.n 2 : Int)) = s
    · have h := textOk_text hk
      rw [hs] at h
      rw [if_pos hs, if_pos h.1, if_pos h.1, h.2]
      exact ⟨rfl, rfl⟩
    · have hno : ¬ textOk s := by
        intro h
        obtain ⟨u, hu, e0, e1, e2⟩ := parse_ok h
        rw [hf] at hu
        cases hu
        have := (textOk_key h).2
        rw [show keyT s = ((t.n 0 : Int), (t.n 1 : Int), (t.n 2 : Int)) from ky_ext e0.symm e1.symm e2.symm] at this
        exact hs this
      rw [if_neg hs, if_neg hno, if_neg hno]
      exact ⟨rfl, rfl⟩
  · have hno : ¬ textOk s := by
      intro h
      obtain ⟨u, hu, e0, e1, e2⟩ := parse_ok h
      rw [hf] at hu
      cases hu
      have := (textOk_key h).1
      rw [show keyT s = ((t.n 0 : Int), (t.n 1 : Int), (t.n 2 : Int)) from ky_ext e0.symm e1.symm e2.symm] at this
      exact hk this
    unfold oE pV pE
    simp only [if_neg hk, if_neg hno]
    rw [if_neg (by omega)]
    simp
set_option maxRecDepth 100000 in
set_option maxHeartbeats 4000000 in
theorem rParseK_calls (s : List UInt8) (w : World) (hl : s.length ≤ 1000000) :
    Calls Tryd.prog 50 #[.string ⟨s.toArray⟩] w fun e W' => e = .returned (.tuple #[.agg #[.int .i64 (pV s).1, .int .i64 (pV s).2.1, .int .i64 (pV s).2.2], .int .i64 (pE s)]) ∧ Below w.heap.size w W' := by
  have mixed : Tryd.prog.follows .mixedOrders = true := by kernel_rfl
  obtain ⟨n, hn⟩ : ∃ n, s.length = n := ⟨_, rfl⟩
  have hsz : (⟨s.toArray⟩ : ByteArray).size = n := by simp [ByteArray.size, hn]
  have HN := Lib.hid hn
  have HR0 := Lib.hid (show KAt ((w.alloc (.cells #[.int .i64 0, .int .i64 0, .int .i64 0] 23)).alloc (.cells #[.int .i64 0, .int .i64 0, .int .i64 0] 120)) w.heap.size (0, 0, 0) from (Below.heap_alloc _ _ _ (by simp)).trans (World.alloc_heap_new w _))
  have HN0 := Lib.hid (show NAt ((w.alloc (.cells #[.int .i64 0, .int .i64 0, .int .i64 0] 23)).alloc (.cells #[.int .i64 0, .int .i64 0, .int .i64 0] 120)) (w.heap.size + 1) p0 from by
    have := World.alloc_heap_new (w.alloc (.cells #[.int .i64 0, .int .i64 0, .int .i64 0] 23)) (.cells #[.int .i64 0, .int .i64 0, .int .i64 0] 120)
    rw [World.size_alloc] at this
    exact this)
  have HB0 := Lib.hid (((Below.refl w.heap.size w).alloc (Nat.le_refl _) (.cells #[.int .i64 0, .int .i64 0, .int .i64 0] 23)).alloc (by simp) (.cells #[.int .i64 0, .int .i64 0, .int .i64 0] 120))
  have hn1 : (n : Int) ≤ 1000000 := by omega
  clear hl hn
  go_enter Tryd.func50, Tryd.ntmps50
  go_wp2_with fail
  go_loopw [5, 6] (fun s5 s6 wr => ∃ (i a : Nat) (g : Nat → Nat), i ≤ n ∧ i ≤ 40 ∧ pfold (s.take i) p0 = some ⟨a, g⟩ ∧ s5 = .int .i64 (a : Int) ∧ s6 = .int .i64 (i : Int) ∧ NAt wr (w.heap.size + 1) ⟨a, g⟩ ∧ KAt wr w.heap.size (0, 0, 0) ∧ Below w.heap.size w wr) (fun _ s6 _ => 40 - (intOf s6).toNat)
  case atStart => exact ⟨0, 0, fun _ => 0, Nat.zero_le _, by omega, rfl, rfl, rfl, HN0.out, HR0.out, HB0.out⟩
  case round =>
    obtain ⟨i, a, g, hin, hi40, hf, rfl, rfl, hNA, hKA, hBw⟩ := hrel
    have hinv := pfold_inv _ hf
    have ha2 : a ≤ 2 := hinv.1
    have hga : g a < 10000000000000000 := hinv.2 a
    have HF := Lib.hid hf; have HNA := Lib.hid hNA; have HKA := Lib.hid hKA; have HB := Lib.hid hBw
    clear hf hinv hNA hKA hBw HR0 HN0 HB0
    by_cases h1 : i < n
    · by_cases h2 : i < 40
      · have hi1 : (i : Int) < (n : Int) := by omega
        have hi2 : (i : Int) < 40 := by omega
        have hlt : i < s.length := by rw [HN.out]; exact h1
        have hidx := fun W => string_indexK s i hlt W
        have HNot := Lib.hid (fun hno => parse_not hlt h2 HF.out hno)
        have HTk := Lib.hid (show s.take (i + 1) = s.take i ++ [s.getD i 0] by
          rw [List.take_succ_eq_append_getElem hlt]
          simp [List.getD_eq_getElem?_getD, hlt])
        generalize s.getD i 0 = c at *
        have hc256 : c.toNat < 256 := c.toNat_lt
        have HC64 := Lib.hid (show c = 64 ↔ c.toNat = 64 from ⟨fun h => by rw [h]; rfl, fun h => UInt8.toNat_inj.1 h⟩)
        have HC35 := Lib.hid (show c = 35 ↔ c.toNat = 35 from ⟨fun h => by rw [h]; rfl, fun h => UInt8.toNat_inj.1 h⟩)
        have HS1 := Lib.hid (fun h => pstep_mark (s := ⟨a, g⟩) (c := c) h)
        have HS2 := Lib.hid (fun h k => pstep_digit (s := ⟨a, g⟩) (c := c) h k)
        have HS3 := Lib.hid (fun h k => pstep_none (s := ⟨a, g⟩) (c := c) h k)
        obtain ⟨v, hv⟩ : ∃ v, c.toNat = v := ⟨_, rfl⟩
        rw [hv] at hidx hc256 HC64 HC35 HS2 HS3
        simp only at HS1 HS2 HS3
        have hcellA := HNA.out.cell a (by omega)
        obtain ⟨ca, fa⟩ := hcellA
        obtain ⟨x, hx⟩ : ∃ x, g a = x := ⟨_, rfl⟩
        simp only [hx] at ca HS2 HS3
        rw [hx] at hga
        have HX := Lib.hid hx
        have k0 := (HKA.out.cells 0 (by omega)).1
        have k1 := (HKA.out.cells 1 (by omega)).1
        have k2 := (HKA.out.cells 2 (by omega)).1
        have f0 := (HKA.out.cells 0 (by omega)).2
        have f1 := (HKA.out.cells 1 (by omega)).2
        have f2 := (HKA.out.cells 2 (by omega)).2
        simp only [fldK] at k0 k1 k2
        have hKs := Lib.hid (kat_set HKA.out 0 0 0)
        have HBs := Lib.hid (set3_below HB.out (Nat.le_refl _) (.int .i64 0) (.int .i64 0) (.int .i64 0))
        have hm1 : IntKind.i64.wrap ((a : Int) + 1) = (a : Int) + 1 := by rw [IntKind.wrap_i64]; omega
        have a3 : (a : Int) < 3 := by omega
        have a0 : (0 : Int) ≤ (a : Int) := by omega
        clear hv hx hlt h1 h2
        by_cases h64 : v = 64
        · have e64 : ((v : Int) == 64) = true := by rw [beq_iff_eq]; omega
          by_cases hz : a = 0
          · have z0 : ((a : Int) == 0) = true := by rw [beq_iff_eq]; omega
            have hst := HS1.out (.inl ⟨HC64.out.2 h64, hz⟩)
            have HNx := Lib.hid (show pfold (s.take (i + 1)) p0 = some ⟨a + 1, g⟩ by rw [HTk.out, pfold_snoc, HF.out]; exact hst)
            clear hst h64 hz k0 k1 k2 f0 f1 f2 ca fa
            go_wp2_with fail
            go_roundw
            case rel => exact ⟨i + 1, a + 1, g, by omega, by omega, HNx.out, by go_num, by go_num, HNA.out.same (a + 1), HKA.out, HB.out⟩
            case measure => simp [intOf]; omega
          · have z0 : ((a : Int) == 0) = false := by rw [beq_eq_false_iff_ne]; omega
            have e35 : ((v : Int) == 35) = false := by rw [beq_eq_false_iff_ne]; omega
            have g48 : (48 : Int) ≤ (v : Int) := by omega
            have l57 : ¬ (v : Int) ≤ 57 := by omega
            have hno := HNot.out (HS3.out (fun h => h.elim (fun k => hz k.2) (fun k => by have := HC35.out.1 k.1; omega)) (fun h => by omega))
            have HV := Lib.hid (show pV s = (0, 0, 0) ∧ pE s = 72 from ⟨if_neg hno, if_neg hno⟩)
            clear hno h64 hz
            go_wp2_with fail
            have v0 := (hKs.out.cells 0 (by omega)).1
            have v1 := (hKs.out.cells 1 (by omega)).1
            have v2 := (hKs.out.cells 2 (by omega)).1
            simp only [fldK] at v0 v1 v2
            exact bodyPost_ret (v := .tuple #[.agg #[.int .i64 0, .int .i64 0, .int .i64 0], .int .i64 72]) (by simp [results, Tryd.f50, go_sem, v0, v1, v2]) rfl ⟨by rw [HV.out.1, HV.out.2], HBs.out⟩
        · have e64 : ((v : Int) == 64) = false := by rw [beq_eq_false_iff_ne]; omega
          by_cases h35 : v = 35
          · have e35 : ((v : Int) == 35) = true := by rw [beq_iff_eq]; omega
            by_cases hz : a = 1
            · have z1 : ((a : Int) == 1) = true := by rw [beq_iff_eq]; omega
              have hst := HS1.out (.inr ⟨HC35.out.2 h35, hz⟩)
              have HNx := Lib.hid (show pfold (s.take (i + 1)) p0 = some ⟨a + 1, g⟩ by rw [HTk.out, pfold_snoc, HF.out]; exact hst)
              clear hst h64 h35 hz k0 k1 k2 f0 f1 f2 ca fa
              go_wp2_with fail
              go_roundw
              case rel => exact ⟨i + 1, a + 1, g, by omega, by omega, HNx.out, by go_num, by go_num, HNA.out.same (a + 1), HKA.out, HB.out⟩
              case measure => simp [intOf]; omega
            · have z1 : ((a : Int) == 1) = false := by rw [beq_eq_false_iff_ne]; omega
              have g48 : ¬ (48 : Int) ≤ (v : Int) := by omega
              have hno := HNot.out (HS3.out (fun h => h.elim (fun k => h64 (HC64.out.1 k.1)) (fun k => hz k.2)) (fun h => by omega))
              have HV := Lib.hid (show pV s = (0, 0, 0) ∧ pE s = 72 from ⟨if_neg hno, if_neg hno⟩)
              clear hno h64 h35 hz
              go_wp2_with fail
              have v0 := (hKs.out.cells 0 (by omega)).1
              have v1 := (hKs.out.cells 1 (by omega)).1
              have v2 := (hKs.out.cells 2 (by omega)).1
              simp only [fldK] at v0 v1 v2
              exact bodyPost_ret (v := .tuple #[.agg #[.int .i64 0, .int .i64 0, .int .i64 0], .int .i64 72]) (by simp [results, Tryd.f50, go_sem, v0, v1, v2]) rfl ⟨by rw [HV.out.1, HV.out.2], HBs.out⟩
          · have e35 : ((v : Int) == 35) = false := by rw [beq_eq_false_iff_ne]; omega
            by_cases hg : 48 ≤ v
            · have g48 : (48 : Int) ≤ (v : Int) := by omega
              by_cases hd : v ≤ 57
              · have l57 : (v : Int) ≤ 57 := by omega
                by_cases hb : x < 1000000000000000
                · have lx : (x : Int) < 1000000000000000 := by omega
                  have x0 : (0 : Int) ≤ (x : Int) := by omega
                  have hst := HS2.out ⟨hg, hd⟩ hb
                  have HNx := Lib.hid (show pfold (s.take (i + 1)) p0 = some ⟨a, fun j => if j = a then 10 * x + v - 48 else g j⟩ by rw [HTk.out, pfold_snoc, HF.out]; exact hst)
                  have HNs := Lib.hid (HNA.out.set a (by omega) (10 * x + v - 48))
                  have HKs := Lib.hid ((Below.heap_setCell wr ⟨w.heap.size + 1, a, none⟩ (.int .i64 ((10 * x + v - 48 : Nat) : Int)) w.heap.size (by simp)).trans HKA.out)
                  have HBt := Lib.hid (HB.out.setCell (p := ⟨w.heap.size + 1, a, none⟩) (by simp) (.int .i64 ((10 * x + v - 48 : Nat) : Int)))
                  have hvv : 10 * (x : Int) + (v : Int) - 48 = ((10 * x + v - 48 : Nat) : Int) := by omega
                  have w1 : IntKind.i64.wrap (10 * (x : Int)) = 10 * (x : Int) := by rw [IntKind.wrap_i64]; omega
                  have w2 : IntKind.i64.wrap (10 * (x : Int) + (v : Int)) = 10 * (x : Int) + (v : Int) := by rw [IntKind.wrap_i64]; omega
                  have w3 : IntKind.i64.wrap (10 * (x : Int) + (v : Int) - 48) = 10 * (x : Int) + (v : Int) - 48 := by rw [IntKind.wrap_i64]; omega
                  have w4 : IntKind.i64.wrap (v : Int) = (v : Int) := by rw [IntKind.wrap_i64]; omega
                  have HVV := Lib.hid hvv
                  have i0 : (0 : Int) ≤ (i : Int) := by omega
                  clear hst hg hd hb h64 h35 hvv k0 k1 k2 f0 f1 f2
                  go_wp2_with fail
                  go_region
                  all_goals
                    go_wp2_with fail
                    go_roundw
                    case rel =>
                      rw [HVV.out]
                      exact ⟨i + 1, a, _, by omega, by omega, HNx.out, rfl, by go_num, HNs.out, HKs.out, HBt.out.drew⟩
                    case measure => simp [intOf]; omega
                · have lx : ¬ (x : Int) < 1000000000000000 := by omega
                  have hno := HNot.out (HS3.out (fun h => h.elim (fun k => h64 (HC64.out.1 k.1)) (fun k => h35 (HC35.out.1 k.1))) (fun h => by omega))
                  have HV := Lib.hid (show pV s = (0, 0, 0) ∧ pE s = 72 from ⟨if_neg hno, if_neg hno⟩)
                  clear hno h64 h35 hg hd hb
                  go_wp2_with fail
                  have v0 := (hKs.out.cells 0 (by omega)).1
                  have v1 := (hKs.out.cells 1 (by omega)).1
                  have v2 := (hKs.out.cells 2 (by omega)).1
                  simp only [fldK] at v0 v1 v2
                  exact bodyPost_ret (v := .tuple #[.agg #[.int .i64 0, .int .i64 0, .int .i64 0], .int .i64 72]) (by simp [results, Tryd.f50, go_sem, v0, v1, v2]) rfl ⟨by rw [HV.out.1, HV.out.2], HBs.out⟩
              · have l57 : ¬ (v : Int) ≤ 57 := by omega
                have hno := HNot.out (HS3.out (fun h => h.elim (fun k => h64 (HC64.out.1 k.1)) (fun k => h35 (HC35.out.1 k.1))) (fun h => by omega))
                have HV := Lib.hid (show pV s = (0, 0, 0) ∧ pE s = 72 from ⟨if_neg hno, if_neg hno⟩)
                clear hno h64 h35 hg hd
                go_wp2_with fail
                have v0 := (hKs.out.cells 0 (by omega)).1
                have v1 := (hKs.out.cells 1 (by omega)).1
                have v2 := (hKs.out.cells 2 (by omega)).1
                simp only [fldK] at v0 v1 v2
                exact bodyPost_ret (v := .tuple #[.agg #[.int .i64 0, .int .i64 0, .int .i64 0], .int .i64 72]) (by simp [results, Tryd.f50, go_sem, v0, v1, v2]) rfl ⟨by rw [HV.out.1, HV.out.2], HBs.out⟩
            · have g48 : ¬ (48 : Int) ≤ (v : Int) := by omega
              have hno := HNot.out (HS3.out (fun h => h.elim (fun k => h64 (HC64.out.1 k.1)) (fun k => h35 (HC35.out.1 k.1))) (fun h => by omega))
              have HV := Lib.hid (show pV s = (0, 0, 0) ∧ pE s = 72 from ⟨if_neg hno, if_neg hno⟩)
              clear hno h64 h35 hg
              go_wp2_with fail
              have v0 := (hKs.out.cells 0 (by omega)).1
              have v1 := (hKs.out.cells 1 (by omega)).1
              have v2 := (hKs.out.cells 2 (by omega)).1
              simp only [fldK] at v0 v1 v2
              exact bodyPost_ret (v := .tuple #[.agg #[.int .i64 0, .int .i64 0, .int .i64 0], .int .i64 72]) (by simp [results, Tryd.f50, go_sem, v0, v1, v2]) rfl ⟨by rw [HV.out.1, HV.out.2], HBs.out⟩
      · have hi1 : (i : Int) < (n : Int) := by omega
        have hi2 : ¬ (i : Int) < 40 := by omega
        have hfe : pfold (s.take 40) p0 = some ⟨a, g⟩ := by
          rw [← HF.out]
          congr 1
          rw [show i = 40 by omega]
        have HE := Lib.hid (parse_end hfe)
        clear hfe h1 h2
        have HTx := Lib.hid (fun W => rTextK_any ((g 0 : Int), (g 1 : Int), (g 2 : Int)) W)
        simp only at HE HTx
        have b0 := (HNA.out.cell 0 (by omega)).1
        have b1 := (HNA.out.cell 1 (by omega)).1
        have b2 := (HNA.out.cell 2 (by omega)).1
        simp only at b0 b1 b2
        generalize tL ((g 0 : Int), (g 1 : Int), (g 2 : Int)) = tl at *
        generalize oE ((g 0 : Int), (g 1 : Int), (g 2 : Int)) = oe at *
        generalize (g 0 : Int) = g0 at *
        generalize (g 1 : Int) = g1 at *
        generalize (g 2 : Int) = g2 at *
        have hb := (Below.refl wr.heap.size wr).alloc (Nat.le_refl _) (.cells #[.int .i64 g0, .int .i64 g1, .int .i64 g2] 23)
        have HKa := Lib.hid (HKA.out.below hb)
        have HBa := Lib.hid (HB.out.trans (hb.mono HB.out.size))
        have K7 := Lib.hid (show KAt (wr.alloc (.cells #[.int .i64 g0, .int .i64 g1, .int .i64 g2] 23)) wr.heap.size (g0, g1, g2) from World.alloc_heap_new wr _)
        clear hb
        go_wp2_with fail
        clear b0 b1 b2
        refine (HTx.out _).mono ?_
        rintro e w5 ⟨rfl, hb⟩
        have HB5 := Lib.hid (HBa.out.trans (hb.mono HBa.out.size))
        have hkr := HKa.out.below hb
        have hk7 := K7.out.below hb
        clear hb
        have x0 := (hk7.cells 0 (by omega)).1
        have x1 := (hk7.cells 1 (by omega)).1
        have x2 := (hk7.cells 2 (by omega)).1
        have k0 := (hkr.cells 0 (by omega)).1
        have k1 := (hkr.cells 1 (by omega)).1
        have k2 := (hkr.cells 2 (by omega)).1
        have f0 := (hkr.cells 0 (by omega)).2
        have f1 := (hkr.cells 1 (by omega)).2
        have f2 := (hkr.cells 2 (by omega)).2
        simp only [fldK] at x0 x1 x2 k0 k1 k2
        have hKs := Lib.hid (kat_set hkr g0 g1 g2)
        have hKz := Lib.hid (kat_set hkr 0 0 0)
        have HBs := Lib.hid (set3_below HB5.out (Nat.le_refl _) (.int .i64 g0) (.int .i64 g1) (.int .i64 g2))
        have HBz := Lib.hid (set3_below HB5.out (Nat.le_refl _) (.int .i64 0) (.int .i64 0) (.int .i64 0))
        clear hkr hk7
        by_cases hq : oe = 0 ∧ tl = s
        · have he := HE.out
          rw [if_pos hq] at he
          have HV := Lib.hid he
          obtain ⟨rfl, rfl⟩ := hq
          clear he HE
          go_wp2_with fail
          have v0 := (hKs.out.cells 0 (by omega)).1
          have v1 := (hKs.out.cells 1 (by omega)).1
          have v2 := (hKs.out.cells 2 (by omega)).1
          simp only [fldK] at v0 v1 v2
          exact bodyPost_ret (v := .tuple #[.agg #[.int .i64 g0, .int .i64 g1, .int .i64 g2], .int .i64 0]) (by simp [results, Tryd.f50, go_sem, v0, v1, v2]) rfl ⟨by rw [HV.out.1, HV.out.2], HBs.out⟩
        · have he := HE.out
          rw [if_neg hq] at he
          have HV := Lib.hid he
          clear he HE
          by_cases ho : oe = 0
          · have o1 : (oe != 0) = false := by simp [ho]
            have o2 : (tl == s) = false := by rw [beq_eq_false_iff_ne]; exact fun h => hq ⟨ho, h⟩
            clear hq ho
            go_wp2_with fail
            have v0 := (hKz.out.cells 0 (by omega)).1
            have v1 := (hKz.out.cells 1 (by omega)).1
            have v2 := (hKz.out.cells 2 (by omega)).1
            simp only [fldK] at v0 v1 v2
            exact bodyPost_ret (v := .tuple #[.agg #[.int .i64 0, .int .i64 0, .int .i64 0], .int .i64 72]) (by simp [results, Tryd.f50, go_sem, v0, v1, v2]) rfl ⟨by rw [HV.out.1, HV.out.2], HBz.out⟩
          · have o1 : (oe != 0) = true := by simp [ho]
            clear hq ho
            go_wp2_with fail
            have v0 := (hKz.out.cells 0 (by omega)).1
            have v1 := (hKz.out.cells 1 (by omega)).1
            have v2 := (hKz.out.cells 2 (by omega)).1
            simp only [fldK] at v0 v1 v2
            exact bodyPost_ret (v := .tuple #[.agg #[.int .i64 0, .int .i64 0, .int .i64 0], .int .i64 72]) (by simp [results, Tryd.f50, go_sem, v0, v1, v2]) rfl ⟨by rw [HV.out.1, HV.out.2], HBz.out⟩
    · have hi1 : ¬ (i : Int) < (n : Int) := by omega
      have hfe : pfold (s.take 40) p0 = some ⟨a, g⟩ := by
        rw [← HF.out]
        congr 1
        rw [List.take_of_length_le (by rw [HN.out]; omega), List.take_of_length_le (by rw [HN.out]; omega)]
      have HE := Lib.hid (parse_end hfe)
      clear hfe h1
      have HTx := Lib.hid (fun W => rTextK_any ((g 0 : Int), (g 1 : Int), (g 2 : Int)) W)
      simp only at HE HTx
      have b0 := (HNA.out.cell 0 (by omega)).1
      have b1 := (HNA.out.cell 1 (by omega)).1
      have b2 := (HNA.out.cell 2 (by omega)).1
      simp only at b0 b1 b2
      generalize tL ((g 0 : Int), (g 1 : Int), (g 2 : Int)) = tl at *
      generalize oE ((g 0 : Int), (g 1 : Int), (g 2 : Int)) = oe at *
      generalize (g 0 : Int) = g0 at *
      generalize (g 1 : Int) = g1 at *
      generalize (g 2 : Int) = g2 at *
      have hb := (Below.refl wr.heap.size wr).alloc (Nat.le_refl _) (.cells #[.int .i64 g0, .int .i64 g1, .int .i64 g2] 23)
      have HKa := Lib.hid (HKA.out.below hb)
      have HBa := Lib.hid (HB.out.trans (hb.mono HB.out.size))
      have K7 := Lib.hid (show KAt (wr.alloc (.cells #[.int .i64 g0, .int .i64 g1, .int .i64 g2] 23)) wr.heap.size (g0, g1, g2) from World.alloc_heap_new wr _)
      clear hb
      go_wp2_with fail
      clear b0 b1 b2
      refine (HTx.out _).mono ?_
      rintro e w5 ⟨rfl, hb⟩
      have HB5 := Lib.hid (HBa.out.trans (hb.mono HBa.out.size))
      have hkr := HKa.out.below hb
      have hk7 := K7.out.below hb
      clear hb
      have x0 := (hk7.cells 0 (by omega)).1
      have x1 := (hk7.cells 1 (by omega)).1
      have x2 := (hk7.cells 2 (by omega)).1
      have k0 := (hkr.cells 0 (by omega)).1
      have k1 := (hkr.cells 1 (by omega)).1
      have k2 := (hkr.cells 2 (by omega)).1
      have f0 := (hkr.cells 0 (by omega)).2
      have f1 := (hkr.cells 1 (by omega)).2
      have f2 := (hkr.cells 2 (by omega)).2
      simp only [fldK] at x0 x1 x2 k0 k1 k2
      have hKs := Lib.hid (kat_set hkr g0 g1 g2)
      have hKz := Lib.hid (kat_set hkr 0 0 0)
      have HBs := Lib.hid (set3_below HB5.out (Nat.le_refl _) (.int .i64 g0) (.int .i64 g1) (.int .i64 g2))
      have HBz := Lib.hid (set3_below HB5.out (Nat.le_refl _) (.int .i64 0) (.int .i64 0) (.int .i64 0))
      clear hkr hk7
      by_cases hq : oe = 0 ∧ tl = s
      · have he := HE.out
        rw [if_pos hq] at he
        have HV := Lib.hid he
        obtain ⟨rfl, rfl⟩ := hq
        clear he HE
        go_wp2_with fail
        have v0 := (hKs.out.cells 0 (by omega)).1
        have v1 := (hKs.out.cells 1 (by omega)).1
        have v2 := (hKs.out.cells 2 (by omega)).1
        simp only [fldK] at v0 v1 v2
        exact bodyPost_ret (v := .tuple #[.agg #[.int .i64 g0, .int .i64 g1, .int .i64 g2], .int .i64 0]) (by simp [results, Tryd.f50, go_sem, v0, v1, v2]) rfl ⟨by rw [HV.out.1, HV.out.2], HBs.out⟩
      · have he := HE.out
        rw [if_neg hq] at he
        have HV := Lib.hid he
        clear he HE
        by_cases ho : oe = 0
        · have o1 : (oe != 0) = false := by simp [ho]
          have o2 : (tl == s) = false := by rw [beq_eq_false_iff_ne]; exact fun h => hq ⟨ho, h⟩
          clear hq ho
          go_wp2_with fail
          have v0 := (hKz.out.cells 0 (by omega)).1
          have v1 := (hKz.out.cells 1 (by omega)).1
          have v2 := (hKz.out.cells 2 (by omega)).1
          simp only [fldK] at v0 v1 v2
          exact bodyPost_ret (v := .tuple #[.agg #[.int .i64 0, .int .i64 0, .int .i64 0], .int .i64 72]) (by simp [results, Tryd.f50, go_sem, v0, v1, v2]) rfl ⟨by rw [HV.out.1, HV.out.2], HBz.out⟩
        · have o1 : (oe != 0) = true := by simp [ho]
          clear hq ho
          go_wp2_with fail
          have v0 := (hKz.out.cells 0 (by omega)).1
          have v1 := (hKz.out.cells 1 (by omega)).1
          have v2 := (hKz.out.cells 2 (by omega)).1
          simp only [fldK] at v0 v1 v2
          exact bodyPost_ret (v := .tuple #[.agg #[.int .i64 0, .int .i64 0, .int .i64 0], .int .i64 72]) (by simp [results, Tryd.f50, go_sem, v0, v1, v2]) rfl ⟨by rw [HV.out.1, HV.out.2], HBz.out⟩
end Go.Proofs.YtapaccbffhcjdaaDoor
