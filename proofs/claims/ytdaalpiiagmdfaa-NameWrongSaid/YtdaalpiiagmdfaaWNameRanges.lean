/-
  THE WALK of fermatalaw04.NameRanges: it returns true, and writes nothing that was there.
-/
import Derived.Test.YtdaalpiiagmdfaaNameSetP
import Derived.Test.YtdaalpiiagmdfaaNameAwake
import Derived.BigGuard
namespace Go.Proofs.Ytdaalpiiagmdfaa
open Go.RowKit Go.Shelf

theorem MRow.below {w w' : World} {v : Value} {l : List Nat} (h : MRow w v l) (hb : Below w.heap.size w w') : MRow w' v l := by
  rcases h with h | ⟨b, o, c, h1, h2, h3, h4⟩
  · exact .inl h
  · exact .inr ⟨b, o, c, h1, Nat.lt_of_lt_of_le h2 hb.size, h3, fun i x hx => (hb.cell (p := ⟨b, o + i, none⟩) h2).trans (h4 i x hx)⟩

set_option maxRecDepth 100000 in
set_option maxHeartbeats 4000000 in
theorem nameRanges_walk (v : Value) (l : List Nat) (q : Nat) (hq : q < 65536) (w : World) (h : MRow w v l) (hl : ∀ x ∈ l, x < 65536) (hlen : l.length ≤ maxLen) :
    Calls Try.prog 7 #[v, .int .u16 (q : Int)] w fun e w' => e = .returned (.bool true) ∧ Below w.heap.size w w' := by
  have hml := mades_len l
  have hmr := mades_right l
  have hsl := setL_len nmC (mades l)
  have hset := setL_set hmr (by omega)
  have hmem := fun p (hp : p ∈ setL nmC (mades l)) => hmr p ((setL_mem nmC_good (mades l) p).1 hp)
  obtain ⟨r1, r2, r3, r4⟩ := range_is hset (made_right q)
  have hsq := made_len q
  have A := Lib.hid (fun W => awake4_calls W)
  have MS := Lib.hid (fun W (h : MRow W v l) => mades_calls v l W h hl hlen)
  have OF := Lib.hid (fun v W (h : TRow W v (mades l)) => by
    have h := of_calls v (mades l) W h (by omega) (fun p hp => by have := right_len (hmr p hp); omega)
    rw [(of_mades l).1, (of_mades l).2] at h; exact h)
  have MD := Lib.hid (fun W => made_calls q hq W)
  have RG := Lib.hid (fun v W (h : TRow W v (setL nmC (mades l))) => by
    have h := range_calls v (setL nmC (mades l)) (madeN q) W h (by omega) (fun p hp => by have := right_len (hmem p hp); omega) (by omega)
    rw [r1] at h; exact h)
  have FD := Lib.hid (fun v W (h : TRow W v (setL nmC (mades l))) => find_calls v (setL nmC (mades l)) (madeN q) W h (by omega) (fun p hp => by have := right_len (hmem p hp); omega) (by omega))
  have UN := Lib.hid (fun i (hi : i < (setL nmC (mades l)).length) W => by
    have h := Under_calls (setL nmC (mades l))[i] (madeN q) W (by have := right_len (hmem _ (List.getElem_mem hi)); omega) (by omega)
    rw [r4 i hi] at h; exact h)
  have hm40 : (setL nmC (mades l)).length ≤ 40 := by omega
  have R3 := Lib.hid r3
  have H0 := Lib.hid h
  have OV := Lib.hid (show ∃ a n c, v = .slice a n c by rcases h with ⟨_, a, c, rfl⟩ | ⟨b, o, c, rfl, _⟩ <;> exact ⟨_, _, _, rfl⟩)
  clear hmr hset hmem r1 r3 r4 hl hlen h hsl hml
  generalize setL nmC (mades l) = m at *
  generalize mades l = ms at *
  generalize madeN q = s at *
  obtain ⟨T, hT⟩ : ∃ T, lookI m s + rangeN m s = T := ⟨_, rfl⟩
  rw [hT] at RG r2 UN
  have hFT : lookI m s ≤ T := by omega
  have R3' := Lib.hid (show lookH m s = true → ¬ (T : Int) ≤ (lookI m s : Int) from fun h => by have := R3.out h; omega)
  clear R3 hT
  generalize lookI m s = F at *
  generalize lookH m s = H at *
  have e1 : ((F : Int) != (F : Int)) = false := by simp
  have e2 : ¬ (T : Int) < (F : Int) := by omega
  have e3 : ¬ (m.length : Int) < (T : Int) := by omega
  have e4 : ¬ (F : Int) < 0 := by omega
  have e2d : decide (T < F) = false := decide_eq_false (by omega)
  have e3d : decide (m.length < T) = false := decide_eq_false (by omega)
  have e4d : decide ((F : Int) < 0) = false := decide_eq_false e4
  simp only [str] at *
  obtain ⟨a, n, c, rfl⟩ := OV.out
  clear OV
  go_enter Try.func7, Try.ntmps7
  go_wp2_with fail
  refine (A.out _).mono ?_
  rintro e w1 ⟨rfl, hb⟩
  have HB1 := Lib.hid hb
  have H1 := Lib.hid (H0.out.below hb)
  clear hb
  go_wp2_with fail
  refine (MS.out _ H1.out).mono ?_
  rintro e w2 ⟨v2, rfl, ho, hb⟩
  have HB2 := Lib.hid (HB1.out.trans (hb.mono HB1.out.size))
  have T2 := Lib.hid (trow_own ho)
  clear ho hb
  go_wp2_with fail
  refine (OF.out _ _ T2.out).mono ?_
  rintro e w3 ⟨v3, rfl, ho, hb⟩
  have HB3 := Lib.hid (HB2.out.trans (hb.mono HB2.out.size))
  have T3 := Lib.hid (trow_own ho)
  obtain ⟨a3, c3, rfl⟩ := ownsS_shape ho
  clear ho hb
  go_wp2_with fail
  refine (MD.out _).mono ?_
  rintro e w4 ⟨rfl, hb⟩
  have HB4 := Lib.hid (HB3.out.trans (hb.mono HB3.out.size))
  have T4 := Lib.hid (T3.out.below hb)
  clear hb
  go_wp2_with fail
  refine (RG.out _ _ T4.out).mono ?_
  rintro e w5 ⟨rfl, hb⟩
  have HB5 := Lib.hid (HB4.out.trans (hb.mono HB4.out.size))
  have T5 := Lib.hid (T4.out.below hb)
  clear hb
  go_wp2_with fail
  refine (FD.out _ _ T5.out).mono ?_
  rintro e w6 ⟨rfl, hb⟩
  have HB6 := Lib.hid (HB5.out.trans (hb.mono HB5.out.size))
  have T6 := Lib.hid (T5.out.below hb)
  clear hb
  cases H with
  | true =>
    have e5 := R3'.out rfl
    have e5d : decide (T ≤ F) = false := decide_eq_false (by omega)
    go_wp2
    go_loopw [72] (fun iv wr => ∃ k : Nat, k ≤ m.length ∧ iv = .int .i64 (k : Int) ∧ Below w.heap.size w wr ∧ TRow wr (.slice a3 m.length c3) m) (fun iv _ => m.length - (intOf iv).toNat)
    case atStart => exact ⟨0, by omega, rfl, HB6.out, T6.out⟩
    case round =>
      obtain ⟨k, hk, rfl, hbel, htr⟩ := hrel
      have HB := Lib.hid hbel
      have HT := Lib.hid htr
      have hsh := trow_shape htr
      clear hbel htr
      by_cases hlt : k < m.length
      · obtain ⟨a4, c4, he4, hl4⟩ := hsh
        obtain ⟨hc, b, o, hab, _, hcell⟩ := hl4 (by omega)
        simp only [Value.slice.injEq] at he4
        obtain ⟨rfl, _, rfl⟩ := he4
        subst hab
        have c1 := hcell k m[k] (List.getElem?_eq_getElem hlt)
        have HU := Lib.hid (UN.out k hlt)
        have hlt' : (k : Int) < (m.length : Int) := by omega
        clear hcell
        generalize m[k] = p at *
        by_cases hF : F ≤ k
        · have g1 : (F : Int) ≤ (k : Int) := by omega
          by_cases hTk : k < T
          · have g2 : (k : Int) < (T : Int) := by omega
            rw [decide_eq_true ⟨hF, hTk⟩] at HU
            clear hF hTk
            go_wp2_with fail
            refine (HU.out _).mono ?_
            rintro e w7 ⟨rfl, hb⟩
            have HB7 := Lib.hid (HB.out.trans (hb.mono HB.out.size))
            have T7 := Lib.hid (HT.out.below hb)
            clear hb
            go_wp2
            go_roundw
            case rel => exact ⟨k + 1, by omega, by go_num, HB7.out, T7.out⟩
            case measure => simp [intOf]; omega
          · have g2 : ¬ (k : Int) < (T : Int) := by omega
            rw [decide_eq_false (by omega)] at HU
            clear hF hTk
            go_wp2_with fail
            refine (HU.out _).mono ?_
            rintro e w7 ⟨rfl, hb⟩
            have HB7 := Lib.hid (HB.out.trans (hb.mono HB.out.size))
            have T7 := Lib.hid (HT.out.below hb)
            clear hb
            go_wp2
            go_roundw
            case rel => exact ⟨k + 1, by omega, by go_num, HB7.out, T7.out⟩
            case measure => simp [intOf]; omega
        · have g1 : ¬ (F : Int) ≤ (k : Int) := by omega
          rw [decide_eq_false (by omega)] at HU
          clear hF
          go_wp2_with fail
          refine (HU.out _).mono ?_
          rintro e w7 ⟨rfl, hb⟩
          have HB7 := Lib.hid (HB.out.trans (hb.mono HB.out.size))
          have T7 := Lib.hid (HT.out.below hb)
          clear hb
          go_wp2
          go_roundw
          case rel => exact ⟨k + 1, by omega, by go_num, HB7.out, T7.out⟩
          case measure => simp [intOf]; omega
      · obtain rfl : k = m.length := by omega
        have hnl : ¬ (m.length : Int) < (m.length : Int) := by omega
        go_wp2
        go_ret
        exact ⟨rfl, HB.out⟩
  | false =>
    go_wp2
    go_loopw [72] (fun iv wr => ∃ k : Nat, k ≤ m.length ∧ iv = .int .i64 (k : Int) ∧ Below w.heap.size w wr ∧ TRow wr (.slice a3 m.length c3) m) (fun iv _ => m.length - (intOf iv).toNat)
    case atStart => exact ⟨0, by omega, rfl, HB6.out, T6.out⟩
    case round =>
      obtain ⟨k, hk, rfl, hbel, htr⟩ := hrel
      have HB := Lib.hid hbel
      have HT := Lib.hid htr
      have hsh := trow_shape htr
      clear hbel htr
      by_cases hlt : k < m.length
      · obtain ⟨a4, c4, he4, hl4⟩ := hsh
        obtain ⟨hc, b, o, hab, _, hcell⟩ := hl4 (by omega)
        simp only [Value.slice.injEq] at he4
        obtain ⟨rfl, _, rfl⟩ := he4
        subst hab
        have c1 := hcell k m[k] (List.getElem?_eq_getElem hlt)
        have HU := Lib.hid (UN.out k hlt)
        have hlt' : (k : Int) < (m.length : Int) := by omega
        clear hcell
        generalize m[k] = p at *
        by_cases hF : F ≤ k
        · have g1 : (F : Int) ≤ (k : Int) := by omega
          by_cases hTk : k < T
          · have g2 : (k : Int) < (T : Int) := by omega
            rw [decide_eq_true ⟨hF, hTk⟩] at HU
            clear hF hTk
            go_wp2_with fail
            refine (HU.out _).mono ?_
            rintro e w7 ⟨rfl, hb⟩
            have HB7 := Lib.hid (HB.out.trans (hb.mono HB.out.size))
            have T7 := Lib.hid (HT.out.below hb)
            clear hb
            go_wp2
            go_roundw
            case rel => exact ⟨k + 1, by omega, by go_num, HB7.out, T7.out⟩
            case measure => simp [intOf]; omega
          · have g2 : ¬ (k : Int) < (T : Int) := by omega
            rw [decide_eq_false (by omega)] at HU
            clear hF hTk
            go_wp2_with fail
            refine (HU.out _).mono ?_
            rintro e w7 ⟨rfl, hb⟩
            have HB7 := Lib.hid (HB.out.trans (hb.mono HB.out.size))
            have T7 := Lib.hid (HT.out.below hb)
            clear hb
            go_wp2
            go_roundw
            case rel => exact ⟨k + 1, by omega, by go_num, HB7.out, T7.out⟩
            case measure => simp [intOf]; omega
        · have g1 : ¬ (F : Int) ≤ (k : Int) := by omega
          rw [decide_eq_false (by omega)] at HU
          clear hF
          go_wp2_with fail
          refine (HU.out _).mono ?_
          rintro e w7 ⟨rfl, hb⟩
          have HB7 := Lib.hid (HB.out.trans (hb.mono HB.out.size))
          have T7 := Lib.hid (HT.out.below hb)
          clear hb
          go_wp2
          go_roundw
          case rel => exact ⟨k + 1, by omega, by go_num, HB7.out, T7.out⟩
          case measure => simp [intOf]; omega
      · obtain rfl : k = m.length := by omega
        have hnl : ¬ (m.length : Int) < (m.length : Int) := by omega
        go_wp2
        go_ret
        exact ⟨rfl, HB.out⟩
end Go.Proofs.Ytdaalpiiagmdfaa
