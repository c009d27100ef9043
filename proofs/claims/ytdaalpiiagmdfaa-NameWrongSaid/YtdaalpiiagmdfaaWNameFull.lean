/-
  THE WALK of fermatalaw04.NameFull: it returns true, and writes nothing that was there.
-/
import Derived.Test.YtdaalpiiagmdfaaNameFullP
import Derived.Test.YtdaalpiiagmdfaaNameAwake
import Derived.Test.YtdaalpiiagmdfaaNameMades
namespace Go.Proofs.Ytdaalpiiagmdfaa
open Go.RowKit Go.Shelf

theorem conv2 (W : World) (a b : UInt8) (t : TypeId) : (convert 52 9 (.slice (some ⟨W.heap.size, 0, none⟩) 2 2)).run Try.prog (W.alloc (.cells #[.int .u8 (a.toNat : Int), .int .u8 (b.toNat : Int)] t)) = .ok (.string ⟨#[a, b]⟩) (W.alloc (.cells #[.int .u8 (a.toNat : Int), .int .u8 (b.toNat : Int)] t)) :=
  run_convert_bytes_back (P := Try.prog) _ 52 9 5 ⟨W.heap.size, 0, none⟩ 2 [a, b] Try.underlying52 Try.underlying5 Try.underlying9 (fun j hj => by
    have : j = 0 ∨ j = 1 := by simp at hj; omega
    rcases this with rfl | rfl <;> simp [Addr.add])

theorem trow_new1 (W : World) (s : List UInt8) (v : Value) (t : TypeId) (hv : v = str s) (g : Nat) (hg : g = W.heap.size) : TRow (W.alloc (.cells #[v] t)) (.slice (some ⟨g, 0, none⟩) 1 1) [s] := by
  subst hv hg
  refine .inr ⟨W.heap.size, 0, 1, rfl, by simp, Nat.le_refl _, fun i x hx => ?_⟩
  cases i with
  | zero => simp at hx; subst hx; exact cell_one_new W (str s) t 0 _ rfl
  | succ i => simp at hx

set_option maxRecDepth 100000 in
set_option maxHeartbeats 2000000 in
theorem nameFull_walk (n at' : Nat) (hn : n < 65536) (hat : at' < 65536) (w : World) :
    Calls Try.prog 9 #[.int .u16 (n : Int), .int .u16 (at' : Int)] w fun e w' => e = .returned (.bool true) ∧ Below w.heap.size w w' := by
  have AW := Lib.hid (fun W => awake4_calls W)
  obtain ⟨k, hk⟩ : ∃ k, n % 301 = k := ⟨_, rfl⟩
  have hk1 : k ≤ 300 := by omega
  have hk2 : (n : Int) % 301 = (k : Int) := by omega
  have HAt := Lib.hid hat
  clear hk hat
  go_enter Try.func9, Try.ntmps9
  go_wp2_with fail
  refine (AW.out _).mono ?_
  rintro e w1 ⟨rfl, hb⟩
  have HB1 := Lib.hid hb
  clear hb
  go_wp2_with fail
  simp only [hk2]
  clear hk2
  go_loopw [6, 19] (fun v i wr => ∃ j : Nat, j ≤ k ∧ i = .int .i64 (j : Int) ∧ OwnS wr w.heap.size v (fullN j) ∧ Below w.heap.size w wr) (fun _ i _ => k - (intOf i).toNat)
  case atStart => exact ⟨0, by omega, rfl, World.ownsRow_nil _ _ _ _, HB1.out⟩
  case round =>
    obtain ⟨j, hj, rfl, ho, hb⟩ := hrel
    have HO := Lib.hid ho
    have HB := Lib.hid hb
    clear ho hb
    by_cases hlt : j < k
    · have hA : (97 : Int) + (j : Int) / 26 = (((97 + j / 26).toUInt8.toNat : Nat) : Int) := by
        rw [show ((97 + j / 26).toUInt8).toNat = (97 + j / 26) % 256 from rfl]; omega
      have hC : (97 : Int) + (j : Int) % 26 = (((97 + j % 26).toUInt8.toNat : Nat) : Int) := by
        rw [show ((97 + j % 26).toUInt8).toNat = (97 + j % 26) % 256 from rfl]; omega
      have hcv := conv2 wr (97 + j / 26).toUInt8 (97 + j % 26).toUInt8 5
      have hnn : nn j = [110, (97 + j / 26).toUInt8, (97 + j % 26).toUInt8] := rfl
      generalize (97 + j / 26).toUInt8 = x at *
      generalize (97 + j % 26).toUInt8 = y at *
      have hlen := fullN_length j
      have HN := Lib.hid hnn
      have HLn := Lib.hid hlen
      clear hnn hlen
      go_wp2_with (at_builtin; refine wpList_appendS rfl _ _ rfl w.heap.size _ (fullN j) rfl (ownS_below HO.out (((Below.refl _ _).alloc (Nat.le_refl _) _).alloc (by simp) _)) _ [nn j] rfl (trow_new1 _ (nn j) _ _ (by rw [HN.out]; rfl) _ (by simp)) (by rw [HLn.out]; simp; omega) (by have := HB.out.size; simp; omega) ?_; intro v2 w2 ho2 hg2; have HO2 := Lib.hid ho2; have HB2 := Lib.hid ((((HB.out.alloc HB.out.size _).alloc (by have := HB.out.size; simp; omega) _)).grown hg2 (by have := HB.out.size; simp; omega) (fun q hq => own_from HO.out hq)); clear ho2 hg2)
      go_roundw
      case rel => exact ⟨j + 1, by omega, by go_num, by rw [fullN_succ]; exact HO2.out, HB2.out⟩
      case measure => simp [intOf]; omega
    · obtain rfl : j = k := by omega
      have hsh := fullN_short j
      have hlenJ := fullN_length j
      have HSh := Lib.hid hsh
      have HLj := Lib.hid hlenJ
      have HT := Lib.hid (trow_own HO.out)
      have HOf := Lib.hid (full_of j hk1)
      have h1000 : (fullN j ++ fullN j).length ≤ 1000000 := by rw [List.length_append, hlenJ]; omega
      have H1000 := Lib.hid h1000
      have hshort2 : ∀ p ∈ fullN j ++ fullN j, p.length ≤ 1000000 := fun p hp => hsh p (by simpa using hp)
      have HSh2 := Lib.hid hshort2
      clear hsh hlenJ h1000 hshort2 hj hlt
      go_wp2_with fail
      refine (copyTexts_calls _ (fullN j) _ HT.out (by rw [HLj.out]; omega)).mono ?_
      rintro e w2 ⟨v2, rfl, ho, hb⟩
      have HO2 := Lib.hid ho
      have HB2 := Lib.hid hb
      have HT2 := Lib.hid (HT.out.below hb)
      clear ho hb
      go_wp2_with (at_builtin; refine wpList_appendS rfl _ _ rfl wr.heap.size _ (fullN j) rfl HO2.out _ (fullN j) rfl HT2.out (by rw [HLj.out]; omega) HB2.out.size ?_; intro v3 w3 ho3 hg3; have HO3 := Lib.hid ho3; have HB3 := Lib.hid (HB2.out.grown hg3 HB2.out.size (fun q hq => own_from HO2.out hq)); clear ho3 hg3)
      refine (of_calls _ _ _ (trow_own HO3.out) H1000.out HSh2.out).mono ?_
      rintro e w4 ⟨v4, rfl, ho, hb⟩
      rw [HOf.out.2] at ho
      rw [HOf.out.1]
      have HO4 := Lib.hid ho
      have HBw := Lib.hid (HB.out.trans ((HB3.out.trans (hb.mono HB3.out.size)).mono HB.out.size))
      have HT4 := Lib.hid ((HT.out.below HB3.out).below hb)
      clear ho hb
      by_cases h256 : j ≤ 256
      · rw [if_pos h256] at HO4
        rw [if_pos h256]
        have hj256 : ¬ (256 : Int) < (j : Int) := by omega
        have HS4 := Lib.hid (fullN_set j h256)
        obtain ⟨a4, c4, rfl⟩ := ownsS_shape HO4.out
        have HT5 := Lib.hid (trow_own HO4.out)
        go_wp2_with fail
        with_reducible refine (sameTexts_calls _ _ _ _ _ HT5.out HT4.out (by rw [HLj.out]; omega)).mono ?_
        rintro e w5 ⟨rfl, q, hw⟩
        have hb5 : Below w4.heap.size w4 w5 := by rw [hw]; exact below_drewN (Below.refl _ _) _
        have HB5 := Lib.hid (HBw.out.trans (hb5.mono HBw.out.size))
        have HT6 := Lib.hid (HT5.out.below hb5)
        have HT7 := Lib.hid (HT4.out.below hb5)
        clear hw hb5
        have hzz : str zz = .string ⟨#[122, 122]⟩ := rfl
        have hAd := Lib.hid (fun W (h : TRow W (.slice a4 (fullN j).length c4) (fullN j)) => add_calls _ (fullN j) zz W h (by rw [HLj.out]; omega) HSh.out (by decide))
        rw [hzz] at hAd
        rw [decide_eq_true (rfl : fullN j = fullN j)]
        go_wp2_with fail
        with_reducible refine (hAd.out _ HT6.out).mono ?_
        rintro e w6 ⟨v6, rfl, ho, hb⟩
        have HO6 := Lib.hid ho
        have HB6 := Lib.hid (HB5.out.trans (hb.mono HB5.out.size))
        have HT8 := Lib.hid (HT6.out.below hb)
        have HT9 := Lib.hid (HT7.out.below hb)
        clear ho hb hAd
        by_cases hful : j = 256
        · subst hful
          obtain ⟨ea, ev⟩ := full_add_full
          rw [ev] at HO6
          rw [ea]
          obtain ⟨a6, c6, rfl⟩ := ownsS_shape HO6.out
          obtain ⟨aa, cc, rfl, hcc⟩ := trow_shape HT9.out
          obtain ⟨hc1, b, o, rfl, hb1, hcell⟩ := hcc (by rw [HLj.out]; omega)
          obtain ⟨m, hm⟩ : ∃ m, at' % 256 = m := ⟨_, rfl⟩
          have hm1 : m < 256 := by omega
          have hm2 : (at' : Int) % 256 = (m : Int) := by omega
          have hcm : w6.cell? ⟨b, o + m, none⟩ = some (.string ⟨(nn m).toArray⟩) := hcell m (nn m) (by simp [fullN, show m < 256 by omega])
          have hlz : ((fullN 256).length : Int) = 256 := by rw [HLj.out]; rfl
          have hc2 : (256 : Int) ≤ (cc : Int) := by rw [HLj.out] at hc1; omega
          have hm3 : (m : Int) < 256 := by omega
          have hadd2 : addE (fullN 256) (nn m) = 0 ∧ addV (fullN 256) (nn m) = fullN 256 := full_add_own m hm1
          have hAd2 := Lib.hid (fun W (h : TRow W (.slice a4 (fullN 256).length c4) (fullN 256)) => by
            have h2 := add_calls _ (fullN 256) (nn m) W h (by rw [HLj.out]; omega) HSh.out (by simp [nn])
            rw [hadd2.1, hadd2.2] at h2
            exact h2)
          have hs8 : str (nn m) = .string ⟨(nn m).toArray⟩ := rfl
          rw [hs8] at hAd2
          have HCm := Lib.hid hcm
          have hat2 := HAt.out
          clear hcell hadd2 hc1 hcc hs8 hm
          generalize (nn m).toArray = na at *
          simp only [List.length_nil] at *
          go_wp2_with fail
          with_reducible refine (hAd2.out _ HT8.out).mono ?_
          rintro e w7 ⟨v7, rfl, ho, hb⟩
          have HO7 := Lib.hid (trow_own ho)
          have HB7 := Lib.hid (HB6.out.trans (hb.mono HB6.out.size))
          have HT10 := Lib.hid (HT8.out.below hb)
          clear ho hb
          go_wp2_with fail
          with_reducible refine (sameTexts_calls _ _ _ _ _ HO7.out HT10.out (by rw [HLj.out]; omega)).mono ?_
          rintro e w8 ⟨rfl, q8, hw⟩
          have hb8 : Below w7.heap.size w7 w8 := by rw [hw]; exact below_drewN (Below.refl _ _) _
          have HB8 := Lib.hid (HB7.out.trans (hb8.mono HB7.out.size))
          clear hw hb8
          rw [decide_eq_true (rfl : fullN 256 = fullN 256)]
          go_wp2
          go_ret
          exact ⟨rfl, HB8.out⟩
        · obtain ⟨ea, ev⟩ := full_add j (by omega)
          rw [ev] at HO6
          rw [ea]
          obtain ⟨a6, c6, rfl⟩ := ownsS_shape HO6.out
          have HT10 := Lib.hid (trow_own HO6.out)
          have hl6 : (fullN j ++ [zz]).length = j + 1 := by rw [List.length_append, HLj.out]; rfl
          rw [hl6] at HT10 ⊢
          obtain ⟨aa, cc, hv, hcc⟩ := trow_shape HT10.out
          rw [hl6] at hcc hv
          obtain ⟨hc1, b, o, rfl, hb1, hcell⟩ := hcc (by omega)
          cases hv
          have hck : w6.cell? ⟨b, o + j, none⟩ = some (.string ⟨#[122, 122]⟩) := hcell j zz (by rw [List.getElem?_append_right (by rw [HLj.out]; omega), HLj.out]; simp)
          have hj1 : ((j : Int) == 256) = false := by rw [beq_eq_false_iff_ne]; omega
          clear hcell hcc
          go_wp2
          go_ret
          exact ⟨rfl, HB6.out⟩
      · rw [if_neg h256] at HO4
        rw [if_neg h256]
        have hj256 : (256 : Int) < (j : Int) := by omega
        obtain ⟨a4, c4, rfl⟩ := ownsS_shape HO4.out
        simp only [List.length_nil]
        go_wp2
        go_ret
        exact ⟨rfl, HBw.out⟩
end Go.Proofs.Ytdaalpiiagmdfaa
