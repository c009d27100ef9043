/-
  CONTRACTS of the document's own Unmix, Text and Read of layer 5.
-/
import Derived.Test.YtnghalhmbjiefaaMixRefA
import Derived.Test.YtnghalhmbjiefaaMixTextC
import Derived.Test.YtnghalhmbjiefaaMixRead
namespace Go.Proofs.Ytnghalhmbjiefaa
open Go.RowKit

theorem rUnmix_calls (x : BitVec 64) (w : World) :
    Calls Try.prog 27 #[.int .u64 (x.toNat : Int)] w fun e w' => e = .returned (.int .u64 ((unmixB x).toNat : Int)) ∧ ∃ n, w' = w.drewN n := by
  have h1 := Lib.hid (fun W => runfold_calls x 31 (by omega) (by omega) W)
  have g1 := Lib.hid (fun W => divided_calls (unfoldB x 31) (unfoldB x 31 * invSecondB) secondB (by rw [BitVec.mul_assoc, BitVec.mul_comm invSecondB, second_inv, BitVec.mul_one]) (by decide +kernel) W)
  have h2 := Lib.hid (fun W => runfold_calls (unfoldB x 31 * invSecondB) 27 (by omega) (by omega) W)
  have g2 := Lib.hid (fun W => divided_calls (unfoldB (unfoldB x 31 * invSecondB) 27) (unfoldB (unfoldB x 31 * invSecondB) 27 * invFirstB) firstB (by rw [BitVec.mul_assoc, BitVec.mul_comm invFirstB, first_inv, BitVec.mul_one]) (by decide +kernel) W)
  have h3 := Lib.hid (fun W => runfold_calls (unfoldB (unfoldB x 31 * invSecondB) 27 * invFirstB) 30 (by omega) (by omega) W)
  have hx : unmixB x = unfoldB (unfoldB (unfoldB x 31 * invSecondB) 27 * invFirstB) 30 := rfl
  rw [hx]
  generalize unfoldB (unfoldB (unfoldB x 31 * invSecondB) 27 * invFirstB) 30 = m5 at *
  generalize unfoldB (unfoldB x 31 * invSecondB) 27 * invFirstB = m4 at *
  generalize unfoldB (unfoldB x 31 * invSecondB) 27 = m3 at *
  generalize unfoldB x 31 * invSecondB = m2 at *
  generalize unfoldB x 31 = m1 at *
  clear hx
  go_enter Try.func27, Try.ntmps27
  go_wp2_with fail
  refine (h1.out _).mono ?_
  rintro e w' ⟨rfl, rfl⟩
  go_wp2_with fail
  refine (g1.out _).mono ?_
  rintro e w' ⟨rfl, n1, rfl⟩
  go_wp2_with fail
  refine (h2.out _).mono ?_
  rintro e w' ⟨rfl, rfl⟩
  go_wp2_with fail
  refine (g2.out _).mono ?_
  rintro e w' ⟨rfl, n2, rfl⟩
  go_wp2_with fail
  refine (h3.out _).mono ?_
  rintro e w' ⟨rfl, rfl⟩
  go_wp2
  go_ret
  exact ⟨rfl, n1 + n2, by simp [World.drewN]⟩

theorem chr_low (d : Nat) (h : d < 10) : ((chr32 d).toNat : Int) = 48 + (d : Int) := by
  have all : ∀ d, d < 10 → ((chr32 d).toNat : Int) = 48 + (d : Int) := by decide
  exact all d h
theorem chr_high (d : Nat) (h : ¬ d < 10) (h2 : d < 32) : ((chr32 d).toNat : Int) = 87 + (d : Int) := by
  have all : ∀ d, d < 32 → ¬ d < 10 → ((chr32 d).toNat : Int) = 87 + (d : Int) := by decide
  exact all d h2 h
theorem make_13 (w : World) : (Instr.makeSlice 52 (.int .i64 13) (.int .i64 13)).run Try.prog w = .ok (.slice (some ⟨w.heap.size, 0, none⟩) 13 13) (w.alloc (.cells #[.int .u8 0, .int .u8 0, .int .u8 0, .int .u8 0, .int .u8 0, .int .u8 0, .int .u8 0, .int .u8 0, .int .u8 0, .int .u8 0, .int .u8 0, .int .u8 0, .int .u8 0] 5)) := by kernel_rfl

set_option maxRecDepth 100000 in
set_option maxHeartbeats 1000000 in
theorem rtext_calls (x : Nat) (hx : x < 18446744073709551616) (w : World) :
    Calls Try.prog 28 #[.int .u64 (x : Int)] w fun e w' => e = .returned (.string ⟨(textN x).toArray⟩) ∧ Below w.heap.size w w' := by
  have hmk := fun w => make_13 w
  go_enter Try.func28, Try.ntmps28
  go_wp2
  clear hmk
  go_loopw [0, 4] (fun xx i wr => ∃ k q : Nat, k ≤ 13 ∧ i = .int .i64 (12 - (k : Int)) ∧ q = x / 32 ^ k ∧ xx = .int .u64 (q : Int) ∧ wr.heap[w.heap.size]? = some (.cells (txt (lowD x k)).toArray 5 (0, 0)) ∧ Below w.heap.size w wr) (fun _ i _ => (intOf i + 1).toNat)
  case atStart => exact ⟨0, x, by omega, rfl, by simp, rfl, World.alloc_heap_new w _, (Below.refl _ _).alloc (Nat.le_refl _) _⟩
  case round =>
    obtain ⟨k, q, hk, rfl, hq, rfl, hrow, hbel⟩ := hrel
    have hlow := lowD_length x k
    by_cases hlt : k < 13
    · obtain ⟨j, hj⟩ : ∃ j : Nat, k + j + 1 = 13 := ⟨12 - k, by omega⟩
      have ej : (12 : Int) - (k : Int) = (j : Int) := by omega
      rw [ej]
      have hql : q < 18446744073709551616 := by rw [hq]; exact Nat.lt_of_le_of_lt (Nat.div_le_self _ _) hx
      have hdiv := Lib.hid (show q / 32 = x / 32 ^ (k + 1) by rw [hq, Nat.div_div_eq_div_mul, Nat.pow_succ])
      have hsn : (txt (lowD x k)).toArray.setIfInBounds j (.int .u8 ((chr32 (q % 32)).toNat : Int)) = (txt (lowD x (k + 1))).toArray := by
        rw [txt_snoc (lowD x k) ⟨q % 32, Nat.mod_lt _ (by omega)⟩ j (by rw [hlow]; omega)]
        subst hq
        rfl
      have HS := Lib.hid hsn
      have hlen : (txt (lowD x k)).length = 13 := by simp [txt, hlow]; omega
      obtain ⟨old, c3⟩ : ∃ old, wr.cell? ⟨w.heap.size, j, none⟩ = some old := ⟨(txt (lowD x k)).toArray[j]'(by simp [hlen]; omega), by
        rw [cell_of_row _ _ j _ _ (0, 0) hrow]; exact Array.getElem?_eq_getElem _⟩
      have f3 : wr.frozen? ⟨w.heap.size, j, none⟩ = false := by simp [World.frozen?, hrow]
      have HR := Lib.hid hrow
      have HB := Lib.hid hbel
      obtain ⟨d, hd⟩ : ∃ d : Nat, (q : Int) % 32 = (d : Int) := ⟨q % 32, by omega⟩
      have hdl : d < 32 := by omega
      have hd2 : q % 32 = d := by omega
      rw [hd2] at HS
      clear hsn hlen hrow hbel hq hd2 hlow ej hx
      have HJ := Lib.hid hj
      have hj13 : (j : Int) < 13 := by omega
      clear hj
      by_cases h10 : d < 10
      · have hc := Lib.hid (chr_low d h10)
        rw [hc.out] at HS
        go_wp2
        go_roundw
        case rel =>
          refine ⟨k + 1, q / 32, by omega, by have := HJ.out; congr 1; omega, hdiv.out, rfl, ?_, HB.out.setCell (p := ⟨w.heap.size, j, none⟩) (Nat.le_refl _) _⟩
          rw [setCell_row _ _ _ _ _ HR.out, HS.out]
        case measure => simp [intOf]
      · have hc := Lib.hid (chr_high d h10 hdl)
        rw [hc.out] at HS
        go_wp2
        go_roundw
        case rel =>
          refine ⟨k + 1, q / 32, by omega, by have := HJ.out; congr 1; omega, hdiv.out, rfl, ?_, HB.out.setCell (p := ⟨w.heap.size, j, none⟩) (Nat.le_refl _) _⟩
          rw [setCell_row _ _ _ _ _ HR.out, HS.out]
        case measure => simp [intOf]
    · obtain rfl : k = 13 := by omega
      have hlt : (textN x).length = 13 := textN_length x
      have hconv : (convert 52 9 (.slice (some ⟨w.heap.size, 0, none⟩) 13 13)).run Try.prog wr = .ok (.string ⟨(textN x).toArray⟩) wr := by
        have := run_convert_bytes_back (P := Try.prog) wr 52 9 5 ⟨w.heap.size, 0, none⟩ 13 (textN x) Try.underlying52 Try.underlying5 Try.underlying9 (fun j hj => by
          have hadd : (⟨w.heap.size, 0, none⟩ : Addr).add j = ⟨w.heap.size, j, none⟩ := by unfold Addr.add; split <;> simp_all
          rw [hadd, cell_of_row _ _ j _ _ (0, 0) hrow, txt_done]
          simp [hj, U8v])
        rwa [hlt] at this
      have HB := Lib.hid hbel
      have hi : (12 : Int) - ((13 : Nat) : Int) = -1 := by omega
      rw [hi]
      clear hrow hbel hq hlow hlt hi
      go_wp2
      go_ret
      exact ⟨rfl, HB.out⟩

/-- The digit that the document's own Read takes of a byte. -/
def digR (c : UInt8) : Nat := if dig32 c < 32 then dig32 c else 0
theorem digR_low (c : UInt8) (h1 : 48 ≤ c.toNat) (h2 : c.toNat ≤ 57) : digR c = c.toNat - 48 := by
  have h : dig32 c = c.toNat - 48 := by unfold dig32; rw [if_pos ⟨h1, h2⟩]
  unfold digR
  rw [h, if_pos (by omega)]
theorem digR_high (c : UInt8) (h1 : 97 ≤ c.toNat) (h2 : c.toNat ≤ 118) : digR c = c.toNat - 87 := by
  have h : dig32 c = c.toNat - 87 := by unfold dig32; rw [if_neg (by omega), if_pos ⟨h1, h2⟩]
  unfold digR
  rw [h, if_pos (by omega)]
theorem digR_none (c : UInt8) (h1 : ¬ (48 ≤ c.toNat ∧ c.toNat ≤ 57)) (h2 : ¬ (97 ≤ c.toNat ∧ c.toNat ≤ 118)) : digR c = 0 := by
  have h : dig32 c = 32 := by unfold dig32; rw [if_neg h1, if_neg h2]
  unfold digR
  rw [h, if_neg (by omega)]
def numR (l : List UInt8) : Nat := num32 (l.map digR) % 18446744073709551616
theorem numR_snoc (l : List UInt8) (c : UInt8) : numR (l ++ [c]) = (numR l * 32 + digR c) % 18446744073709551616 := by
  unfold numR
  rw [List.map_append, List.map_singleton, num32_snoc]
  omega
theorem numR_read {s : List UInt8} {x : Nat} (h : readN s = some x) : s.length = 13 ∧ numR s = x := by
  obtain ⟨hx, ht⟩ := readN_some h
  unfold readN at h
  split at h
  · rename_i hc
    simp only [Option.some.injEq] at h
    refine ⟨hc.1, ?_⟩
    unfold numR
    have e : s.map digR = s.map dig32 := List.map_congr_left (fun c hm => by unfold digR; rw [if_pos (hc.2.1 c hm)])
    rw [e, h]
    exact Nat.mod_eq_of_lt hx
  · cases h

set_option maxRecDepth 100000 in
set_option maxHeartbeats 1000000 in
theorem rread_calls (s : List UInt8) (w : World) (hs : s.length ≤ 1000000) :
    Calls Try.prog 29 #[.string ⟨s.toArray⟩] w fun e w' => e = .returned (.tuple #[.int .u64 (readV s : Int), .int .i64 (readE s : Int)]) ∧ Below w.heap.size w w' := by
  have hsz : (⟨s.toArray⟩ : ByteArray).size = s.length := by simp [ByteArray.size]
  go_enter Try.func29, Try.ntmps29
  go_wp2
  go_loop [4, 5] (fun xx i => ∃ k v : Nat, k ≤ 13 ∧ k ≤ s.length ∧ i = .int .i64 (k : Int) ∧ xx = .int .u64 (v : Int) ∧ v = numR (s.take k)) (fun _ i => 13 - (intOf i).toNat)
  case atStart => exact ⟨0, 0, by omega, by omega, rfl, rfl, by simp [numR, num32]⟩
  case round =>
    obtain ⟨k, v, hk, hks, rfl, rfl, hv⟩ := hrel
    by_cases hlt : k < 13 ∧ k < s.length
    · obtain ⟨hk13, hkl⟩ := hlt
      have hidx := fun W => string_index s k hkl W
      have hnext := Lib.hid (show numR (s.take (k + 1)) = (v * 32 + digR (s.getD k 0)) % 18446744073709551616 by
        rw [hv, ← numR_snoc, List.take_succ_eq_append_getElem hkl, List.getD_eq_getElem?_getD, List.getElem?_eq_getElem hkl]; rfl)
      have hvl : v < 18446744073709551616 := by rw [hv]; exact Nat.mod_lt _ (by omega)
      obtain ⟨c, hc⟩ : ∃ c, c = s.getD k 0 := ⟨_, rfl⟩
      rw [← hc] at hidx hnext
      have hP : IntKind.u64.wrap ((v : Int) * 32) = ((v * 32 % 18446744073709551616 : Nat) : Int) := by rw [IntKind.wrap_u64]; omega
      have hd1 := digR_low c
      have hd2 := digR_high c
      have hd3 := digR_none c
      have hb := UInt8.toNat_lt c
      generalize digR c = d at *
      generalize c.toNat = b at *
      clear hc hv
      by_cases h1 : 97 ≤ b ∧ b ≤ 118
      · obtain ⟨h1a, h1b⟩ := h1
        have hdd := hd2 h1a h1b
        have hA : IntKind.u64.wrap (((v * 32 % 18446744073709551616 : Nat) : Int) + ((b : Int) - 87)) = (((v * 32 + d) % 18446744073709551616 : Nat) : Int) := by rw [IntKind.wrap_u64]; omega
        have e1 : (97 : Int) ≤ (b : Int) := by omega
        have e2 : (b : Int) ≤ 118 := by omega
        have e3 : ¬ (b : Int) ≤ 57 := by omega
        have e4 : (48 : Int) ≤ (b : Int) := by omega
        clear hd1 hd2 hd3 hdd
        generalize v * 32 % 18446744073709551616 = P at *
        generalize (v * 32 + d) % 18446744073709551616 = v2 at *
        go_wp2
        go_round
        case rel => exact ⟨k + 1, v2, by omega, by omega, by go_num, rfl, hnext.out.symm⟩
        case measure => simp [intOf]; omega
      · by_cases h2 : 48 ≤ b ∧ b ≤ 57
        · obtain ⟨h2a, h2b⟩ := h2
          have hdd := hd1 h2a h2b
          have hA : IntKind.u64.wrap (((v * 32 % 18446744073709551616 : Nat) : Int) + ((b : Int) - 48)) = (((v * 32 + d) % 18446744073709551616 : Nat) : Int) := by rw [IntKind.wrap_u64]; omega
          have e1 : ¬ (97 : Int) ≤ (b : Int) := by omega
          have e3 : (b : Int) ≤ 57 := by omega
          have e4 : (48 : Int) ≤ (b : Int) := by omega
          clear hd1 hd2 hd3 hdd h1
          generalize v * 32 % 18446744073709551616 = P at *
          generalize (v * 32 + d) % 18446744073709551616 = v2 at *
          go_wp2
          go_round
          case rel => exact ⟨k + 1, v2, by omega, by omega, by go_num, rfl, hnext.out.symm⟩
          case measure => simp [intOf]; omega
        · have hdd := hd3 h2 h1
          have hA : IntKind.u64.wrap ((v : Int) * 32) = (((v * 32 + d) % 18446744073709551616 : Nat) : Int) := by rw [hP, hdd]; simp
          have hv2 : (v * 32 + d) % 18446744073709551616 < 18446744073709551616 := Nat.mod_lt _ (by omega)
          clear hd1 hd2 hd3 hdd hP
          generalize (v * 32 + d) % 18446744073709551616 = v2 at *
          have h3 : b < 48 ∨ (57 < b ∧ b < 97) ∨ 118 < b := by omega
          rcases h3 with h3 | ⟨h3, h4⟩ | h3
          · have e1 : ¬ (97 : Int) ≤ (b : Int) := by omega
            have e2 : ¬ (48 : Int) ≤ (b : Int) := by omega
            clear h1 h2
            go_wp2
            go_round
            case rel => exact ⟨k + 1, v2, by omega, by omega, by go_num, rfl, hnext.out.symm⟩
            case measure => simp [intOf]; omega
          · have e1 : ¬ (97 : Int) ≤ (b : Int) := by omega
            have e2 : (48 : Int) ≤ (b : Int) := by omega
            have e3 : ¬ (b : Int) ≤ 57 := by omega
            clear h1 h2
            go_wp2
            go_round
            case rel => exact ⟨k + 1, v2, by omega, by omega, by go_num, rfl, hnext.out.symm⟩
            case measure => simp [intOf]; omega
          · have e1 : (97 : Int) ≤ (b : Int) := by omega
            have e2 : (48 : Int) ≤ (b : Int) := by omega
            have e3 : ¬ (b : Int) ≤ 57 := by omega
            have e4 : ¬ (b : Int) ≤ 118 := by omega
            clear h1 h2
            go_wp2
            go_round
            case rel => exact ⟨k + 1, v2, by omega, by omega, by go_num, rfl, hnext.out.symm⟩
            case measure => simp [intOf]; omega
    · have hT := Lib.hid (fun W => rtext_calls v (by rw [hv]; exact Nat.mod_lt _ (by omega)) W)
      have hwrong := Lib.hid (fun (h : s.length = k) => show numR s = v by rw [hv, List.take_of_length_le (by omega)])
      have hvl : v < 18446744073709551616 := by rw [hv]; exact Nat.mod_lt _ (by omega)
      have hex : (k = s.length ∧ ¬ ((k : Int) < (s.length : Int))) ∨ (k = 13 ∧ (k : Int) < (s.length : Int) ∧ ¬ ((k : Int) < 13)) := by omega
      have hfin : ((textN v = s ∧ (v : Int) = (readV s : Int) ∧ (0 : Int) = (readE s : Int)) ∨ (textN v ≠ s ∧ (0 : Int) = (readV s : Int) ∧ (50 : Int) = (readE s : Int))) := by
        cases hr : readN s with
        | none =>
          obtain ⟨y1, y2⟩ := readN_none hr
          refine .inr ⟨fun e => ?_, by rw [y1]; rfl, by rw [y2]; rfl⟩
          rw [← e, readN_text v hvl] at hr
          cases hr
        | some x =>
          obtain ⟨y1, y2⟩ := readN_yes hr
          obtain ⟨y3, y4⟩ := numR_read hr
          have y5 : v = x := by rw [← hwrong.out (by omega), y4]
          subst y5
          exact .inl ⟨(readN_some hr).2, by rw [y1], by rw [y2]; rfl⟩
      clear hv hlt hwrong
      rcases hfin with ⟨t1, t2, t3⟩ | ⟨t1, t2, t3⟩
      · rw [t1] at hT
        have HV := Lib.hid (And.intro t2 t3)
        have hne : ((⟨s.toArray⟩ : ByteArray).toList != (⟨s.toArray⟩ : ByteArray).toList) = false := by simp
        clear t1 t2 t3
        rcases hex with ⟨q1, q2⟩ | ⟨rfl, q2, q3⟩
        · clear q1
          go_wp2_with fail
          refine (hT.out _).mono ?_
          rintro e w1 ⟨rfl, hb1⟩
          have HB1 := Lib.hid hb1
          clear hb1
          go_wp2
          go_ret2
          exact ⟨by rw [← HV.out.1, ← HV.out.2]; rfl, HB1.out⟩
        · go_wp2_with fail
          refine (hT.out _).mono ?_
          rintro e w1 ⟨rfl, hb1⟩
          have HB1 := Lib.hid hb1
          clear hb1
          go_wp2
          go_ret2
          exact ⟨by rw [← HV.out.1, ← HV.out.2]; rfl, HB1.out⟩
      · have HV := Lib.hid (And.intro t2 t3)
        have hne : ((⟨(textN v).toArray⟩ : ByteArray).toList == s) = false := by
          rw [Lib.toList_data, beq_eq_false_iff_ne]
          exact t1
        clear t1 t2 t3
        generalize (⟨(textN v).toArray⟩ : ByteArray) = T at *
        rcases hex with ⟨q1, q2⟩ | ⟨rfl, q2, q3⟩
        · clear q1
          go_wp2_with fail
          refine (hT.out _).mono ?_
          rintro e w1 ⟨rfl, hb1⟩
          have HB1 := Lib.hid hb1
          clear hb1
          go_wp2
          go_ret2
          exact ⟨by rw [← HV.out.1, ← HV.out.2]; rfl, HB1.out⟩
        · go_wp2_with fail
          refine (hT.out _).mono ?_
          rintro e w1 ⟨rfl, hb1⟩
          have HB1 := Lib.hid hb1
          clear hb1
          go_wp2
          go_ret2
          exact ⟨by rw [← HV.out.1, ← HV.out.2]; rfl, HB1.out⟩
end Go.Proofs.Ytnghalhmbjiefaa
