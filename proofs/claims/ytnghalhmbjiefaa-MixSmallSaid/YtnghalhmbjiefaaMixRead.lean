/-
  CONTRACT of mix.Read: the number with a text; the world is left alone.
-/
import Derived.Test.YtnghalhmbjiefaaMixA
import Derived.Test.YtnghalhmbjiefaaMixText
import Derived.Test.YtnghalhmbjiefaaShelf
namespace Go.Proofs.Ytnghalhmbjiefaa
open Go.RowKit

attribute [-go_sem] run_index_string

def lettersL : List UInt8 := [48, 49, 50, 51, 52, 53, 54, 55, 56, 57, 97, 98, 99, 100, 101, 102, 103, 104, 105, 106, 107, 108, 109, 110, 111, 112, 113, 114, 115, 116, 117, 118]
theorem ib_letters (c : UInt8) : Lib.indexByte lettersL c = if dig32 c < 32 then (dig32 c : Int) else -1 := by
  have all : ∀ n, n < 256 → Lib.indexByte lettersL (UInt8.ofNat n) = if dig32 (UInt8.ofNat n) < 32 then (dig32 (UInt8.ofNat n) : Int) else -1 := by decide +kernel
  have e : UInt8.ofNat c.toNat = c := by simp
  have := all c.toNat (UInt8.toNat_lt c)
  rwa [e] at this
theorem index_byte (c : UInt8) (w : World) :
    Calls Try.prog 35 #[.string ⟨#[48, 49, 50, 51, 52, 53, 54, 55, 56, 57, 97, 98, 99, 100, 101, 102, 103, 104, 105, 106, 107, 108, 109, 110, 111, 112, 113, 114, 115, 116, 117, 118]⟩, .int .u8 (c.toNat : Int)] w
      fun e w' => e = .returned (.int .i64 (if dig32 c < 32 then (dig32 c : Int) else -1)) ∧ w = w' := by
  refine (Go.Proofs.Try.strings_IndexByte ⟨#[48, 49, 50, 51, 52, 53, 54, 55, 56, 57, 97, 98, 99, 100, 101, 102, 103, 104, 105, 106, 107, 108, 109, 110, 111, 112, 113, 114, 115, 116, 117, 118]⟩ (c.toNat : Int) w).mono ?_
  rintro e w' ⟨rfl, rfl⟩
  refine ⟨?_, rfl⟩
  rw [← ib_letters]
  have e1 : ((c.toNat : Int).toNat).toUInt8 = c := by simp
  rw [e1]
  rfl
theorem bits_or_u64_nat (a b : Nat) (ha : a < 18446744073709551616) (hb : b < 18446744073709551616) : bits .or .u64 (a : Int) (b : Int) = ((a ||| b : Nat) : Int) := by
  have hx : a ||| b < 2 ^ 64 := Nat.or_lt_two_pow (by omega) (by omega)
  have h1 : (BitVec.ofInt 64 (a : Int)).toNat = a := by
    rw [BitVec.ofInt_natCast, BitVec.toNat_ofNat]; exact Nat.mod_eq_of_lt (by omega)
  have h2 : (BitVec.ofInt 64 (b : Int)).toNat = b := by
    rw [BitVec.ofInt_natCast, BitVec.toNat_ofNat]; exact Nat.mod_eq_of_lt (by omega)
  show IntKind.u64.wrap ((BitVec.ofInt 64 (a : Int) ||| BitVec.ofInt 64 (b : Int)).toNat : Int) = _
  rw [BitVec.toNat_or, h1, h2, IntKind.wrap_u64]
  omega
theorem or_digit (x d : Nat) (hx : x * 32 < 18446744073709551616) (hd : d < 32) : bits .or .u64 ((x : Int) * 32) (d : Int) = ((x * 32 + d : Nat) : Int) := by
  have h := bits_or_u64_nat (x * 32) d hx (by omega)
  have h2 := Nat.shiftLeft_add_eq_or_of_lt (a := x) (b := d) (i := 5) (by omega)
  rw [Nat.shiftLeft_eq] at h2
  rw [h2]
  rw [Int.natCast_mul] at h
  exact h
theorem string_index (s : List UInt8) (k : Nat) (hk : k < s.length) (W : World) : (Instr.index 9 (.string ⟨s.toArray⟩) (.int .i64 (k : Int))).run Try.prog W = .ok (.int .u8 ((s.getD k 0).toNat : Int)) W := by
  have h1 : (0 : Int) ≤ (k : Int) ∧ (k : Int) < ((⟨s.toArray⟩ : ByteArray).size : Int) := ⟨by omega, by simp [ByteArray.size]; exact hk⟩
  rw [run_index_string W 9 ⟨s.toArray⟩ .i64 (k : Int) Try.underlying9, dif_pos h1]
  congr 2
  rw [List.getD_eq_getElem?_getD, List.getElem?_eq_getElem hk]
  rfl

def readV (s : List UInt8) : Nat := (readN s).getD 0
def readE (s : List UInt8) : Nat := if (readN s).isSome then 0 else 50
theorem readN_none {s : List UInt8} (h : readN s = none) : readV s = 0 ∧ readE s = 50 := by simp [readV, readE, h]
theorem readN_yes {s : List UInt8} {x : Nat} (h : readN s = some x) : readV s = x ∧ readE s = 0 := by simp [readV, readE, h]

theorem read_short (s : List UInt8) (w : World) (h : s.length ≠ 13) :
    Calls Try.prog 23 #[.string ⟨s.toArray⟩] w fun e w' => e = .returned (.tuple #[.int .u64 (readV s : Int), .int .i64 (readE s : Int)]) ∧ w = w' := by
  obtain ⟨e1, e2⟩ := readN_none (s := s) (by unfold readN; rw [if_neg (fun hc => h hc.1)])
  rw [e1, e2]
  have hsz : (⟨s.toArray⟩ : ByteArray).size = s.length := by simp [ByteArray.size]
  have hne : ((s.length : Int) != 13) = true := by rw [bne_iff_ne]; omega
  clear h
  go_enter Try.func23, Try.ntmps23
  go_wp2
  go_ret2
  exact ⟨rfl, rfl⟩

set_option maxRecDepth 100000 in
set_option maxHeartbeats 1000000 in
theorem read_13 (s : List UInt8) (w : World) (h : s.length = 13) :
    Calls Try.prog 23 #[.string ⟨s.toArray⟩] w fun e w' => e = .returned (.tuple #[.int .u64 (readV s : Int), .int .i64 (readE s : Int)]) ∧ w = w' := by
  have hsz : (⟨s.toArray⟩ : ByteArray).size = 13 := by simp [ByteArray.size]; exact h
  have HL := Lib.hid h
  clear h
  go_enter Try.func23, Try.ntmps23
  go_wp2
  go_loop [4, 12] (fun v4 i => ∃ k x : Nat, k ≤ 13 ∧ i = .int .i64 (k : Int) ∧ v4 = .int .u64 (x : Int) ∧ x = num32 ((s.take k).map dig32) ∧ (∀ c ∈ s.take k, dig32 c < 32) ∧ (0 < k → dig32 (s.headD 0) ≤ 15) ∧ x < 16 * 32 ^ (k - 1)) (fun _ i => 13 - (intOf i).toNat)
  case atStart => exact ⟨0, 0, by omega, rfl, rfl, by simp [num32], by simp, by omega, by omega⟩
  case round =>
    obtain ⟨k, x, hk, rfl, rfl, hx, hall, hfst, hb⟩ := hrel
    have HX := Lib.hid hx
    have HA := Lib.hid hall
    have HF := Lib.hid hfst
    have HB := Lib.hid hb
    clear hx hall hfst hb
    by_cases hlt : k < 13
    · have hlt2 := Lib.hid (show k < s.length by rw [HL.out]; exact hlt)
      have hidx := fun W => string_index s k hlt2.out W
      have hmem := Lib.hid (show s.getD k 0 ∈ s by rw [List.getD_eq_getElem?_getD, List.getElem?_eq_getElem hlt2.out]; exact List.getElem_mem hlt2.out)
      have hib := Lib.hid (fun W => index_byte (s.getD k 0) W)
      have hx32 : x * 32 < 18446744073709551616 := by
        have h1 := HB.out
        have h2 : (32 : Nat) ^ (k - 1) ≤ 32 ^ 11 := Nat.pow_le_pow_right (by omega) (by omega)
        have h3 : (32 : Nat) ^ 11 = 36028797018963968 := by rfl
        omega
      have htk := Lib.hid (show s.take (k + 1) = s.take k ++ [s.getD k 0] by
        rw [List.take_succ_eq_append_getElem hlt2.out, List.getD_eq_getElem?_getD, List.getElem?_eq_getElem hlt2.out]; rfl)
      have hhd := Lib.hid (show k = 0 → s.headD 0 = s.getD k 0 by
        rintro rfl
        cases s <;> rfl)
      obtain ⟨c, hc⟩ : ∃ c, c = s.getD k 0 := ⟨_, rfl⟩
      rw [← hc] at hidx hmem hib htk hhd
      clear hc
      by_cases hd : dig32 c < 32
      · rw [if_pos hd] at hib
        have hd0 : ¬ ((dig32 c : Int) < 0) := by omega
        have hor := or_digit x (dig32 c) hx32 hd
        have hw5 : IntKind.u64.wrap ((x : Int) * 32) = (x : Int) * 32 := by rw [IntKind.wrap_u64]; omega
        have hwd : IntKind.u64.wrap (dig32 c : Int) = (dig32 c : Int) := by rw [IntKind.wrap_u64]; omega
        by_cases hbad : k = 0 ∧ 15 < dig32 c
        · obtain ⟨rfl, h15⟩ := hbad
          have hno := Lib.hid (readN_none (s := s) (by unfold readN; rw [if_neg (fun hc => by have := hc.2.2; rw [hhd.out rfl] at this; omega)]))
          have h15' : (15 : Int) < (dig32 c : Int) := by omega
          have e0 : ((0 : Nat) : Int) = 0 := rfl
          generalize dig32 c = d at *
          rw [e0] at hidx ⊢
          go_wp2_with fail
          refine (hib.out _).mono ?_
          rintro e w' ⟨rfl, rfl⟩
          go_wp2
          go_ret2
          exact ⟨by rw [hno.out.1, hno.out.2]; rfl, rfl⟩
        · have hnew := Lib.hid (show x * 32 + dig32 c = num32 ((s.take (k + 1)).map dig32) by rw [htk.out, List.map_append, List.map_singleton, num32_snoc, ← HX.out])
          have hall := Lib.hid (show ∀ e ∈ s.take (k + 1), dig32 e < 32 by
            rw [htk.out]
            intro e he
            rcases List.mem_append.1 he with he | he
            · exact HA.out e he
            · rw [List.mem_singleton.1 he]; exact hd)
          have hfst := Lib.hid (show 0 < k + 1 → dig32 (s.headD 0) ≤ 15 by
            intro _
            by_cases h0 : k = 0
            · rw [hhd.out h0]; omega
            · exact HF.out (by omega))
          have hbnd := Lib.hid (show x * 32 + dig32 c < 16 * 32 ^ (k + 1 - 1) by
            by_cases h0 : k = 0
            · subst h0
              have h1 := HX.out
              have h2 : x = 0 := by rw [h1]; rfl
              rw [h2]; simp; omega
            · obtain ⟨j, rfl⟩ : ∃ j, k = j + 1 := ⟨k - 1, by omega⟩
              have h1 := HB.out
              simp only [Nat.add_sub_cancel] at h1 ⊢
              rw [Nat.pow_succ]
              omega)
          generalize hdd : dig32 c = d at *
          clear hdd
          by_cases h0 : k = 0
          · subst h0
            have h15 : ¬ ((15 : Int) < (d : Int)) := by omega
            have e0 : ((0 : Nat) : Int) = 0 := rfl
            rw [e0] at hidx ⊢
            clear hbad
            go_wp2_with fail
            refine (hib.out _).mono ?_
            rintro e w' ⟨rfl, rfl⟩
            go_wp2
            go_round
            case rel => exact ⟨1, x * 32 + d, by omega, rfl, rfl, hnew.out, hall.out, hfst.out, hbnd.out⟩
            case measure => simp [intOf]
          · have hk0 : ((k : Int) == 0) = false := beq_eq_false_iff_ne.2 (by omega)
            clear hbad h0
            go_wp2_with fail
            refine (hib.out _).mono ?_
            rintro e w' ⟨rfl, rfl⟩
            go_wp2
            go_round
            case rel => exact ⟨k + 1, x * 32 + d, by omega, by go_num, rfl, hnew.out, hall.out, hfst.out, hbnd.out⟩
            case measure => simp [intOf]; omega
      · rw [if_neg hd] at hib
        have hno := Lib.hid (readN_none (s := s) (by unfold readN; rw [if_neg (fun hc => hd (hc.2.1 c hmem.out))]))
        go_wp2_with fail
        refine (hib.out _).mono ?_
        rintro e w' ⟨rfl, rfl⟩
        go_wp2
        go_ret2
        exact ⟨by rw [hno.out.1, hno.out.2]; rfl, rfl⟩
    · obtain rfl : k = 13 := by omega
      have hyes := readN_yes (s := s) (x := x) (by
        unfold readN
        have ht : s.take 13 = s := List.take_of_length_le (by rw [HL.out]; exact Nat.le_refl _)
        have h1 := HA.out
        have h2 := HX.out
        rw [ht] at h1 h2
        rw [if_pos ⟨HL.out, h1, HF.out (by omega)⟩, h2])
      have HY := Lib.hid hyes
      clear hyes
      go_wp2
      go_ret2
      exact ⟨by rw [HY.out.1, HY.out.2]; rfl, rfl⟩
theorem read_calls (s : List UInt8) (w : World) :
    Calls Try.prog 23 #[.string ⟨s.toArray⟩] w fun e w' => e = .returned (.tuple #[.int .u64 (readV s : Int), .int .i64 (readE s : Int)]) ∧ w = w' := by
  by_cases h : s.length = 13
  · exact read_13 s w h
  · exact read_short s w h
end Go.Proofs.Ytnghalhmbjiefaa
