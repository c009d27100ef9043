/-
  CONTRACT of tells of fermatalaw06, and THE WALK of RngTells.
-/
import Derived.Test.YtfcajgfhmfpchaaRngG
namespace Go.Proofs.Ytfcajgfhmfpchaa
open Go.RowKit Pl

set_option maxRecDepth 100000 in
set_option maxHeartbeats 1000000 in
theorem tellsR_no (s v : BitVec 64) (p i n k : Int) (hp : p < 0 ∨ 65536 < p) (w : World) :
    Calls Try.prog 12 #[.int .u64 (s.toNat : Int), .int .i64 p, .int .i64 i, .int .i64 n, .int .i64 k, .int .u64 (v.toNat : Int)] w fun e w' => e = .returned (.bool true) ∧ Below w.heap.size w w' := by
  have hK := Lib.hid (fun W => key_no s p hp W)
  have hV := Lib.hid (fun W => value_no s p i (.inl hp) W)
  have hD := Lib.hid (fun W => draw_no s p i n (.inl hp) W)
  have hF := Lib.hid (fun W => find_no s p v hp W)
  have hP := Lib.hid (fun W => rProcess_no p hp W)
  clear hp
  go_enter Try.func12, Try.ntmps12
  go_wp2_with fail
  refine (hK.out _).mono ?_
  rintro e w1 ⟨rfl, hb⟩
  have HB1 := Lib.hid hb
  clear hb
  go_wp2_with fail
  refine (hV.out _).mono ?_
  rintro e w2 ⟨rfl, hb⟩
  have HB2 := Lib.hid (HB1.out.trans (hb.mono HB1.out.size))
  clear hb
  go_wp2_with fail
  refine (hD.out _).mono ?_
  rintro e w3 ⟨rfl, hb⟩
  have HB3 := Lib.hid (HB2.out.trans (hb.mono HB2.out.size))
  clear hb
  go_wp2_with fail
  refine (hF.out _).mono ?_
  rintro e w4 ⟨rfl, hb⟩
  have HB4 := Lib.hid (HB3.out.trans (hb.mono HB3.out.size))
  clear hb
  go_wp2_with fail
  refine (hP.out _).mono ?_
  rintro e w' ⟨rfl, rfl⟩
  go_wp2
  go_ret
  exact ⟨rfl, HB4.out⟩

set_option maxRecDepth 100000 in
set_option maxHeartbeats 1000000 in
theorem tellsR_yes (s v : BitVec 64) (p : Nat) (i n k : Int) (hp : p ≤ 65536) (hn : n ≤ 9223372036854775807) (w : World) :
    Calls Try.prog 12 #[.int .u64 (s.toNat : Int), .int .i64 (p : Int), .int .i64 i, .int .i64 n, .int .i64 k, .int .u64 (v.toNat : Int)] w fun e w' => e = .returned (.bool true) ∧ Below w.heap.size w w' := by
  have hK := Lib.hid (fun W => key_yes s p hp W)
  have hP := Lib.hid (fun W => rProcess_yes p hp W)
  have hRK := Lib.hid (fun W => rKey_calls s p hp W)
  have hBl := Lib.hid (fun W => belowL_calls v.toNat n k v.isLt hn W)
  have hI : ∃ x f d g : Int, ∃ vi : Bool, (∀ W : World, Calls Try.prog 23 #[.int .u64 (s.toNat : Int), .int .i64 (p : Int), .int .i64 i] W fun e w' => e = .returned (.tuple #[.int .u64 x, .int .i64 f]) ∧ Below W.heap.size W w')
      ∧ (∀ W : World, Calls Try.prog 27 #[.int .u64 (s.toNat : Int), .int .i64 (p : Int), .int .i64 i, .int .i64 n] W fun e w' => e = .returned (.tuple #[.int .i64 d, .int .i64 g]) ∧ Below W.heap.size W w')
      ∧ (∀ W : World, Calls Try.prog 30 #[.int .i64 i] W fun e w' => e = .returned (.bool vi) ∧ W = w')
      ∧ ((vi = false ∧ x = 0 ∧ f = 2 ∧ d = 0 ∧ g = 2) ∨ (vi = true ∧ f = 0 ∧
        (∀ W : World, Calls Try.prog 16 #[.int .u64 (s.toNat : Int), .int .i64 (p : Int), .int .i64 i] W fun e w' => e = .returned (.int .u64 x) ∧ Below W.heap.size W w')
        ∧ (∀ W : World, Calls Try.prog 24 #[.int .u64 (s.toNat : Int), .int .i64 (p : Int), .int .u64 x] W fun e w' => e = .returned (.tuple #[.int .i64 i, .int .i64 0]) ∧ Below W.heap.size W w')
        ∧ ((n < 1 ∧ d = 0 ∧ g = 60) ∨ (1 ≤ n ∧ g = 0 ∧ ∀ W : World, Calls Try.prog 19 #[.int .u64 x, .int .i64 n] W fun e w' => e = .returned (.int .i64 d) ∧ W = w')))) := by
    by_cases hi : i < 0 ∨ 281474976710656 < i
    · exact ⟨0, 2, 0, 2, false, fun W => value_no s p i (.inr hi) W, fun W => draw_no s p i n (.inr hi) W, fun W => rIndex_no i hi W, .inl ⟨rfl, rfl, rfl, rfl, rfl⟩⟩
    · obtain ⟨I, rfl⟩ : ∃ I : Nat, i = (I : Int) := ⟨i.toNat, by omega⟩
      have hIl : I ≤ 281474976710656 := by omega
      have hF : ∀ W : World, Calls Try.prog 24 #[.int .u64 (s.toNat : Int), .int .i64 (p : Int), .int .u64 ((valB (keyB s p) I).toNat : Int)] W fun e w' => e = .returned (.tuple #[.int .i64 (I : Int), .int .i64 0]) ∧ Below W.heap.size W w' := fun W => by
        have h := find_yes s (valB (keyB s p) I) p hp W; rw [(atV_is _ I hIl).1, (atV_is _ I hIl).2] at h; exact h
      by_cases h1 : n < 1
      · exact ⟨_, 0, 0, 60, true, fun W => value_yes s p I hp hIl W, fun W => draw_bound s p I n hp hIl h1 W, fun W => rIndex_yes I hIl W, .inr ⟨rfl, rfl, fun W => rValue_calls s p I hp hIl W, hF, .inl ⟨h1, rfl, rfl⟩⟩⟩
      · obtain ⟨N, rfl⟩ : ∃ N : Nat, n = (N : Int) := ⟨n.toNat, by omega⟩
        exact ⟨_, 0, _, 0, true, fun W => value_yes s p I hp hIl W, fun W => draw_yes s p I N hp hIl (by omega) (by omega) W, fun W => rIndex_yes I hIl W, .inr ⟨rfl, rfl, fun W => rValue_calls s p I hp hIl W, hF, .inr ⟨by omega, rfl, fun W => rBelow_calls _ N (valB (keyB s p) I).isLt (by omega) (by omega) W⟩⟩⟩
  have hFd : ∃ a b : Int, (∀ W : World, Calls Try.prog 24 #[.int .u64 (s.toNat : Int), .int .i64 (p : Int), .int .u64 (v.toNat : Int)] W fun e w' => e = .returned (.tuple #[.int .i64 a, .int .i64 b]) ∧ Below W.heap.size W w')
      ∧ ((b = 6 ∧ a = 0) ∨ (b = 0 ∧ (∀ W : World, Calls Try.prog 30 #[.int .i64 a] W fun e w' => e = .returned (.bool true) ∧ W = w')
        ∧ (∀ W : World, Calls Try.prog 16 #[.int .u64 (s.toNat : Int), .int .i64 (p : Int), .int .i64 a] W fun e w' => e = .returned (.int .u64 (v.toNat : Int)) ∧ Below W.heap.size W w'))) := by
    by_cases hw : (whereB (keyB s p) v).toNat ≤ 281474976710656
    · have ea : atV (keyB s p) v = ((whereB (keyB s p) v).toNat : Int) := by unfold atV; rw [if_pos hw]
      have eb : atE (keyB s p) v = 0 := by unfold atE; rw [if_pos hw]
      have ev : valB (keyB s p) (whereB (keyB s p) v).toNat = v := valB_whereB _ v _ (by rw [BitVec.ofNat_toNat, BitVec.setWidth_eq])
      refine ⟨_, _, fun W => find_yes s v p hp W, .inr ⟨eb, fun W => ?_, fun W => ?_⟩⟩
      · rw [ea]; exact rIndex_yes _ hw W
      · rw [ea]
        have h := rValue_calls s p _ hp hw W
        rw [ev] at h
        exact h
    · have ea : atV (keyB s p) v = 0 := by unfold atV; rw [if_neg hw]
      have eb : atE (keyB s p) v = 6 := by unfold atE; rw [if_neg hw]
      exact ⟨_, _, fun W => find_yes s v p hp W, .inl ⟨eb, ea⟩⟩
  obtain ⟨x, f, d, g, vi, hV, hD, hIx, hcase⟩ := hI
  obtain ⟨a, b, hF, hfcase⟩ := hFd
  have HV := Lib.hid hV
  have HD := Lib.hid hD
  have HIx := Lib.hid hIx
  have HF := Lib.hid hF
  clear hV hD hIx hF hp
  have hkk : (((keyB s p).toNat : Int) == ((keyB s p).toNat : Int)) = true := by simp
  generalize (keyB s p).toNat = key at *
  have hvv : ((v.toNat : Int) == (v.toNat : Int)) = true := by simp
  generalize v.toNat = vn at *
  generalize s.toNat = sn at *
  rcases hfcase with ⟨rfl, rfl⟩ | ⟨rfl, hFI, hFV⟩
  · rcases hcase with ⟨rfl, rfl, rfl, rfl, rfl⟩ | ⟨rfl, rfl, hRV, hRF, ⟨hn1, rfl, rfl⟩ | ⟨hn1, rfl, hRB⟩⟩
    · skip
      go_enter Try.func12, Try.ntmps12
      go_wp2_with fail
      refine (hK.out _).mono ?_
      rintro e w1 ⟨rfl, hb⟩
      have HB1 := Lib.hid hb
      clear hb
      go_wp2_with fail
      refine (HV.out _).mono ?_
      rintro e w2 ⟨rfl, hb⟩
      have HB2 := Lib.hid (HB1.out.trans (hb.mono HB1.out.size))
      clear hb
      go_wp2_with fail
      refine (HD.out _).mono ?_
      rintro e w3 ⟨rfl, hb⟩
      have HB3 := Lib.hid (HB2.out.trans (hb.mono HB2.out.size))
      clear hb
      go_wp2_with fail
      refine (HF.out _).mono ?_
      rintro e w4 ⟨rfl, hb⟩
      have HB4 := Lib.hid (HB3.out.trans (hb.mono HB3.out.size))
      clear hb
      go_wp2_with fail
      refine (hP.out _).mono ?_
      rintro e w' ⟨rfl, rfl⟩
      go_wp2_with fail
      refine (hRK.out _).mono ?_
      rintro e w5 ⟨rfl, hb⟩
      have HB5 := Lib.hid (HB4.out.trans (hb.mono HB4.out.size))
      clear hb
      go_wp2_with fail
      refine (HIx.out _).mono ?_
      rintro e w' ⟨rfl, rfl⟩
      go_wp2_with fail
      refine (hBl.out _).mono ?_
      rintro e w' ⟨rfl, rfl⟩
      go_wp2
      go_ret
      exact ⟨rfl, HB5.out⟩
    · have HRV := Lib.hid hRV
      have HRF := Lib.hid hRF
      clear hRV hRF
      have hxx : (x == x) = true := by simp
      have hii : (i == i) = true := by simp
      go_enter Try.func12, Try.ntmps12
      go_wp2_with fail
      refine (hK.out _).mono ?_
      rintro e w1 ⟨rfl, hb⟩
      have HB1 := Lib.hid hb
      clear hb
      go_wp2_with fail
      refine (HV.out _).mono ?_
      rintro e w2 ⟨rfl, hb⟩
      have HB2 := Lib.hid (HB1.out.trans (hb.mono HB1.out.size))
      clear hb
      go_wp2_with fail
      refine (HD.out _).mono ?_
      rintro e w3 ⟨rfl, hb⟩
      have HB3 := Lib.hid (HB2.out.trans (hb.mono HB2.out.size))
      clear hb
      go_wp2_with fail
      refine (HF.out _).mono ?_
      rintro e w4 ⟨rfl, hb⟩
      have HB4 := Lib.hid (HB3.out.trans (hb.mono HB3.out.size))
      clear hb
      go_wp2_with fail
      refine (hP.out _).mono ?_
      rintro e w' ⟨rfl, rfl⟩
      go_wp2_with fail
      refine (hRK.out _).mono ?_
      rintro e w5 ⟨rfl, hb⟩
      have HB5 := Lib.hid (HB4.out.trans (hb.mono HB4.out.size))
      clear hb
      go_wp2_with fail
      refine (HIx.out _).mono ?_
      rintro e w' ⟨rfl, rfl⟩
      go_wp2_with fail
      refine (HRV.out _).mono ?_
      rintro e w6 ⟨rfl, hb⟩
      have HB6 := Lib.hid (HB5.out.trans (hb.mono HB5.out.size))
      clear hb
      go_wp2_with fail
      refine (HRF.out _).mono ?_
      rintro e w7 ⟨rfl, hb⟩
      have HB7 := Lib.hid (HB6.out.trans (hb.mono HB6.out.size))
      clear hb
      go_wp2_with fail
      refine (hBl.out _).mono ?_
      rintro e w' ⟨rfl, rfl⟩
      go_wp2
      go_ret
      exact ⟨rfl, HB7.out⟩
    · have HRV := Lib.hid hRV
      have HRF := Lib.hid hRF
      have HRB := Lib.hid hRB
      clear hRV hRF hRB
      have hxx : (x == x) = true := by simp
      have hii : (i == i) = true := by simp
      have hdd : (d == d) = true := by simp
      go_enter Try.func12, Try.ntmps12
      go_wp2_with fail
      refine (hK.out _).mono ?_
      rintro e w1 ⟨rfl, hb⟩
      have HB1 := Lib.hid hb
      clear hb
      go_wp2_with fail
      refine (HV.out _).mono ?_
      rintro e w2 ⟨rfl, hb⟩
      have HB2 := Lib.hid (HB1.out.trans (hb.mono HB1.out.size))
      clear hb
      go_wp2_with fail
      refine (HD.out _).mono ?_
      rintro e w3 ⟨rfl, hb⟩
      have HB3 := Lib.hid (HB2.out.trans (hb.mono HB2.out.size))
      clear hb
      go_wp2_with fail
      refine (HF.out _).mono ?_
      rintro e w4 ⟨rfl, hb⟩
      have HB4 := Lib.hid (HB3.out.trans (hb.mono HB3.out.size))
      clear hb
      go_wp2_with fail
      refine (hP.out _).mono ?_
      rintro e w' ⟨rfl, rfl⟩
      go_wp2_with fail
      refine (hRK.out _).mono ?_
      rintro e w5 ⟨rfl, hb⟩
      have HB5 := Lib.hid (HB4.out.trans (hb.mono HB4.out.size))
      clear hb
      go_wp2_with fail
      refine (HIx.out _).mono ?_
      rintro e w' ⟨rfl, rfl⟩
      go_wp2_with fail
      refine (HRV.out _).mono ?_
      rintro e w6 ⟨rfl, hb⟩
      have HB6 := Lib.hid (HB5.out.trans (hb.mono HB5.out.size))
      clear hb
      go_wp2_with fail
      refine (HRB.out _).mono ?_
      rintro e w' ⟨rfl, rfl⟩
      go_wp2_with fail
      refine (HRF.out _).mono ?_
      rintro e w7 ⟨rfl, hb⟩
      have HB7 := Lib.hid (HB6.out.trans (hb.mono HB6.out.size))
      clear hb
      go_wp2_with fail
      refine (hBl.out _).mono ?_
      rintro e w' ⟨rfl, rfl⟩
      go_wp2
      go_ret
      exact ⟨rfl, HB7.out⟩
  · have HFI := Lib.hid hFI
    have HFV := Lib.hid hFV
    clear hFI hFV
    rcases hcase with ⟨rfl, rfl, rfl, rfl, rfl⟩ | ⟨rfl, rfl, hRV, hRF, ⟨hn1, rfl, rfl⟩ | ⟨hn1, rfl, hRB⟩⟩
    · skip
      go_enter Try.func12, Try.ntmps12
      go_wp2_with fail
      refine (hK.out _).mono ?_
      rintro e w1 ⟨rfl, hb⟩
      have HB1 := Lib.hid hb
      clear hb
      go_wp2_with fail
      refine (HV.out _).mono ?_
      rintro e w2 ⟨rfl, hb⟩
      have HB2 := Lib.hid (HB1.out.trans (hb.mono HB1.out.size))
      clear hb
      go_wp2_with fail
      refine (HD.out _).mono ?_
      rintro e w3 ⟨rfl, hb⟩
      have HB3 := Lib.hid (HB2.out.trans (hb.mono HB2.out.size))
      clear hb
      go_wp2_with fail
      refine (HF.out _).mono ?_
      rintro e w4 ⟨rfl, hb⟩
      have HB4 := Lib.hid (HB3.out.trans (hb.mono HB3.out.size))
      clear hb
      go_wp2_with fail
      refine (hP.out _).mono ?_
      rintro e w' ⟨rfl, rfl⟩
      go_wp2_with fail
      refine (hRK.out _).mono ?_
      rintro e w5 ⟨rfl, hb⟩
      have HB5 := Lib.hid (HB4.out.trans (hb.mono HB4.out.size))
      clear hb
      go_wp2_with fail
      refine (HFI.out _).mono ?_
      rintro e w' ⟨rfl, rfl⟩
      go_wp2_with fail
      refine (HFV.out _).mono ?_
      rintro e w6 ⟨rfl, hb⟩
      have HB6 := Lib.hid (HB5.out.trans (hb.mono HB5.out.size))
      clear hb
      go_wp2_with fail
      refine (HIx.out _).mono ?_
      rintro e w' ⟨rfl, rfl⟩
      go_wp2_with fail
      refine (hBl.out _).mono ?_
      rintro e w' ⟨rfl, rfl⟩
      go_wp2
      go_ret
      exact ⟨rfl, HB6.out⟩
    · have HRV := Lib.hid hRV
      have HRF := Lib.hid hRF
      clear hRV hRF
      have hxx : (x == x) = true := by simp
      have hii : (i == i) = true := by simp
      go_enter Try.func12, Try.ntmps12
      go_wp2_with fail
      refine (hK.out _).mono ?_
      rintro e w1 ⟨rfl, hb⟩
      have HB1 := Lib.hid hb
      clear hb
      go_wp2_with fail
      refine (HV.out _).mono ?_
      rintro e w2 ⟨rfl, hb⟩
      have HB2 := Lib.hid (HB1.out.trans (hb.mono HB1.out.size))
      clear hb
      go_wp2_with fail
      refine (HD.out _).mono ?_
      rintro e w3 ⟨rfl, hb⟩
      have HB3 := Lib.hid (HB2.out.trans (hb.mono HB2.out.size))
      clear hb
      go_wp2_with fail
      refine (HF.out _).mono ?_
      rintro e w4 ⟨rfl, hb⟩
      have HB4 := Lib.hid (HB3.out.trans (hb.mono HB3.out.size))
      clear hb
      go_wp2_with fail
      refine (hP.out _).mono ?_
      rintro e w' ⟨rfl, rfl⟩
      go_wp2_with fail
      refine (hRK.out _).mono ?_
      rintro e w5 ⟨rfl, hb⟩
      have HB5 := Lib.hid (HB4.out.trans (hb.mono HB4.out.size))
      clear hb
      go_wp2_with fail
      refine (HFI.out _).mono ?_
      rintro e w' ⟨rfl, rfl⟩
      go_wp2_with fail
      refine (HFV.out _).mono ?_
      rintro e w6 ⟨rfl, hb⟩
      have HB6 := Lib.hid (HB5.out.trans (hb.mono HB5.out.size))
      clear hb
      go_wp2_with fail
      refine (HIx.out _).mono ?_
      rintro e w' ⟨rfl, rfl⟩
      go_wp2_with fail
      refine (HRV.out _).mono ?_
      rintro e w7 ⟨rfl, hb⟩
      have HB7 := Lib.hid (HB6.out.trans (hb.mono HB6.out.size))
      clear hb
      go_wp2_with fail
      refine (HRF.out _).mono ?_
      rintro e w8 ⟨rfl, hb⟩
      have HB8 := Lib.hid (HB7.out.trans (hb.mono HB7.out.size))
      clear hb
      go_wp2_with fail
      refine (hBl.out _).mono ?_
      rintro e w' ⟨rfl, rfl⟩
      go_wp2
      go_ret
      exact ⟨rfl, HB8.out⟩
    · have HRV := Lib.hid hRV
      have HRF := Lib.hid hRF
      have HRB := Lib.hid hRB
      clear hRV hRF hRB
      have hxx : (x == x) = true := by simp
      have hii : (i == i) = true := by simp
      have hdd : (d == d) = true := by simp
      go_enter Try.func12, Try.ntmps12
      go_wp2_with fail
      refine (hK.out _).mono ?_
      rintro e w1 ⟨rfl, hb⟩
      have HB1 := Lib.hid hb
      clear hb
      go_wp2_with fail
      refine (HV.out _).mono ?_
      rintro e w2 ⟨rfl, hb⟩
      have HB2 := Lib.hid (HB1.out.trans (hb.mono HB1.out.size))
      clear hb
      go_wp2_with fail
      refine (HD.out _).mono ?_
      rintro e w3 ⟨rfl, hb⟩
      have HB3 := Lib.hid (HB2.out.trans (hb.mono HB2.out.size))
      clear hb
      go_wp2_with fail
      refine (HF.out _).mono ?_
      rintro e w4 ⟨rfl, hb⟩
      have HB4 := Lib.hid (HB3.out.trans (hb.mono HB3.out.size))
      clear hb
      go_wp2_with fail
      refine (hP.out _).mono ?_
      rintro e w' ⟨rfl, rfl⟩
      go_wp2_with fail
      refine (hRK.out _).mono ?_
      rintro e w5 ⟨rfl, hb⟩
      have HB5 := Lib.hid (HB4.out.trans (hb.mono HB4.out.size))
      clear hb
      go_wp2_with fail
      refine (HFI.out _).mono ?_
      rintro e w' ⟨rfl, rfl⟩
      go_wp2_with fail
      refine (HFV.out _).mono ?_
      rintro e w6 ⟨rfl, hb⟩
      have HB6 := Lib.hid (HB5.out.trans (hb.mono HB5.out.size))
      clear hb
      go_wp2_with fail
      refine (HIx.out _).mono ?_
      rintro e w' ⟨rfl, rfl⟩
      go_wp2_with fail
      refine (HRV.out _).mono ?_
      rintro e w7 ⟨rfl, hb⟩
      have HB7 := Lib.hid (HB6.out.trans (hb.mono HB6.out.size))
      clear hb
      go_wp2_with fail
      refine (HRB.out _).mono ?_
      rintro e w' ⟨rfl, rfl⟩
      go_wp2_with fail
      refine (HRF.out _).mono ?_
      rintro e w8 ⟨rfl, hb⟩
      have HB8 := Lib.hid (HB7.out.trans (hb.mono HB7.out.size))
      clear hb
      go_wp2_with fail
      refine (hBl.out _).mono ?_
      rintro e w' ⟨rfl, rfl⟩
      go_wp2
      go_ret
      exact ⟨rfl, HB8.out⟩

set_option maxRecDepth 100000 in
theorem rngTells_walk (s v : BitVec 64) (p i n k : Int) (hn : n ≤ 9223372036854775807) (w : World) :
    Calls Try.prog 3 #[.int .u64 (s.toNat : Int), .int .i64 p, .int .i64 i, .int .i64 n, .int .i64 k, .int .u64 (v.toNat : Int)] w fun e w' => e = .returned (.bool true) ∧ Below w.heap.size w w' := by
  have hT : ∀ W, Calls Try.prog 12 #[.int .u64 (s.toNat : Int), .int .i64 p, .int .i64 i, .int .i64 n, .int .i64 k, .int .u64 (v.toNat : Int)] W fun e w' => e = .returned (.bool true) ∧ Below W.heap.size W w' := by
    intro W
    by_cases hp : p < 0 ∨ 65536 < p
    · exact tellsR_no s v p i n k hp W
    · obtain ⟨q, rfl⟩ : ∃ q : Nat, p = (q : Int) := ⟨p.toNat, by omega⟩
      exact tellsR_yes s v q i n k (by omega) hn W
  have HT := Lib.hid hT
  have AW := Lib.hid (fun W => awakeR_calls W)
  clear hT hn
  go_enter Try.func3, Try.ntmps3
  go_wp2_with fail
  refine (HT.out _).mono ?_
  rintro e w1 ⟨rfl, hb⟩
  have HB1 := Lib.hid hb
  clear hb
  go_wp2_with fail
  refine (AW.out _).mono ?_
  rintro e w2 ⟨rfl, hb⟩
  have HB2 := Lib.hid (HB1.out.trans (hb.mono HB1.out.size))
  clear hb
  go_wp2
  go_ret
  exact ⟨rfl, HB2.out⟩
end Go.Proofs.Ytfcajgfhmfpchaa
