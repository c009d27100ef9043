/-
  CONTRACTS of the reference's Read at any offset, Last, Int, Split and Compare (layer 1): what they say of bytes is what the plain functions say.
-/
import Derived.Test.YtfgiejeeolnhbaaNumRefRead
namespace Go.Proofs.Ytfgiejeeolnhbaa
open Go.RowKit Pl

set_option maxRecDepth 100000 in
set_option maxHeartbeats 1000000 in
theorem refRead_calls (v : Value) (l : List Nat) (w : World) (h : BRow w v l) (k : Int) :
    Calls Try.prog 36 #[v, .int .i64 k] w fun e w' => e = .returned (.tuple #[.int .u64 (rdAt l k).1, .int .i64 (rdAt l k).2.1, .int .i64 (rdAt l k).2.2]) ∧ Below w.heap.size w w' := by
  have hlen := h.len_le
  by_cases hb : k < 0 ∨ (l.length : Int) < k
  · have HF := Lib.hid (show rdAt l k = (0, 0, 2) by unfold rdAt; rw [if_pos hb])
    obtain ⟨a, cap, rfl⟩ := h.shape
    clear h
    by_cases h0 : k < 0
    · clear hb
      have hd : decide (k < 0) = true := by simpa using h0
      go_enter Try.func36, Try.ntmps36
      go_wp2
      go_ret3
      refine ⟨?_, Below.refl _ _⟩
      rw [HF.out]
      exact ret_read rfl rfl rfl
    · have h1 : (l.length : Int) < k := by omega
      have hd : decide (k < 0) = false := by simp; omega
      clear hb
      go_enter Try.func36, Try.ntmps36
      go_wp2
      go_ret3
      refine ⟨?_, Below.refl _ _⟩
      rw [HF.out]
      exact ret_read rfl rfl rfl
  · obtain ⟨n, rfl⟩ := Int.eq_ofNat_of_zero_le (show 0 ≤ k by omega)
    have hfin : rdAt l n = rd (l.drop n) := by unfold rdAt; rw [if_neg hb]; rfl
    rw [hfin]
    by_cases hn : n < l.length
    · exact refRead_in v l w h n hn
    · obtain rfl : n = l.length := by omega
      rw [List.drop_length]
      obtain ⟨a, cap, rfl⟩ := h.shape
      clear h hb hfin hn
      go_enter Try.func36, Try.ntmps36
      go_wp2
      go_ret3
      exact ⟨rfl, Below.refl _ _⟩

set_option maxRecDepth 100000 in
set_option maxHeartbeats 1000000 in
theorem refLast_calls (v : Value) (l : List Nat) (w : World) (h : BRow w v l) :
    Calls Try.prog 38 #[v] w fun e w' => e = .returned (.tuple #[.int .u64 (lastN l).1, .int .i64 (lastN l).2.1, .int .i64 (lastN l).2.2]) ∧ Below w.heap.size w w' := by
  have hR := refRead_calls v l w h 0
  rw [rdAt_zero] at hR
  have hR' := Lib.hid hR; clear hR
  have hlen := h.len_le
  have hrl := (rd_range l h.1).2
  have hz := rd_zero l
  have hs : (rd l).2.2 ≠ 0 → (rd l).2.1 = 0 := by
    unfold rd
    split
    · simp
    split
    · simp
    split
    · simp
    split
    · simp
    split <;> simp
  obtain ⟨a, cap, rfl⟩ := h.shape
  have hdef : lastN l = if (rd l).2.2 ≠ 0 then (0, 0, (rd l).2.2) else if (rd l).2.1 < l.length then (0, 0, 11) else rd l := rfl
  have hdef' := Lib.hid hdef; clear hdef h
  generalize hx : rd l = r at hR' hdef' hrl hz hs
  obtain ⟨x, n, er⟩ := r
  clear hx
  dsimp only at hR' hdef' hrl hz hs
  by_cases her : er = 0
  · subst her
    clear hz hs
    have he0 : ((0 : Int) == 0) = true := rfl
    by_cases hn : n < l.length
    · have hne : ((n : Int) != (l.length : Int)) = true := by rw [bne_iff_ne]; omega
      have HF := Lib.hid (show lastN l = (0, 0, 11) by rw [hdef'.out, if_neg (by simp), if_pos hn])
      clear hdef'
      go_enter Try.func38, Try.ntmps38
      go_wp2_with fail
      refine hR'.out.mono ?_
      rintro e w' ⟨rfl, hb⟩
      have HB := Lib.hid hb
      clear hb
      go_wp2
      go_ret3
      refine ⟨?_, HB.out⟩
      rw [HF.out]
      exact ret_read rfl rfl rfl
    · obtain rfl : n = l.length := by omega
      have HF := Lib.hid (show lastN l = (x, l.length, 0) by rw [hdef'.out, if_neg (by simp), if_neg hn])
      clear hdef'
      go_enter Try.func38, Try.ntmps38
      go_wp2_with fail
      refine hR'.out.mono ?_
      rintro e w' ⟨rfl, hb⟩
      have HB := Lib.hid hb
      clear hb
      go_wp2
      go_ret3
      refine ⟨?_, HB.out⟩
      rw [HF.out]
      exact ret_read rfl rfl rfl
  · obtain rfl := hz her
    obtain rfl := hs her
    have hne : ((er : Int) == 0) = false := beq_eq_false_iff_ne.2 (by omega)
    have HF := Lib.hid (show lastN l = (0, 0, er) by rw [hdef'.out, if_pos her])
    clear hdef' hz hs
    go_enter Try.func38, Try.ntmps38
    go_wp2_with fail
    refine hR'.out.mono ?_
    rintro e w' ⟨rfl, hb⟩
    have HB := Lib.hid hb
    clear hb
    go_wp2
    go_ret3
    refine ⟨?_, HB.out⟩
    rw [HF.out]
    exact ret_read rfl rfl rfl
end Go.Proofs.Ytfgiejeeolnhbaa
