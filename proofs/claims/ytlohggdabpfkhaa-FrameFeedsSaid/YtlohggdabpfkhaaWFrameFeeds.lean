/-
  THE WALK of fermatalaw03.FrameFeeds: it returns true; nothing that was there is written.
-/
import Derived.Test.YtlohggdabpfkhaaFeeds03
namespace Go.Proofs.Ytlohggdabpfkhaa
open Go.RowKit Go.Shelf Pl

set_option maxRecDepth 100000 in
set_option maxHeartbeats 2000000 in
theorem frameFeeds_walk (v rv : Value) (L : List (List Nat)) (rs : List Nat) (w : World) (h : TRow w v L) (hr : BRow w rv rs) :
    Calls Try.prog 8 #[v, rv] w fun e w' => e = .returned (.bool true) ∧ Below w.heap.size w w' := by
  obtain ⟨va, vc, rfl⟩ := h.shape
  have HA := Lib.hid (fun W => awake3_calls W)
  by_cases h1 : 40 < L.length
  · have e1 : decide ((40 : Int) < (L.length : Int)) = true := decide_eq_true (by omega)
    clear h h1 hr
    go_enter Try.func8, Try.ntmps8
    go_wp2_with fail
    refine (HA.out _).mono ?_
    rintro e w1 ⟨rfl, hb1⟩
    go_wp2
    go_ret
    exact ⟨rfl, hb1⟩
  have e1 : decide ((40 : Int) < (L.length : Int)) = false := decide_eq_false (by omega)
  have hls : (L.length : Int) ≤ 40 := by omega
  have HT := Lib.hid h
  have HW := Lib.hid (fun hs => feeds_calls _ rv L rs w h hr (by omega) hs)
  have HB0 := Lib.hid (Below.refl w.heap.size w)
  clear h hr
  go_enter Try.func8, Try.ntmps8
  go_wp2
  go_loopw [13] (fun i wr => ∃ k : Nat, k ≤ L.length ∧ i = .int .i64 k ∧ (∀ j, j < k → (mt L j).length ≤ 400) ∧ wr = w) (fun i _ => L.length - (intOf i).toNat)
  case atStart => exact ⟨0, Nat.zero_le _, rfl, fun j hj => absurd hj (Nat.not_lt_zero _), rfl⟩
  case round =>
    obtain ⟨k, hk, rfl, hs, rfl⟩ := hrel
    have HS := Lib.hid hs
    clear hs
    by_cases hlt : k < L.length
    · have hd : decide ((k : Int) < (L.length : Int)) = true := decide_eq_true (by omega)
      obtain ⟨b, off, cap, e, hc, hm, hcell⟩ := HT.out.cell (by omega)
      simp only [Value.slice.injEq, true_and] at e
      obtain ⟨rfl, rfl⟩ := e
      obtain ⟨a1, c1, d1, r1⟩ := hcell k hlt
      obtain ⟨bd, hbd⟩ : ∃ bd, (mt L k).length = bd := ⟨_, rfl⟩
      rw [hbd] at d1
      have HBd := Lib.hid hbd
      clear r1 hbd hcell hm hc
      have hk1 : (k : Int) + 1 ≤ 40 := by omega
      by_cases p1 : 400 < bd
      · have q1 : decide ((400 : Int) < (bd : Int)) = true := decide_eq_true (by omega)
        clear p1
        go_wp2_with fail
        refine (HA.out _).mono ?_
        rintro e w1 ⟨rfl, hb1⟩
        have HB1 := Lib.hid hb1
        clear hb1
        go_wp2
        go_ret
        exact ⟨rfl, HB1.out⟩
      · have q1 : decide ((400 : Int) < (bd : Int)) = false := decide_eq_false (by omega)
        have HS1 := Lib.hid (show ∀ j, j < k + 1 → (mt L j).length ≤ 400 from fun j hj => by
          by_cases h : j < k
          · exact HS.out j h
          · obtain rfl : j = k := by omega
            rw [HBd.out]; omega)
        clear p1
        go_wp2_with fail
        go_roundw
        case rel => exact ⟨k + 1, by omega, by go_num, HS1.out, trivial⟩
        case measure => simp [intOf]; omega
    · obtain rfl : k = L.length := by omega
      have hd : decide ((L.length : Int) < (L.length : Int)) = false := by simp
      clear hk hlt
      go_wp2_with fail
      refine (HW.out HS.out).mono ?_
      rintro e w1 ⟨rfl, hb1⟩
      have HB1 := Lib.hid hb1
      clear hb1
      go_wp2_with fail
      refine (HA.out _).mono ?_
      rintro e w2 ⟨rfl, hb2⟩
      have HB2 := Lib.hid (HB1.out.trans (hb2.mono HB1.out.size))
      clear hb2
      go_wp2
      go_ret
      exact ⟨rfl, HB2.out⟩
end Go.Proofs.Ytlohggdabpfkhaa
