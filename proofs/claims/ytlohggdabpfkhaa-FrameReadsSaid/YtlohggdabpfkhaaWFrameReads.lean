/-
  THE WALK of fermatalaw03.FrameReads: it returns true; nothing that was there is written.
-/
import Derived.Test.YtlohggdabpfkhaaReads03
namespace Go.Proofs.Ytlohggdabpfkhaa
open Go.RowKit Go.Shelf Pl

set_option maxRecDepth 100000 in
set_option maxHeartbeats 2000000 in
theorem frameReads_walk (v : Value) (b : List Nat) (w : World) (h : BRow w v b) :
    Calls Try.prog 6 #[v] w fun e w' => e = .returned (.bool true) ∧ Below w.heap.size w w' := by
  obtain ⟨a, c, rfl⟩ := h.shape
  have hll := h.len_le
  have HA := Lib.hid (fun W => awake3_calls W)
  by_cases h1 : 17000 ≤ b.length
  · have e1 : decide ((2000 : Int) < (b.length : Int)) = true := decide_eq_true (by omega)
    have e2 : decide ((b.length : Int) ≤ 16000) = false := decide_eq_false (by omega)
    have e3 : decide ((17000 : Int) ≤ (b.length : Int)) = true := decide_eq_true (by omega)
    clear h hll h1
    go_enter Try.func6, Try.ntmps6
    go_wp2_with fail
    refine (HA.out _).mono ?_
    rintro e w1 ⟨rfl, hb1⟩
    go_wp2
    go_ret
    exact ⟨rfl, hb1⟩
  by_cases h2 : 2000 < b.length ∧ b.length ≤ 16000
  · have e1 : decide ((2000 : Int) < (b.length : Int)) = true := decide_eq_true (by omega)
    have e2 : decide ((b.length : Int) ≤ 16000) = true := decide_eq_true (by omega)
    clear h hll h1 h2
    go_enter Try.func6, Try.ntmps6
    go_wp2_with fail
    refine (HA.out _).mono ?_
    rintro e w1 ⟨rfl, hb1⟩
    go_wp2
    go_ret
    exact ⟨rfl, hb1⟩
  · have HR := Lib.hid (reads3_calls _ b w h (by omega))
    have e3 : decide ((17000 : Int) ≤ (b.length : Int)) = false := decide_eq_false (by omega)
    by_cases h3 : 2000 < b.length
    · have e1 : decide ((2000 : Int) < (b.length : Int)) = true := decide_eq_true (by omega)
      have e2 : decide ((b.length : Int) ≤ 16000) = false := decide_eq_false (by omega)
      clear h hll h1 h2 h3
      go_enter Try.func6, Try.ntmps6
      go_wp2_with fail
      refine HR.out.mono ?_
      rintro e w1 ⟨rfl, hb1⟩
      have HB1 := Lib.hid hb1
      clear hb1
      go_wp2_with fail
      refine (HA.out _).mono ?_
      rintro e w2 ⟨rfl, hb2⟩
      have HB2 := Lib.hid (HB1.out.trans (hb2.mono HB1.out.size))
      clear hb2
      go_wp2
      go_ret
      exact ⟨rfl, HB2.out⟩
    · have e1 : decide ((2000 : Int) < (b.length : Int)) = false := decide_eq_false (by omega)
      clear h hll h1 h2 h3
      go_enter Try.func6, Try.ntmps6
      go_wp2_with fail
      refine HR.out.mono ?_
      rintro e w1 ⟨rfl, hb1⟩
      have HB1 := Lib.hid hb1
      clear hb1
      go_wp2_with fail
      refine (HA.out _).mono ?_
      rintro e w2 ⟨rfl, hb2⟩
      have HB2 := Lib.hid (HB1.out.trans (hb2.mono HB1.out.size))
      clear hb2
      go_wp2
      go_ret
      exact ⟨rfl, HB2.out⟩
end Go.Proofs.Ytlohggdabpfkhaa
