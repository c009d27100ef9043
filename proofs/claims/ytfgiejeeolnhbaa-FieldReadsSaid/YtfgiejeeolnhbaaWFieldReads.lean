/-
  THE WALK of fermatalaw02.FieldReads: it returns true, and writes nothing that was there.
-/
import Derived.Test.YtfgiejeeolnhbaaReads02
import Derived.Test.YtfgiejeeolnhbaaAwake02
namespace Go.Proofs.Ytfgiejeeolnhbaa
open Go.RowKit Pl

set_option maxRecDepth 100000 in
set_option maxHeartbeats 1000000 in
theorem fieldReads_walk (a : Option Addr) (ca : Nat) (bs : List Nat) (w : World) (ha : BRow w (.slice a bs.length ca) bs) :
    Calls Try.prog 5 #[.slice a bs.length ca] w fun e w' => e = .returned (.bool true) ∧ Below w.heap.size w w' := by
  have HW := Lib.hid (reads2_calls a ca bs w ha)
  clear ha
  go_enter Try.func5, Try.ntmps5
  go_wp2_with fail
  refine HW.out.mono ?_
  rintro e w1 ⟨rfl, hb1⟩
  have HB1 := Lib.hid hb1
  clear hb1
  go_wp2_with fail
  refine (awake2_calls w1).mono ?_
  rintro e w2 ⟨rfl, hb2⟩
  have HB2 := Lib.hid hb2
  clear hb2
  go_wp2
  go_ret
  exact ⟨rfl, HB1.out.trans (HB2.out.mono HB1.out.size)⟩
end Go.Proofs.Ytfgiejeeolnhbaa
