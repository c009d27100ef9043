/-
  THE WALK of fermatalaw05.MixBack: it returns true, and writes nothing that was there.
-/
import Derived.Test.YtnghalhmbjiefaaFrame
import Derived.Test.YtnghalhmbjiefaaMixAwake
namespace Go.Proofs.Ytnghalhmbjiefaa
open Go.RowKit

set_option maxRecDepth 100000 in
set_option maxHeartbeats 1000000 in
theorem mixBack_walk (x y : BitVec 64) (w : World) :
    Calls Try.prog 7 #[.int .u64 (x.toNat : Int), .int .u64 (y.toNat : Int)] w fun e w' => e = .returned (.bool true) ∧ Below w.heap.size w w' := by
  have M1 := Lib.hid (fun W => Mix_calls x W)
  have M2 := Lib.hid (fun W => Mix_calls y W)
  have U1 := Lib.hid (fun W => by have h := Unmix_calls (mixB x) W; rw [unmixB_mixB] at h; exact h)
  have U2 := Lib.hid (fun W => Unmix_calls x W)
  have M3 := Lib.hid (fun W => by have h := Mix_calls (unmixB x) W; rw [mixB_unmixB] at h; exact h)
  have AW := Lib.hid (fun W => awake5_calls W)
  obtain ⟨p, hp⟩ : ∃ p : Bool, ((x.toNat : Int) == (y.toNat : Int)) = p := ⟨_, rfl⟩
  have hp2 : (((mixB x).toNat : Int) == ((mixB y).toNat : Int)) = p := by
    rw [← hp, uv_eq, uv_eq]
    by_cases h : x = y
    · subst h; simp
    · rw [beq_eq_false_iff_ne.2 h, beq_eq_false_iff_ne.2 (fun e => h (mixB_inj e))]
  obtain ⟨q, hq⟩ : ∃ q : Bool, ((x.toNat : Int) == 0) = q := ⟨_, rfl⟩
  have hq2 : (((mixB x).toNat : Int) == 0) = q := by
    have e1 := uv_eq (mixB x) 0#64
    have e2 := uv_eq x 0#64
    rw [show ((0#64).toNat : Int) = 0 from rfl] at e1 e2
    rw [← hq, e1, e2]
    by_cases h : x = 0#64
    · subst h; rw [mixB_zero]
    · rw [beq_eq_false_iff_ne.2 h, beq_eq_false_iff_ne.2 (fun e => h (mixB_inj (e.trans mixB_zero.symm)))]
  have hxx : ((x.toNat : Int) == (x.toNat : Int)) = true := by simp
  generalize mixB x = mx at *
  generalize mixB y = my at *
  generalize unmixB x = ux at *
  cases p <;> cases q
  all_goals (
    go_enter Try.func7, Try.ntmps7
    go_wp2_with fail
    refine (M1.out _).mono ?_
    rintro e w' ⟨rfl, rfl⟩
    go_wp2_with fail
    refine (M2.out _).mono ?_
    rintro e w' ⟨rfl, rfl⟩
    go_wp2_with fail
    refine (U1.out _).mono ?_
    rintro e w1 ⟨rfl, hb1⟩
    have HB1 := Lib.hid hb1
    clear hb1
    go_wp2_with fail
    refine (U2.out _).mono ?_
    rintro e w2 ⟨rfl, hb2⟩
    have HB2 := Lib.hid (HB1.out.trans (hb2.mono HB1.out.size))
    clear hb2
    go_wp2_with fail
    refine (M3.out _).mono ?_
    rintro e w' ⟨rfl, rfl⟩
    go_wp2_with fail
    refine (AW.out _).mono ?_
    rintro e w3 ⟨rfl, hb3⟩
    have HB3 := Lib.hid (HB2.out.trans (hb3.mono HB2.out.size))
    clear hb3
    go_wp2
    go_ret
    exact ⟨rfl, HB3.out⟩)
end Go.Proofs.Ytnghalhmbjiefaa
