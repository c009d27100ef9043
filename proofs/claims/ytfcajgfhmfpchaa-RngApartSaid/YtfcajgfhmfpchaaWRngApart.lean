/-
  THE WALK of fermatalaw06.RngApart: it returns true, and writes nothing that was there.
-/
import Derived.Test.YtfcajgfhmfpchaaWRngOnce
namespace Go.Proofs.Ytfcajgfhmfpchaa
open Go.RowKit Pl

set_option maxRecDepth 100000 in
set_option maxHeartbeats 1000000 in
/-- With a process that is the other one's, if the seeds differ. -/
theorem apart_walk (s t : BitVec 64) (p q r i : Nat) (hp : p < 65536) (hq : q < 65536) (hi : i < 18446744073709551616) (x y : Bool) (hx : ((s.toNat : Int) == (t.toNat : Int)) = x) (hy : ((p : Int) == (q : Int)) = y)
    (z : Bool) (hr : r = if x = false ∧ y = false then p else q) (hz : ((p : Int) == (r : Int)) = z)
    (ht : ((((keyB s p).toNat : Int) == ((keyB t r).toNat : Int)) = (x && z)) ∧ ∀ a, (((valB (keyB s p) a).toNat : Int) == ((valB (keyB t r) a).toNat : Int)) = (x && z)) (w : World) :
    Calls Try.prog 10 #[.int .u64 (s.toNat : Int), .int .u64 (t.toNat : Int), .int .u16 (p : Int), .int .u16 (q : Int), .int .u64 (i : Int)] w fun e w' => e = .returned (.bool true) ∧ Below w.heap.size w w' := by
  obtain ⟨a, ha⟩ : ∃ a, i % 281474976710657 = a := ⟨_, rfl⟩
  have ha1 : a ≤ 281474976710656 := by omega
  have ha2 : (i : Int) % 281474976710657 = (a : Int) := by omega
  have hr1 : r < 65536 := by rw [hr]; split <;> omega
  have K1 := Lib.hid (fun W => key_yes s p (by omega) W)
  have K2 := Lib.hid (fun W => key_yes t r (by omega) W)
  have V1 := Lib.hid (fun W => value_yes s p a (by omega) ha1 W)
  have V2 := Lib.hid (fun W => value_yes t r a (by omega) ha1 W)
  have AW := Lib.hid (fun W => awakeR_calls W)
  obtain ⟨h1, h2⟩ := ht
  have h2 := h2 a
  have hs := uv_bounds s
  have ht := uv_bounds t
  generalize valB (keyB s p) a = va at *
  generalize valB (keyB t r) a = vb at *
  generalize keyB s p = ka at *
  generalize keyB t r = kb at *
  have hx2 : ((s.toNat : Int) != (t.toNat : Int)) = !x := by unfold bne; rw [hx]
  have hy2 : ((p : Int) != (q : Int)) = !y := by unfold bne; rw [hy]
  have HR := Lib.hid hr
  have HX := Lib.hid hx
  have HY := Lib.hid hy
  clear ha hr
  cases x <;> cases y <;> cases z
  all_goals (
    first
      | (have hpr := HR.out; rw [if_pos ⟨rfl, rfl⟩] at hpr; subst hpr)
      | (have hpr := HR.out; rw [if_neg (by simp)] at hpr; subst hpr)
    simp only [Bool.and_true, Bool.and_false, Bool.not_true, Bool.not_false] at h1 h2 hx2 hy2
    first
    | (exfalso; simp_all; done)
    | (
    go_enter Try.func10, Try.ntmps10
    go_wp2_with fail
    refine (K1.out _).mono ?_
    rintro e w1 ⟨rfl, hb⟩
    have HB1 := Lib.hid hb
    clear hb
    go_wp2_with fail
    refine (K2.out _).mono ?_
    rintro e w2 ⟨rfl, hb⟩
    have HB2 := Lib.hid (HB1.out.trans (hb.mono HB1.out.size))
    clear hb
    go_wp2_with fail
    refine (V1.out _).mono ?_
    rintro e w3 ⟨rfl, hb⟩
    have HB3 := Lib.hid (HB2.out.trans (hb.mono HB2.out.size))
    clear hb
    go_wp2_with fail
    refine (V2.out _).mono ?_
    rintro e w4 ⟨rfl, hb⟩
    have HB4 := Lib.hid (HB3.out.trans (hb.mono HB3.out.size))
    clear hb
    go_wp2_with fail
    refine (AW.out _).mono ?_
    rintro e w5 ⟨rfl, hb⟩
    have HB5 := Lib.hid (HB4.out.trans (hb.mono HB4.out.size))
    clear hb
    go_wp2
    go_ret
    exact ⟨rfl, HB5.out⟩))

theorem rngApart_walk (s t : BitVec 64) (p q i : Nat) (hp : p < 65536) (hq : q < 65536) (hi : i < 18446744073709551616) (w : World) :
    Calls Try.prog 10 #[.int .u64 (s.toNat : Int), .int .u64 (t.toNat : Int), .int .u16 (p : Int), .int .u16 (q : Int), .int .u64 (i : Int)] w fun e w' => e = .returned (.bool true) ∧ Below w.heap.size w w' := by
  obtain ⟨x, hx⟩ : ∃ x : Bool, ((s.toNat : Int) == (t.toNat : Int)) = x := ⟨_, rfl⟩
  obtain ⟨y, hy⟩ : ∃ y : Bool, ((p : Int) == (q : Int)) = y := ⟨_, rfl⟩
  obtain ⟨r, hr⟩ : ∃ r, r = if x = false ∧ y = false then p else q := ⟨_, rfl⟩
  obtain ⟨z, hz⟩ : ∃ z : Bool, ((p : Int) == (r : Int)) = z := ⟨_, rfl⟩
  have hr1 : r < 65536 := by rw [hr]; split <;> omega
  refine apart_walk s t p q r i hp hq hi x y hx hy z hr hz ?_ w
  have hkey : keyB s p = keyB t r ↔ s = t ∧ p = r := by
    constructor
    · intro h
      by_cases hst : s = t
      · subst hst
        exact ⟨rfl, keyB_process (by omega) (by omega) h⟩
      · exfalso
        have hxf : x = false := by rw [← hx]; exact uvne hst
        by_cases hpr : p = r
        · subst hpr
          exact hst (keyB_seed h)
        · have : y = true := by
            cases hyy : y
            · rw [if_pos ⟨hxf, hyy⟩] at hr; exact absurd hr.symm hpr
            · rfl
          rw [this, beq_iff_eq] at hy
          rw [if_neg (by rw [this]; simp)] at hr
          omega
    · rintro ⟨rfl, rfl⟩; rfl
  have hb : (x && z) = decide (keyB s p = keyB t r) := by
    rw [← hx, ← hz, uv_eq, Bool.eq_iff_iff]
    simp only [Bool.and_eq_true, beq_iff_eq, decide_eq_true_eq]
    rw [hkey]
    constructor <;> rintro ⟨a, b⟩ <;> exact ⟨a, by omega⟩
  rw [hb]
  refine ⟨by rw [uv_eq]; rfl, fun a => ?_⟩
  rw [uv_eq, Bool.eq_iff_iff, beq_iff_eq, decide_eq_true_eq]
  exact ⟨fun h => valB_key h, fun h => by rw [h]⟩
end Go.Proofs.Ytfcajgfhmfpchaa
