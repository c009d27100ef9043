/-
  THE WALK of fermatalaw01.NumLimits: it returns true, and writes nothing that was there.
-/
import Derived.Test.YtflenhbkpaondaaFrame
import Derived.Test.YtflenhbkpaondaaAwake01
import Derived.Test.YtflenhbkpaondaaAppend8
import Derived.Test.YtflenhbkpaondaaNumPlain2
namespace Go.Proofs.Ytflenhbkpaondaa
open Go.RowKit Pl

theorem and_u63 (x : Nat) (h : (x : Int) ≤ 9223372036854775807) : bits BinOp.and IntKind.u64 (x : Int) 9223372036854775807 = x := by
  have := u64_and_nat x 9223372036854775807 (by omega) (by omega)
  have e : x &&& 9223372036854775807 = x := by
    have h2 := Nat.and_two_pow_sub_one_eq_mod x 63
    have h3 : (2 : Nat) ^ 63 - 1 = 9223372036854775807 := by rfl
    rw [h3] at h2
    rw [h2]
    exact Nat.mod_eq_of_lt (by omega)
  rw [e] at this
  exact this

set_option maxHeartbeats 4000000 in
theorem numLimits_walk (x : Nat) (least most at0 : Int) (w : World) (hx : x < 18446744073709551616) (ha : -9223372036854775808 ≤ at0 ∧ at0 ≤ 9223372036854775807) :
    Calls Try.prog 9 #[.int .u64 x, .int .i64 least, .int .i64 most, .int .i64 at0] w fun e w' => e = .returned (.bool true) ∧ Below w.heap.size w w' := by
  obtain ⟨f1, f2⟩ := form_length x
  go_enter Try.func9, Try.ntmps9
  go_wp2_with fail
  refine (awake_calls w).mono ?_
  rintro e w1 ⟨rfl, hb1⟩
  have HB1 := Lib.hid hb1
  clear hb1
  go_wp2_with fail
  refine (append_calls x hx _ w1.heap.size (by simp) _ [9, 9] (own8_lit w1 [9, 9] _ _ _ _ rfl rfl rfl rfl (by decide) _ (Nat.le_refl _)) (by decide)).mono ?_
  rintro e w2 ⟨v2, rfl, hown2, hb2⟩
  have hlen : ([9, 9] ++ form x).length = 2 + (form x).length := by simp; omega
  have hrow := BRow.of_own hown2 ((AllB.of rfl : AllB [9, 9]).append (form_allB x))
  obtain ⟨g, cap, rfl, hcap, hmax, _, _⟩ := own8_some hown2 (by omega)
  have hr0 : rdAt ([9, 9] ++ form x) 2 = (x, (form x).length, 0) := by
    have := rdAt_nat ([9, 9] ++ form x) 2 (by omega)
    rw [show ((2 : Nat) : Int) = 2 from rfl] at this
    rw [this]
    exact rd_form' x hx
  have hr4 : rdAt (([9, 9] ++ form x).take (1 + (form x).length)) 2 = (0, 0, 10) := by
    have e : ([9, 9] ++ form x).take (1 + (form x).length) = [9, 9] ++ (form x).take ((form x).length - 1) := by
      rw [List.take_append]
      have e1 : (1 + (form x).length - [9, 9].length) = (form x).length - 1 := by simp; omega
      rw [e1, List.take_of_length_le (by simp; omega)]
    have h2 : 2 ≤ (([9, 9] ++ form x).take (1 + (form x).length)).length := by rw [List.length_take]; omega
    have := rdAt_nat _ 2 h2
    rw [show ((2 : Nat) : Int) = 2 from rfl] at this
    rw [this, e]
    exact rd_short x _ hx (by omega)
  have hr8 : rdAt ([9, 9] ++ form x) ((2 + (form x).length : Nat) : Int) = (0, 0, 10) := by
    rw [← hlen, rdAt_nat _ _ (Nat.le_refl _), List.drop_length]
    rfl
  have HI := Lib.hid (int_calls _ _ w2 hrow 2 (by omega) (by omega) least most)
  have HT4 := Lib.hid (fun W (hW : Below w2.heap.size w2 W) => by
    have hs := (hrow.below hW).sub 0 (1 + (form x).length) 0 (1 + (form x).length) cap (by omega) (by omega) rfl (by omega) (by omega) hmax
    have := int_calls _ _ W hs 2 (by omega) (by omega) 1 0
    rw [List.drop_zero, Nat.sub_zero, intN_err hr4 (by decide)] at this
    exact this)
  have HT6 := Lib.hid (fun W (hW : Below w2.heap.size w2 W) (k : Int) (hk : k < 0) (hk2 : -9223372036854775808 ≤ k) => by
    have := int_calls _ _ W (hrow.below hW) k hk2 (by omega) 1 0
    rw [intN_err (rdAt_out (.inl hk)) (by decide)] at this
    exact this)
  have HT7 := Lib.hid (fun W (hW : Below w2.heap.size w2 W) (k : Int) (hk : (2 + (form x).length : Int) < k) (hk2 : k ≤ 9223372036854775807) => by
    have := read_calls _ _ W (hrow.below hW) k (by omega) hk2
    rw [rdAt_out (.inr (by rw [hlen]; omega))] at this
    exact this)
  have HT8 := Lib.hid (fun W (hW : Below w2.heap.size w2 W) => by
    have := read_calls _ _ W (hrow.below hW) ((2 + (form x).length : Nat) : Int) (by omega) (by omega)
    rw [hr8] at this
    exact this)
  have HZ := Lib.hid (fun W => size_calls x W hx)
  have HB2 := Lib.hid hb2
  have HR0 := Lib.hid hr0
  have HX := Lib.hid hx
  rw [hlen] at HI HT6 HT7 HT8 hcap ⊢
  clear hb2 hown2 hr0 hr4 hr8 hrow hlen hx
  generalize (form x).length = m at *
  go_wp2_with fail
  have hcases : (x : Int) ≤ 9223372036854775807 ∧ least ≤ x ∧ (x : Int) ≤ most ∨ 9223372036854775807 < (x : Int) ∨ (x : Int) ≤ 9223372036854775807 ∧ (x : Int) < least ∨ (x : Int) ≤ 9223372036854775807 ∧ least ≤ x ∧ most < (x : Int) := by omega
  rcases hcases with ⟨c1, c2, c3⟩ | c1 | ⟨c1, c2⟩ | ⟨c1, c2, c3⟩
  case' inl =>
    have HI2 := HI.out
    rw [intN_in HR0.out c1 c2 c3] at HI2
    have HI3 := Lib.hid HI2
    have hand := and_u63 x c1
    clear HI2 HI
    refine HI3.out.mono ?_
    rintro e w' ⟨rfl, rfl⟩
    go_wp2_with fail
    refine (HZ.out _).mono ?_
    rintro e w3 ⟨rfl, hb3⟩
    have HB3 := Lib.hid hb3
    clear hb3
    go_wp2_with fail
  case' inr.inl =>
    have HI2 := HI.out
    rw [intN_out HR0.out (.inl c1)] at HI2
    have HI3 := Lib.hid HI2
    clear HI2 HI
    refine HI3.out.mono ?_
    rintro e w3 ⟨rfl, rfl⟩
    have HB3 := Lib.hid (Below.refl w2.heap.size w2)
    go_wp2_with fail
  case' inr.inr.inl =>
    have HI2 := HI.out
    rw [intN_out HR0.out (.inr (.inl c2))] at HI2
    have HI3 := Lib.hid HI2
    have hand := and_u63 x c1
    clear HI2 HI
    refine HI3.out.mono ?_
    rintro e w3 ⟨rfl, rfl⟩
    have HB3 := Lib.hid (Below.refl w2.heap.size w2)
    go_wp2_with fail
  case' inr.inr.inr =>
    have HI2 := HI.out
    rw [intN_out HR0.out (.inr (.inr c3))] at HI2
    have HI3 := Lib.hid HI2
    have hand := and_u63 x c1
    clear HI2 HI
    refine HI3.out.mono ?_
    rintro e w3 ⟨rfl, rfl⟩
    have HB3 := Lib.hid (Below.refl w2.heap.size w2)
    go_wp2_with fail
  all_goals
    refine (HT4.out _ HB3.out).mono ?_
    rintro e w' ⟨rfl, rfl⟩
    go_wp2_with fail
    refine (int_lit _ [255] _ _ _ _ 1 0 (0, 0, 11) rfl rfl rfl (AllB.of rfl) (by decide) (by rfl)).mono ?_
    rintro e w' ⟨rfl, rfl⟩
    have hs3 := HB3.out.size
    have HB4 := Lib.hid (HB3.out.alloc hs3 (.cells #[.int .u8 255] 5))
    go_wp2_with fail
  all_goals
    refine (HT6.out _ HB4.out _ (by omega) (by omega)).mono ?_
    rintro e w' ⟨rfl, rfl⟩
    go_wp2_with fail
  all_goals
    refine (HT7.out _ HB4.out _ (by omega) (by omega)).mono ?_
    rintro e w' ⟨rfl, rfl⟩
    go_wp2_with fail
    refine (HT8.out _ HB4.out).mono ?_
    rintro e w' ⟨rfl, rfl⟩
    go_wp2
    go_ret
    refine ⟨rfl, ?_⟩
    have b1 := HB1.out
    have b2 := HB2.out
    have s1 := b1.size
    have s2 := b2.size
    rw [World.size_alloc] at s2
    refine Below.trans ?_ (HB4.out.mono (by omega))
    exact (b1.alloc s1 _).trans (b2.mono s1)
end Go.Proofs.Ytflenhbkpaondaa
