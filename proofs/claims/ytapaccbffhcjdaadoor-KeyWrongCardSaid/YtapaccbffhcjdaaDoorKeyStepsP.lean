/-
  PLAIN FACTS on a key's neighbours, and the CONTRACT of the law's Made.
-/
import Derived.Test.YtapaccbffhcjdaaDoorKeyAwake
namespace Go.Proofs.YtapaccbffhcjdaaDoor
open Go.RowKit Go.Shelf Go.Sort

theorem next_some {x : Ky} (hx : RightK x) (h : (nextK x).2 = 0) : RightK (nextK x).1 ∧ backK (nextK x).1 = (x, 0) ∧ LessK x (nextK x).1 ∧ ∀ y, RightK y → LessK x y → ¬ LessK y (nextK x).1 := by
  obtain ⟨a, b, c⟩ := x
  unfold nextK at h ⊢
  rw [if_pos hx] at h ⊢
  unfold RightK at hx
  simp only at hx h ⊢
  by_cases h1 : c < 4294967295
  · rw [if_pos h1] at h ⊢
    have hr : RightK (a, b, c + 1) := by unfold RightK; simp only; omega
    refine ⟨hr, ?_, .inr ⟨rfl, .inr ⟨rfl, (by show c < c + 1; omega)⟩⟩, fun y hy h1 h2 => by unfold LessK at h1 h2; simp only at h1 h2; omega⟩
    unfold backK
    rw [if_pos hr]
    simp only
    rw [if_pos (by omega)]
    simp
  · rw [if_neg h1] at h ⊢
    by_cases h2 : b < 16
    · rw [if_pos h2] at h ⊢
      have hr : RightK (a, b + 1, 0) := by unfold RightK; simp only; omega
      refine ⟨hr, ?_, .inr ⟨rfl, .inl (by show b < b + 1; omega)⟩, fun y hy h1 h2 => by unfold RightK at hy; unfold LessK at h1 h2; simp only at h1 h2; omega⟩
      unfold backK
      rw [if_pos hr]
      simp only
      rw [if_neg (by omega), if_pos (by omega)]
      simp
      omega
    · rw [if_neg h2] at h ⊢
      by_cases h3 : a < 281474976710656
      · rw [if_pos h3] at h ⊢
        have hr : RightK (a + 1, 0, 0) := by unfold RightK; simp only; omega
        refine ⟨hr, ?_, by unfold LessK; simp only; omega, fun y hy h1 h2 => by unfold RightK at hy; unfold LessK at h1 h2; simp only at h1 h2; omega⟩
        unfold backK
        rw [if_pos hr]
        simp only
        rw [if_neg (by omega), if_neg (by omega), if_pos (by omega)]
        simp
        omega
      · rw [if_neg h3] at h
        exact absurd h (by decide)
theorem next_none {x : Ky} (hx : RightK x) (h : (nextK x).2 ≠ 0) : nextK x = ((0, 0, 0), 6) ∧ ∀ y, RightK y → ¬ LessK x y := by
  obtain ⟨a, b, c⟩ := x
  unfold nextK at h ⊢
  rw [if_pos hx] at h ⊢
  unfold RightK at hx
  simp only at hx h ⊢
  by_cases h1 : c < 4294967295
  · rw [if_pos h1] at h; exact absurd rfl h
  · rw [if_neg h1] at h ⊢
    by_cases h2 : b < 16
    · rw [if_pos h2] at h; exact absurd rfl h
    · rw [if_neg h2] at h ⊢
      by_cases h3 : a < 281474976710656
      · rw [if_pos h3] at h; exact absurd rfl h
      · rw [if_neg h3]
        exact ⟨rfl, fun y hy h1 => by unfold RightK at hy; unfold LessK at h1; simp only at h1; omega⟩
theorem back_some {x : Ky} (hx : RightK x) (h : (backK x).2 = 0) : RightK (backK x).1 ∧ nextK (backK x).1 = (x, 0) ∧ LessK (backK x).1 x ∧ ∀ y, RightK y → LessK y x → ¬ LessK (backK x).1 y := by
  obtain ⟨a, b, c⟩ := x
  unfold backK at h ⊢
  rw [if_pos hx] at h ⊢
  unfold RightK at hx
  simp only at hx h ⊢
  by_cases h1 : 0 < c
  · rw [if_pos h1] at h ⊢
    have hr : RightK (a, b, c - 1) := by unfold RightK; simp only; omega
    refine ⟨hr, ?_, .inr ⟨rfl, .inr ⟨rfl, (by show c - 1 < c; omega)⟩⟩, fun y hy h1 h2 => by unfold LessK at h1 h2; simp only at h1 h2; omega⟩
    unfold nextK
    rw [if_pos hr]
    simp only
    rw [if_pos (by omega)]
    simp
  · rw [if_neg h1] at h ⊢
    by_cases h2 : 0 < b
    · rw [if_pos h2] at h ⊢
      have hr : RightK (a, b - 1, 4294967295) := by unfold RightK; simp only; omega
      refine ⟨hr, ?_, .inr ⟨rfl, .inl (by show b - 1 < b; omega)⟩, fun y hy h1 h2 => by unfold RightK at hy; unfold LessK at h1 h2; simp only at h1 h2; omega⟩
      unfold nextK
      rw [if_pos hr]
      simp only
      rw [if_neg (by omega), if_pos (by omega)]
      simp
      omega
    · rw [if_neg h2] at h ⊢
      by_cases h3 : 0 < a
      · rw [if_pos h3] at h ⊢
        have hr : RightK (a - 1, 16, 4294967295) := by unfold RightK; simp only; omega
        refine ⟨hr, ?_, by unfold LessK; simp only; omega, fun y hy h1 h2 => by unfold RightK at hy; unfold LessK at h1 h2; simp only at h1 h2; omega⟩
        unfold nextK
        rw [if_pos hr]
        simp only
        rw [if_neg (by omega), if_neg (by omega), if_pos (by omega)]
        simp
        omega
      · rw [if_neg h3] at h
        exact absurd h (by decide)
theorem back_none {x : Ky} (hx : RightK x) (h : (backK x).2 ≠ 0) : backK x = ((0, 0, 0), 6) ∧ ∀ y, RightK y → ¬ LessK y x := by
  obtain ⟨a, b, c⟩ := x
  unfold backK at h ⊢
  rw [if_pos hx] at h ⊢
  unfold RightK at hx
  simp only at hx h ⊢
  by_cases h1 : 0 < c
  · rw [if_pos h1] at h; exact absurd rfl h
  · rw [if_neg h1] at h ⊢
    by_cases h2 : 0 < b
    · rw [if_pos h2] at h; exact absurd rfl h
    · rw [if_neg h2] at h ⊢
      by_cases h3 : 0 < a
      · rw [if_pos h3] at h; exact absurd rfl h
      · rw [if_neg h3]
        exact ⟨rfl, fun y hy h1 => by unfold RightK at hy; unfold LessK at h1; simp only at h1; omega⟩
theorem ends_is {t : Int} {y : Ky} (hy : RightK y) : (cfK (t, 0, 0) y ≤ 0 ∧ cfK y (t, 16, 4294967295) ≤ 0) ↔ t = y.1 := by
  have h1 : cfK (t, 0, 0) y ≤ 0 ↔ ¬ LessK y (t, 0, 0) := by rw [← cfK_pos (a := (t, 0, 0)) (b := y)]; omega
  have h2 : cfK y (t, 16, 4294967295) ≤ 0 ↔ ¬ LessK (t, 16, 4294967295) y := by rw [← cfK_pos (a := y) (b := (t, 16, 4294967295))]; omega
  rw [h1, h2]
  unfold RightK at hy
  unfold LessK
  simp only
  omega

/-- What Made makes of a small key. -/
def madeK (x : Ky) : Ky := (x.1 % 281474976710657, x.2.1 % 17, x.2.2)
/-- A small key. -/
def SmallK (x : Ky) : Prop := (0 ≤ x.1 ∧ x.1 < 18446744073709551616) ∧ (0 ≤ x.2.1 ∧ x.2.1 < 4294967296) ∧ (0 ≤ x.2.2 ∧ x.2.2 < 4294967296)
theorem made_right {x : Ky} (h : SmallK x) : RightK (madeK x) := by
  unfold SmallK at h
  unfold RightK madeK
  simp only
  omega
set_option maxRecDepth 100000 in
theorem madeK_calls (x : Ky) (w : World) (h : SmallK x) :
    Calls Tryd.prog 16 #[.agg #[.int .u64 x.1, .int .u32 x.2.1, .int .u32 x.2.2]] w fun e w' => e = .returned (.agg #[.int .i64 (madeK x).1, .int .i64 (madeK x).2.1, .int .i64 (madeK x).2.2]) ∧ Below w.heap.size w w' := by
  have HB := Lib.hid (((Below.refl w.heap.size w).alloc (Nat.le_refl _) (.cells #[.int .u64 x.1, .int .u32 x.2.1, .int .u32 x.2.2] 33)).alloc (by simp) (.cells #[.int .i64 (madeK x).1, .int .i64 (madeK x).2.1, .int .i64 (madeK x).2.2] 23))
  obtain ⟨a, b, c⟩ := x
  have hr := made_right h
  unfold SmallK at h
  unfold RightK madeK at hr
  unfold madeK at HB ⊢
  simp only at h hr HB ⊢
  have r1 : IntKind.u64.wrap (a.tmod 281474976710657) = a % 281474976710657 := by rw [Int.tmod_eq_emod_of_nonneg (by omega), IntKind.wrap_u64]; omega
  have r2 : IntKind.u32.wrap (b.tmod 17) = b % 17 := by rw [Int.tmod_eq_emod_of_nonneg (by omega), IntKind.wrap_u32]; omega
  have r3 : IntKind.i64.wrap (a % 281474976710657) = a % 281474976710657 := by rw [IntKind.wrap_i64]; omega
  have r4 : IntKind.i64.wrap (b % 17) = b % 17 := by rw [IntKind.wrap_i64]; omega
  have r5 : IntKind.i64.wrap c = c := by rw [IntKind.wrap_i64]; omega
  have s1 : a.tmod 281474976710657 = a % 281474976710657 := Int.tmod_eq_emod_of_nonneg (by omega)
  have s2 : b.tmod 17 = b % 17 := Int.tmod_eq_emod_of_nonneg (by omega)
  clear h hr
  go_enter Tryd.func16, Tryd.ntmps16
  go_wp2
  exact bodyPost_ret (v := .agg #[.int .i64 (a % 281474976710657), .int .i64 (b % 17), .int .i64 c]) (by simp [results, Tryd.f16, go_sem]) rfl ⟨rfl, HB.out⟩
end Go.Proofs.YtapaccbffhcjdaaDoor
