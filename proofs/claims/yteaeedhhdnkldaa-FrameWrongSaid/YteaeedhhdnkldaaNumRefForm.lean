/-
  CONTRACTS of the reference's digits and Form (layer 1): the same forms, in new memory.
-/
import Derived.Test.YteaeedhhdnkldaaAppend8
import Derived.Test.YteaeedhhdnkldaaAwake01
namespace Go.Proofs.Yteaeedhhdnkldaa
open Go.RowKit Pl

/-- What is owned from a block on is owned from an earlier one on. -/
theorem own_mono {w : World} {base base' : Nat} {v : Value} {l : List Nat} (h : Own8 w base v l) (hb : base' ≤ base) : Own8 w base' v l := by
  refine ⟨h.1, ?_⟩
  rcases h.2 with h0 | ⟨g, cap, cur, h1, h2, h3⟩
  · exact .inl h0
  · exact .inr ⟨g, cap, cur, h1, by omega, h3⟩

/-- The reference's digits: those of 0 are one digit. -/
def rdig : Nat → Nat → List Nat
  | 0, x => [x % 256]
  | k + 1, x => if x < 256 then [x] else rdig k (x / 256) ++ [x % 256]
theorem rdig_allB (k : Nat) : ∀ x, AllB (rdig k x) := by
  induction k with
  | zero => intro x; exact AllB.cons (by omega) AllB.nil
  | succ k ih =>
    intro x
    unfold rdig
    split
    · exact AllB.cons (by omega) AllB.nil
    · exact (ih _).append (AllB.cons (by omega) AllB.nil)
theorem rdig_length (k : Nat) : ∀ x, (rdig k x).length ≤ k + 1 ∧ 1 ≤ (rdig k x).length := by
  induction k with
  | zero => intro x; simp [rdig]
  | succ k ih =>
    intro x
    unfold rdig
    split
    · simp
    · have := ih (x / 256); simp; omega
theorem dg_zero (k : Nat) : dg k 0 = [] := by cases k <;> simp [dg]
theorem rdig_dg (k : Nat) : ∀ x, x ≠ 0 → x < 256 ^ (k + 1) → rdig k x = dg (k + 1) x := by
  induction k with
  | zero =>
    intro x h0 h
    have h' : x < 256 := by simpa using h
    have e : x / 256 = 0 := by omega
    unfold rdig dg
    rw [if_neg h0, e, dg_zero]
    rfl
  | succ k ih =>
    intro x h0 h
    rw [dg, if_neg h0]
    unfold rdig
    by_cases hx : x < 256
    · have e : x / 256 = 0 := by omega
      rw [if_pos hx, e, dg_zero, List.nil_append, Nat.mod_eq_of_lt hx]
    · rw [if_neg hx, ih (x / 256) (by omega) (by rw [Nat.pow_succ] at h; omega)]

set_option maxRecDepth 100000 in
set_option maxHeartbeats 1000000 in
theorem rdigits_calls (k : Nat) : ∀ (x : Nat) (w : World), x < 256 ^ (k + 1) → k ≤ 7 → x < 18446744073709551616 →
    Calls Try.prog 68 #[.int .u64 x] w fun e w' => ∃ v', e = .returned v' ∧ Own8 w' w.heap.size v' (rdig k x) ∧ Below w.heap.size w w' := by
  induction k with
  | zero =>
    intro x w hx _ _
    have h : x < 256 := by simpa using hx
    have hm : x % 256 = x := Nat.mod_eq_of_lt h
    have HF := Lib.hid (show rdig 0 x = [x] by show [x % 256] = [x]; rw [hm])
    clear hm hx
    go_enter Try.func68, Try.ntmps68
    go_wp2_with fail
    go_ret
    rw [HF.out]
    exact ⟨_, rfl, own8_lit w [x] _ _ _ _ rfl rfl rfl rfl (by simp) _ (Nat.le_refl _), (Below.refl _ _).alloc (Nat.le_refl _) _⟩
  | succ k ih =>
    intro x w hx hk hx64
    by_cases h : x < 256
    · have HF := Lib.hid (show rdig (k + 1) x = [x] by unfold rdig; rw [if_pos h])
      clear hx
      go_enter Try.func68, Try.ntmps68
      go_wp2_with fail
      go_ret
      rw [HF.out]
      exact ⟨_, rfl, own8_lit w [x] _ _ _ _ rfl rfl rfl rfl (by simp) _ (Nat.le_refl _), (Below.refl _ _).alloc (Nat.le_refl _) _⟩
    · have HF := Lib.hid (show rdig (k + 1) x = rdig k (x / 256) ++ [x % 256] by unfold rdig; rw [if_neg h]; cases k <;> rfl)
      have HI := Lib.hid (ih (x / 256) w (by rw [Nat.pow_succ] at hx; omega) (by omega) (by omega))
      have hl := (rdig_length k (x / 256)).1
      clear ih hx
      generalize rdig k (x / 256) = d at *
      go_enter Try.func68, Try.ntmps68
      go_wp2_with (first
        | (go_at_call 68; refine HI.out.mono ?_; rintro e w1 ⟨v1, rfl, hown1, hb1⟩; have HO1 := Lib.hid hown1; have HB1 := Lib.hid hb1; clear hown1 hb1)
        | (at_builtin; refine wpList_append8 rfl (.tmp 10) (.tmp 14) rfl w.heap.size _ d rfl (HO1.out.alloc _) _ [x % 256] rfl (BRow.litAt w1 [x % 256] _ _ _ _ (by first | rfl | (simp; done)) rfl rfl (AllB.cons (by omega) AllB.nil) (by simp)) (by simp; omega) (by have := HB1.out.size; simp; omega) ?_; intro v2 w2 hown2 hgrow2; have HO2 := Lib.hid hown2; have HB2 := Lib.hid (below_append (HO1.out.alloc _) hgrow2 (by have := HB1.out.size; simp; omega)); clear hown2 hgrow2)
        | fail)
      go_ret
      rw [HF.out]
      exact ⟨_, rfl, HO2.out, (HB1.out.alloc HB1.out.size _).trans HB2.out⟩

set_option maxRecDepth 100000 in
set_option maxHeartbeats 1000000 in
theorem refForm_calls (x : Nat) (w : World) (hx : x < 18446744073709551616) :
    Calls Try.prog 13 #[.int .u64 x] w fun e w' => ∃ v', e = .returned v' ∧ Own8 w' w.heap.size v' (form x) ∧ Below w.heap.size w w' := by
  by_cases h : x ≤ 246
  · have HF := Lib.hid (show form x = [x] by unfold form; rw [if_pos h])
    go_enter Try.func13, Try.ntmps13
    go_wp2_with fail
    go_ret
    rw [HF.out]
    exact ⟨_, rfl, own8_lit w [x] _ _ _ _ rfl rfl rfl rfl (by simp) _ (Nat.le_refl _), (Below.refl _ _).alloc (Nat.le_refl _) _⟩
  · have HF := Lib.hid (show form x = (246 + (digs x).length) :: digs x by unfold form; rw [if_neg h])
    have HD := rdigits_calls 7 x w (by simpa using hx) (by omega) hx
    rw [rdig_dg 7 x (by omega) (by simpa using hx)] at HD
    have HD' := Lib.hid HD
    clear HD
    have hl : (dg 8 x).length ≤ 8 := dg_length 8 x
    have HA := Lib.hid (dg_allB 8 x)
    rw [show digs x = dg 8 x from rfl] at HF
    rw [show 7 + 1 = 8 from rfl] at HD'
    generalize dg 8 x = d at *
    go_enter Try.func13, Try.ntmps13
    go_wp2_with (first
      | (go_at_call 68; refine HD'.out.mono ?_; rintro e w1 ⟨v1, rfl, hown1, hb1⟩; have HO1 := Lib.hid (BRow.of_own hown1 HA.out); have HB1 := Lib.hid hb1; obtain ⟨va, vc, rfl⟩ := owns_shape hown1; clear hown1 hb1)
      | (at_builtin; refine wpList_append8 rfl (.tmp 15) (.tmp 16) rfl w1.heap.size _ [246 + d.length] rfl (own8_lit w1 [246 + d.length] _ _ _ _ (by first | rfl | (simp [B8]; done)) rfl rfl rfl (by simp) _ (Nat.le_refl _)) _ d rfl (HO1.out.below ((Below.refl _ _).alloc (Nat.le_refl _) _)) (by simp; omega) (by simp) ?_; intro v2 w2 hown2 hgrow2; have HO2 := Lib.hid hown2; have HB2 := Lib.hid (((Below.refl _ w1).alloc (Nat.le_refl _) _).trans (below_append (own8_lit w1 [246 + d.length] _ _ _ _ (by first | rfl | (simp [B8]; done)) rfl rfl rfl (by simp) _ (Nat.le_refl _)) hgrow2 (by simp))); clear hown2 hgrow2)
      | fail)
    go_ret
    rw [HF.out]
    refine ⟨_, rfl, ?_, HB1.out.trans (HB2.out.mono HB1.out.size)⟩
    exact own_mono HO2.out HB1.out.size
end Go.Proofs.Yteaeedhhdnkldaa
