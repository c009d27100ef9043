/-
  CONTRACT of field.first: the field at the beginning of bytes, zero if there is none; nothing that was there is written.
-/
import Derived.Test.YteaeedhhdnkldaaFieldWrite
import Derived.BigQuiet
import Derived.Deep.RegionLaw
import Derived.BigRegion
namespace Go.Proofs.Yteaeedhhdnkldaa
open Go.RowKit Pl

/-- What first says: the tag, the bytes, and how many bytes they take together. -/
def firstN (l : List Nat) : Nat × List Nat × Nat :=
  if (rd (l.drop 1)).2.2 ≠ 0 ∨ 16384 < (rd (l.drop 1)).1 ∨ l.length < 1 + (rd (l.drop 1)).2.1 + (rd (l.drop 1)).1 then (0, [], 0)
  else (gt l 0, (l.drop (1 + (rd (l.drop 1)).2.1)).take (rd (l.drop 1)).1, 1 + (rd (l.drop 1)).2.1 + (rd (l.drop 1)).1)

set_option maxRecDepth 100000 in
set_option maxHeartbeats 1000000 in
theorem first_calls (v : Value) (l : List Nat) (w : World) (h : BRow w v l) (h0 : 0 < l.length) (hl : l.length ≤ 16768) :
    Calls Try.prog 145 #[v] w fun e w' => ∃ v', e = .returned (.tuple #[.agg #[.int .i64 (firstN l).1, v'], .int .i64 (firstN l).2.2]) ∧ (∀ W0, BRow W0 v l → BRow W0 v' (firstN l).2.1) ∧ Below w.heap.size w w' := by
  have hI : ∀ W, Below w.heap.size w W → _ := fun W hb => int_calls v l W (h.below hb) 1 (by omega) (by omega) 0 16384
  have hrl := rd_len (l.drop 1) (h.1.drop 1)
  rw [List.length_drop] at hrl
  have hdef : firstN l = if (rd (l.drop 1)).2.2 ≠ 0 ∨ 16384 < (rd (l.drop 1)).1 ∨ l.length < 1 + (rd (l.drop 1)).2.1 + (rd (l.drop 1)).1 then (0, [], 0)
      else (gt l 0, (l.drop (1 + (rd (l.drop 1)).2.1)).take (rd (l.drop 1)).1, 1 + (rd (l.drop 1)).2.1 + (rd (l.drop 1)).1) := rfl
  have hrd : rdAt l 1 = rd (l.drop 1) := by unfold rdAt; rw [if_neg (by omega)]; rfl
  obtain ⟨x, n, er, hr⟩ : ∃ x n er, rd (l.drop 1) = (x, n, er) := ⟨_, _, _, rfl⟩
  rw [hr] at hrd hrl hdef
  dsimp only at hrl hdef
  obtain ⟨ha, ⟨_, _, _, rfl, _⟩ | ⟨b, off, cap, rfl, hc, hm, hcell⟩⟩ := h
  · simp at h0
  have hc0 := hcell 0 h0
  rw [Nat.add_zero] at hc0
  have HRow := Lib.hid (show BRow w (.slice (some ⟨b, off, none⟩) l.length cap) l from ⟨ha, .inr ⟨b, off, cap, rfl, hc, hm, hcell⟩⟩)
  have hgt := gt_lt ha 0
  have hm' := hm
  unfold maxLen at hm'
  clear hcell hr
  have HI := Lib.hid hI
  clear hI
  by_cases h1 : er ≠ 0 ∨ 16384 < x
  · have hint : ∃ e2, intN l 1 0 16384 = (0, 0, e2) ∧ ((e2 : Int) != 0) = true := by
      by_cases he : er ≠ 0
      · exact ⟨er, by unfold intN; rw [hrd]; exact if_pos he, by rw [bne_iff_ne]; omega⟩
      · have he0 : er = 0 := by omega
        subst he0
        exact ⟨12, intN_out hrd (by omega), rfl⟩
    obtain ⟨e2, hi1, hi2⟩ := hint
    rw [hi1] at HI
    have hf : firstN l = (0, [], 0) := by rw [hdef, if_pos (by omega)]
    rw [hf]
    have HH := Lib.hid hrd
    clear hdef hrd hf hc0
    go_enter Try.func145, Try.ntmps145
    go_wp2_with (go_at_call 54; refine (HI.out _ ((Below.refl _ _).alloc (Nat.le_refl _) _)).mono ?_; rintro e w1 ⟨rfl, rfl⟩)
    refine bodyPost_ret (v := .tuple #[.agg #[.int .i64 0, .slice none 0 0], .int .i64 0]) (by simp [results, Try.results145, go_sem]) rfl ⟨_, rfl, fun _ _ => BRow.empty none 0 (Nat.zero_le _), (Below.refl _ _).alloc (Nat.le_refl _) _⟩
  · have hint : intN l 1 0 16384 = ((x : Int), n, 0) := by
      have he0 : er = 0 := by omega
      subst he0
      exact intN_in hrd (by omega) (by omega) (by omega)
    rw [hint] at HI
    by_cases h2 : l.length < 1 + n + x
    · have hf : firstN l = (0, [], 0) := by rw [hdef, if_pos (by omega)]
      rw [hf]
      clear hdef hrd hf hc0 hint
      have dl : decide (((l.length - (1 + n) : Nat) : Int) < (x : Int)) = true := by simp; omega
      go_enter Try.func145, Try.ntmps145
      go_wp2_with (go_at_call 54; refine (HI.out _ ((Below.refl _ _).alloc (Nat.le_refl _) _)).mono ?_; rintro e w1 ⟨rfl, rfl⟩)
      all_goals refine bodyPost_ret (v := .tuple #[.agg #[.int .i64 0, .slice none 0 0], .int .i64 0]) (by simp [results, Try.results145, go_sem]) rfl ⟨_, rfl, fun _ _ => BRow.empty none 0 (Nat.zero_le _), (Below.refl _ _).alloc (Nat.le_refl _) _⟩
    · have hf : firstN l = (gt l 0, (l.drop (1 + n)).take x, 1 + n + x) := by rw [hdef, if_neg (by omega)]
      rw [hf]
      clear hdef hrd hf hint
      go_enter Try.func145, Try.ntmps145
      go_wp2_with (go_at_call 54; refine (HI.out _ ((Below.refl _ _).alloc (Nat.le_refl _) _)).mono ?_; rintro e w1 ⟨rfl, rfl⟩)
      all_goals
        have hblt : b < w.heap.size := block_lt_of_cell hc0
        have hc1 : (w.alloc (.cells #[.int .i64 0, .slice none 0 0] 33)).cell? ⟨b, off, none⟩ = some (.int .u8 (gt l 0)) := (World.cell?_alloc_lt w _ ⟨b, off, none⟩ hblt).trans hc0
        clear hrl ha hc0 hm HI
        go_region
        go_wp2
      · obtain rfl : x = 0 := by omega
        refine bodyPost_ret (v := .tuple #[.agg #[.int .i64 (gt l 0 : Nat), .slice (some ⟨b, off, none⟩) 0 0], .int .i64 (1 + (n : Int) + ((0 : Nat) : Int))]) (by simp [results, Try.results145, go_sem]) rfl ⟨.slice (some ⟨b, off, none⟩) 0 0, ?_, ?_, ?_⟩
        · simp
        · exact fun _ _ => BRow.empty _ 0 (Nat.zero_le _)
        · exact ((Below.refl _ _).alloc (Nat.le_refl _) _).drew
      · refine bodyPost_ret (v := .tuple #[.agg #[.int .i64 (gt l 0 : Nat), .slice (some ⟨b, off + (1 + n), none⟩) x (cap - (1 + n))], .int .i64 (1 + (n : Int) + (x : Int))]) (by simp [results, Try.results145, go_sem]) rfl ⟨.slice (some ⟨b, off + (1 + n), none⟩) x (cap - (1 + n)), ?_, ?_, ?_⟩
        · simp
        · intro W0 hW0
          have hs := hW0.sub (1 + n) (1 + n + x) (off + (1 + n)) x (cap - (1 + n)) (by omega) (by omega) rfl (by omega) (by omega) (by unfold maxLen; omega)
          rw [show 1 + n + x - (1 + n) = x by omega] at hs
          exact hs
        · exact ((Below.refl _ _).alloc (Nat.le_refl _) _).drew
end Go.Proofs.Yteaeedhhdnkldaa
