/-
  CONTRACTS of fermatakit.LentBytes and KeptBytes for up to 20000 bytes: a copy with marks behind it, and whether it is as it was.
-/
import Derived.Test.YtfgiejeeolnhbaaKept
namespace Go.Proofs.Ytfgiejeeolnhbaa
open Go.RowKit Pl

set_option maxRecDepth 100000 in
set_option maxHeartbeats 1000000 in
theorem lentBytes2_calls (v : Value) (l : List Nat) (w : World) (h : BRow w v l) (hl : l.length ≤ 20000) :
    Calls Try.prog 34 #[v] w fun e w' => ∃ g, e = .returned (.slice (some ⟨g, 0, none⟩) l.length (l.length + 12)) ∧ BRow w' (.slice (some ⟨g, 0, none⟩) (l.length + 12) (l.length + 12)) (l ++ marks 12) ∧ Below w.heap.size w w' := by
  obtain ⟨i0, hi, hz0, hz1, hz2⟩ := info_parts info_u8
  have hI := Lib.hid hi
  have hZ0 := Lib.hid hz0
  have hZ1 := Lib.hid hz1
  have hZ2 := Lib.hid hz2
  clear hi hz0 hz1 hz2
  have hrow := Lib.hid h
  obtain ⟨a, cap, rfl⟩ := h.shape
  clear h
  go_enter Try.func34, Try.ntmps34
  go_wp2_with (first
    | (at_make; refine wpList_make_own _ rfl _ _ 22 rfl w.heap.size 5 i0 (.int .u8 0) 1 Try.underlying22 hI.out hZ0.out hZ1.out .i64 .i64 ((l.length : Int) + 12) (l.length + 12) rfl rfl (by omega) (by rw [hZ2.out]; omega) (by unfold maxLen; omega) (Nat.le_refl _) ?_; intro w1 hown1 hgrow1; have HO1 := Lib.hid hown1; have HB1 := Lib.hid (grown_none_below hgrow1); clear hown1 hgrow1)
    | (at_builtin; refine wpList_fits8 rfl (.tmp 9) (.tmp 10) rfl w.heap.size w.heap.size (l.length + 12) [] rfl HO1.out _ l rfl (hrow.out.below HB1.out) (by simp) ?_; intro w2 hown2 hgrow2; have HO2 := Lib.hid hown2; have HB2 := Lib.hid (HB1.out.grown hgrow2 HB1.out.size (fun k e => by cases e; exact Nat.le_refl _)); clear hown2 hgrow2)
    | fail)
  go_loopw [3, 4] (fun o i wr => ∃ k : Nat, k ≤ 12 ∧ i = .int .i64 k ∧ o = .slice (some ⟨w.heap.size, 0, none⟩) (l.length + k) (l.length + 12) ∧ Own8 wr w.heap.size (.slice (some ⟨w.heap.size, 0, none⟩) (l.length + k) (l.length + 12)) (l ++ marks k) ∧ Below w.heap.size w wr) (fun _ i _ => 12 - (intOf i).toNat)
  case atStart => exact ⟨0, by omega, rfl, rfl, by simpa [marks] using HO2.out, HB2.out⟩
  case round =>
    obtain ⟨k, hk, rfl, rfl, hown, hbel⟩ := hrel
    have HO := Lib.hid hown
    have HB := Lib.hid hbel
    have hsz := hbel.size
    clear hown hbel
    have hmk : AllB [mkB k] := by intro d hd; simp only [List.mem_singleton] at hd; subst hd; exact mkB_lt k
    have hle1 : [mkB k].length ≤ 1000 := by simp
    have HLN := Lib.hid (show l.length + k = (l ++ marks k).length by rw [List.length_append, marks_length])
    have hnx : l ++ marks k ++ [mkB k] = l ++ marks (k + 1) := by rw [marks_succ, List.append_assoc]
    have HNX := Lib.hid hnx
    clear hnx
    by_cases hlt : k < 12
    · go_wp2_with (first
        | (go_at_call 77; refine (markByte_calls k _ (by omega)).mono ?_; rintro e w' ⟨rfl, rfl⟩)
        | (at_builtin; refine wpList_fits8n rfl (.tmp 16) (.tmp 19) rfl w.heap.size w.heap.size (l.length + 12) (l.length + k) (l.length + (k + 1)) (l ++ marks k) rfl (HO.out.alloc _) _ [mkB k] rfl (BRow.lit _ _ _ hmk hle1) HLN.out rfl (by omega) ?_; intro w3 hown3 hgrow3; have HO3 := Lib.hid hown3; have HB3 := Lib.hid ((HB.out.alloc HB.out.size _).grown hgrow3 (by have := HB.out.size; simp; omega) (fun j hj => by cases hj; exact Nat.le_refl _)); clear hown3 hgrow3)
        | fail)
      go_roundw
      case rel => exact ⟨k + 1, by omega, by go_num, rfl, by rw [← HNX.out]; exact HO3.out, HB3.out⟩
      case measure => simp [intOf]; omega
    · obtain rfl : k = 12 := by omega
      have hall : AllB (l ++ marks 12) := by
        intro d hd
        rw [List.mem_append] at hd
        exact hd.elim (hrow.out.1 d) (marks_allB 12 d)
      have HR := Lib.hid (show BRow wr (.slice (some ⟨w.heap.size, 0, none⟩) (l.length + 12) (l.length + 12)) (l ++ marks 12) from BRow.of_own HO.out hall)
      clear hall
      go_wp2
      go_ret
      exact ⟨_, rfl, HR.out, HB.out⟩

set_option maxRecDepth 100000 in
set_option maxHeartbeats 1000000 in
theorem keptBytes2_calls (v : Value) (l : List Nat) (g : Nat) (w : World) (h : BRow w v l) (hl : l.length ≤ 20000) (hk : BRow w (.slice (some ⟨g, 0, none⟩) (l.length + 12) (l.length + 12)) (l ++ marks 12)) :
    Calls Try.prog 46 #[.slice (some ⟨g, 0, none⟩) l.length (l.length + 12), v] w fun e w' => e = .returned (.bool true) ∧ ∃ n, w' = w.drewN n := by
  have hrow := Lib.hid h
  have HK := Lib.hid hk
  obtain ⟨a, cap, rfl⟩ := h.shape
  clear h hk
  go_enter Try.func46, Try.ntmps46
  go_wp2
  have hcs : ∀ i, i < l.length + 12 → w.cell? ⟨g, i, none⟩ = some (.int .u8 (gt (l ++ marks 12) i : Nat)) := by
    obtain ⟨_, ⟨_, _, _, h0, _⟩ | ⟨b, off, c', e, _, _, h3⟩⟩ := HK.out
    · have := congrArg List.length h0; simp [marks_length] at this
    · have e1 := (Value.slice.inj e).1
      cases e1
      intro i hi
      have := h3 i (by rw [List.length_append, marks_length]; exact hi)
      rwa [Nat.zero_add] at this
  have HC := Lib.hid hcs
  clear hcs
  go_loopw [6] (fun i wr => ∃ k : Nat, k ≤ l.length + 12 ∧ i = .int .i64 k ∧ ∃ n, wr = w.drewN n) (fun i _ => l.length + 12 - (intOf i).toNat)
  case atStart => exact ⟨0, by omega, rfl, 0, rfl⟩
  case round =>
    obtain ⟨k, hk, rfl, n, rfl⟩ := hrel
    by_cases hlt : k < l.length + 12
    · by_cases hin : k < l.length
      · have c1 := HC.out k hlt
        rw [show gt (l ++ marks 12) k = gt l k by simp [gt, hin, List.getElem?_append_left hin]] at c1
        obtain ⟨_, ⟨_, _, _, h0, _⟩ | ⟨b, off, c', e, hc', hm', h3⟩⟩ := hrow.out
        · subst h0; simp at hin
        · cases e
          have c2 := h3 k hin
          have hH := Lib.hid h3
          clear h3
          have hge : decide ((l.length : Int) ≤ (k : Int)) = false := by simp; omega
          have hge2 : decide (l.length ≤ k) = false := by simp; omega
          have hin' : decide ((k : Int) < (l.length : Int)) = true := by simp; omega
          have hin2 : decide (k < l.length) = true := by simp; omega
          have hdd : ((gt l k : Int) == (gt l k : Int)) = true := by simp
          go_wp2
          go_quiet (fail)
          go_wp2
          go_roundw
          case rel => exact ⟨k + 1, by omega, by go_num, _, rfl⟩
          case measure => simp [intOf]; omega
      · obtain ⟨j, rfl⟩ : ∃ j, k = l.length + j := ⟨k - l.length, by omega⟩
        have hj : j < 12 := by omega
        have c1 := HC.out (l.length + j) hlt
        rw [show gt (l ++ marks 12) (l.length + j) = mkB j from gt_behind l mkB 12 j hj] at c1
        have hge : decide ((l.length : Int) ≤ ((l.length + j : Nat) : Int)) = true := by simp; omega
        have hge2 : decide (l.length ≤ l.length + j) = true := by simp
        have hge3 : decide ((l.length : Int) ≤ (l.length : Int) + (j : Int)) = true := by simp; omega
        have hin' : decide (((l.length + j : Nat) : Int) < (l.length : Int)) = false := by simp; omega
        have hin2 : decide (l.length + j < l.length) = false := by simp
        have hin3 : decide ((l.length : Int) + (j : Int) < (l.length : Int)) = false := by simp; omega
        have hMK := Lib.hid (fun W => (markByte_calls j W (by omega)).mono fun e w' (h : _ ∧ W = w') => (⟨h.1, h.2.symm⟩ : _ ∧ w' = W))
        generalize mkB j = z at c1 hMK
        have hdd : ((z : Int) == (z : Int)) = true := by simp
        go_wp2
        go_quiet ((go_at_call 77; rw [show ((l.length : Int) + (j : Int) - (l.length : Int)) = j by omega]; exact (hMK.out _).mono fun e w' h => ⟨h.1, _, h.2⟩))
        go_wp2
        go_roundw
        case rel => exact ⟨l.length + (j + 1), by omega, by go_num, _, rfl⟩
        case measure => simp [intOf]; omega
    · obtain rfl : k = l.length + 12 := by omega
      go_wp2
      go_ret
      exact ⟨rfl, _, rfl⟩
end Go.Proofs.Ytfgiejeeolnhbaa
