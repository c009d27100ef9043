/-
  CONTRACT of fermatakit.KeptBytes: of a lent slice that nothing was written into it says true.
-/
import Derived.Test.YtfgiejeeolnhbaaLent
namespace Go.Proofs.Ytfgiejeeolnhbaa
open Go.RowKit Pl

/-- The first bytes of a row. -/
theorem BRow.front {w : World} {a : Option Addr} {n cap : Nat} {l m : List Nat} (h : BRow w (.slice a n cap) (l ++ m)) (c : Nat) (hc : l.length ≤ c) (hm : c ≤ maxLen) : BRow w (.slice a l.length c) l := by
  obtain ⟨ha, ⟨a', c', e, h0, h1⟩ | ⟨b, off, c', e, h1, h2, h3⟩⟩ := h
  · have hl : l = [] := List.append_eq_nil_iff.mp h0 |>.1
    subst hl
    cases e
    exact ⟨fun d hd => ha d (by simp at hd), .inl ⟨a, c, rfl, rfl, by omega⟩⟩
  · cases e
    refine ⟨fun d hd => ha d (List.mem_append_left _ hd), .inr ⟨b, off, c, rfl, hc, hm, fun i hi => ?_⟩⟩
    rw [h3 i (by rw [List.length_append]; omega)]
    simp [gt, hi, List.getElem?_append_left hi]

theorem gt_behind (l : List Nat) (f : Nat → Nat) (n j : Nat) (hj : j < n) : gt (l ++ (List.range n).map f) (l.length + j) = f j := by
  simp [gt, List.getD, hj]

set_option maxRecDepth 100000 in
set_option maxHeartbeats 600000 in
theorem keptBytes_calls (v : Value) (l : List Nat) (g : Nat) (w : World) (h : BRow w v l) (hl : l.length ≤ 1000) (hk : BRow w (.slice (some ⟨g, 0, none⟩) (l.length + 12) (l.length + 12)) (l ++ marks 12)) :
    Calls Try.prog 46 #[.slice (some ⟨g, 0, none⟩) l.length (l.length + 12), v] w fun e w' => e = .returned (.bool true) ∧ ∃ n, w' = w.drewN n := by
  have hrow := Lib.hid h
  have HK := Lib.hid hk
  obtain ⟨a, cap, rfl⟩ := h.shape
  clear h hk
  go_enter Try.func46, Try.ntmps46
  go_wp2
  have hcs : ∀ i, i < l.length + 12 → w.cell? ⟨g, i, none⟩ = some (.int .u8 (gt (l ++ marks 12) i : Nat)) := by
    obtain ⟨_, ⟨_, _, _, h0, _⟩ | ⟨b, off, c', e, _, _, h3⟩⟩ := HK.out
    · have := congrArg List.length h0; simp [marks_length] at this
    · have e1 := (Value.slice.inj e).1
      cases e1
      intro i hi
      have := h3 i (by rw [List.length_append, marks_length]; exact hi)
      rwa [Nat.zero_add] at this
  have HC := Lib.hid hcs
  clear hcs
  go_loopw [6] (fun i wr => ∃ k : Nat, k ≤ l.length + 12 ∧ i = .int .i64 k ∧ ∃ n, wr = w.drewN n) (fun i _ => l.length + 12 - (intOf i).toNat)
  case atStart => exact ⟨0, by omega, rfl, 0, rfl⟩
  case round =>
    obtain ⟨k, hk, rfl, n, rfl⟩ := hrel
    by_cases hlt : k < l.length + 12
    · by_cases hin : k < l.length
      · have c1 := HC.out k hlt
        rw [show gt (l ++ marks 12) k = gt l k by simp [gt, hin, List.getElem?_append_left hin]] at c1
        obtain ⟨_, ⟨_, _, _, h0, _⟩ | ⟨b, off, c', e, hc', hm', h3⟩⟩ := hrow.out
        · subst h0; simp at hin
        · cases e
          have c2 := h3 k hin
          have hH := Lib.hid h3
          clear h3
          have hge : decide ((l.length : Int) ≤ (k : Int)) = false := by simp; omega
          have hge2 : decide (l.length ≤ k) = false := by simp; omega
          have hin' : decide ((k : Int) < (l.length : Int)) = true := by simp; omega
          have hin2 : decide (k < l.length) = true := by simp; omega
          have hdd : ((gt l k : Int) == (gt l k : Int)) = true := by simp
          go_wp2
          go_quiet (fail)
          go_wp2
          go_roundw
          case rel => exact ⟨k + 1, by omega, by go_num, _, rfl⟩
          case measure => simp [intOf]; omega
      · obtain ⟨j, rfl⟩ : ∃ j, k = l.length + j := ⟨k - l.length, by omega⟩
        have hj : j < 12 := by omega
        have c1 := HC.out (l.length + j) hlt
        rw [show gt (l ++ marks 12) (l.length + j) = mkB j from gt_behind l mkB 12 j hj] at c1
        have hge : decide ((l.length : Int) ≤ ((l.length + j : Nat) : Int)) = true := by simp; omega
        have hge2 : decide (l.length ≤ l.length + j) = true := by simp
        have hge3 : decide ((l.length : Int) ≤ (l.length : Int) + (j : Int)) = true := by simp; omega
        have hin' : decide (((l.length + j : Nat) : Int) < (l.length : Int)) = false := by simp; omega
        have hin2 : decide (l.length + j < l.length) = false := by simp
        have hin3 : decide ((l.length : Int) + (j : Int) < (l.length : Int)) = false := by simp; omega
        have hMK := Lib.hid (fun W => (markByte_calls j W (by omega)).mono fun e w' (h : _ ∧ W = w') => (⟨h.1, h.2.symm⟩ : _ ∧ w' = W))
        generalize mkB j = z at c1 hMK
        have hdd : ((z : Int) == (z : Int)) = true := by simp
        go_wp2
        go_quiet ((go_at_call 77; rw [show ((l.length : Int) + (j : Int) - (l.length : Int)) = j by omega]; exact (hMK.out _).mono fun e w' h => ⟨h.1, _, h.2⟩))
        go_wp2
        go_roundw
        case rel => exact ⟨l.length + (j + 1), by omega, by go_num, _, rfl⟩
        case measure => simp [intOf]; omega
    · obtain rfl : k = l.length + 12 := by omega
      go_wp2
      go_ret
      exact ⟨rfl, _, rfl⟩
end Go.Proofs.Ytfgiejeeolnhbaa
