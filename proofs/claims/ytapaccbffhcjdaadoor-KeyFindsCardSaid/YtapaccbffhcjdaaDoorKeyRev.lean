/-
  CONTRACT of slices.Reverse at a slice of keys of the call's own.
-/
import Derived.Test.YtapaccbffhcjdaaDoorKeyFindP
namespace Go.Proofs.YtapaccbffhcjdaaDoor
open Go.RowKit Go.Shelf Go.Sort

theorem own_drew {w : World} {b : Nat} {v : Value} {l : List Ky} (h : OwnK w b v l) : OwnK w.drew b v l := h
theorem grown_drew {w wr : World} {r : Option Nat} (h : w.grownBy wr r) : w.grownBy wr.drew r := ⟨h.os, h.tape, h.output, h.size, h.block⟩
/-- l with its k first and its k last keys exchanged. -/
def revF (l : List Ky) (k : Nat) : List Ky := (List.range l.length).map fun p => if p < k ∨ l.length ≤ p + k then kq l (l.length - 1 - p) else kq l p
theorem revF_length (l : List Ky) (k : Nat) : (revF l k).length = l.length := by simp [revF]
theorem revF_kq (l : List Ky) (k p : Nat) (h : p < l.length) : kq (revF l k) p = if p < k ∨ l.length ≤ p + k then kq l (l.length - 1 - p) else kq l p := by
  have e : kq (revF l k) p = (fun p => if p < k ∨ l.length ≤ p + k then kq l (l.length - 1 - p) else kq l p) p := by
    unfold revF
    rw [kq, List.getD_eq_getElem?_getD, List.getElem?_map, List.getElem?_range h]
    rfl
  exact e
theorem revF_zero (l : List Ky) : revF l 0 = l :=
  kq_ext (revF_length l 0) (fun j hj => by rw [revF_length] at hj; rw [revF_kq l 0 j hj, if_neg (by omega)])
theorem kq_set (l : List Ky) (i : Nat) (x : Ky) (p : Nat) (h : p < l.length) : kq (l.set i x) p = if p = i then x else kq l p := by
  unfold kq
  rw [List.getD_eq_getElem?_getD, List.getElem?_set, List.getD_eq_getElem?_getD]
  by_cases e : i = p
  · subst e; simp [h]
  · rw [if_neg e, if_neg (fun e2 => e e2.symm)]
theorem revF_step (l : List Ky) (k m : Nat) (h : k + m + 1 = l.length) (hk : k < m) : ((revF l k).set k (kq (revF l k) m)).set m (kq (revF l k) k) = revF l (k + 1) := by
  refine kq_ext (by simp [revF_length]) (fun j hj => ?_)
  have hj' : j < l.length := by simpa [revF_length] using hj
  rw [kq_set _ _ _ _ (by simpa [revF_length] using hj'), kq_set _ _ _ _ (by simpa [revF_length] using hj'), revF_kq l (k + 1) j hj', revF_kq l k m (by omega), revF_kq l k k (by omega), revF_kq l k j hj']
  rw [if_neg (show ¬ (m < k ∨ l.length ≤ m + k) by omega), if_neg (show ¬ (k < k ∨ l.length ≤ k + k) by omega)]
  by_cases e1 : j = m
  · rw [if_pos e1, if_pos (show j < k + 1 ∨ l.length ≤ j + (k + 1) by omega), show l.length - 1 - j = k by omega]
  · rw [if_neg e1]
    by_cases e2 : j = k
    · rw [if_pos e2, if_pos (show j < k + 1 ∨ l.length ≤ j + (k + 1) by omega), show l.length - 1 - j = m by omega]
    · rw [if_neg e2]
      by_cases e3 : j < k ∨ l.length ≤ j + k
      · rw [if_pos e3, if_pos (show j < k + 1 ∨ l.length ≤ j + (k + 1) by omega)]
      · rw [if_neg e3, if_neg (show ¬ (j < k + 1 ∨ l.length ≤ j + (k + 1)) by omega)]
theorem revF_done (l : List Ky) (k m : Nat) (h : k + m + 1 = l.length) (hk : ¬ k < m) : revF l k = revF l l.length := by
  refine kq_ext (by simp [revF_length]) (fun j hj => ?_)
  have hj' : j < l.length := by simpa [revF_length] using hj
  rw [revF_kq l k j hj', revF_kq l l.length j hj', if_pos (show j < l.length ∨ l.length ≤ j + l.length by omega)]
  by_cases e : j < k ∨ l.length ≤ j + k
  · rw [if_pos e]
  · rw [if_neg e, show l.length - 1 - j = j by omega]
/-- A list that increases does not, turned round, but if it has one key or none. -/
theorem rev_inc {l : List Ky} (h : IncK l) : IncK (revF l l.length) ↔ ¬ 1 < l.length := by
  constructor
  · intro hr hl
    have h1 := inc_lt h (l.length - 2) (l.length - 1) (by omega) (by omega)
    have h2 := inc_lt hr 0 1 (by omega) (by rw [revF_length]; exact hl)
    rw [revF_kq l _ 0 (by omega), revF_kq l _ 1 hl, if_pos (.inl (by omega)), if_pos (.inl hl), show l.length - 1 - 0 = l.length - 1 by omega, show l.length - 1 - 1 = l.length - 2 by omega, cfK_anti (kq l (l.length - 2))] at h2
    omega
  · intro hl
    have e : revF l l.length = l := kq_ext (revF_length l _) (fun j hj => by
      rw [revF_length] at hj
      rw [revF_kq l _ j hj, if_pos (.inl hj), show l.length - 1 - j = j by omega])
    rw [e]; exact h

set_option maxRecDepth 100000 in
set_option maxHeartbeats 4000000 in
theorem reverseK_own (g cap base : Nat) (l : List Ky) (w : World) (hO : OK3 w base g cap l) (hsz : l.length ≤ 1000000) (h0 : 0 < l.length) :
    Calls Tryd.prog 36 #[.slice (some ⟨g, 0, none⟩) l.length cap] w fun e w' => e = .returned (.tuple #[]) ∧ OK3 w' base g cap (revF l l.length) ∧ w.grownBy w' (some g) := by
  have mixed : Tryd.prog.follows .mixedOrders = true := by kernel_rfl
  obtain ⟨n, hn⟩ : ∃ n, l.length = n := ⟨_, rfl⟩
  have HN := Lib.hid hn
  have HO0 := Lib.hid (show OK3 w base g cap (revF l 0) by rw [revF_zero]; exact hO)
  have HG0 := Lib.hid (grown_refl w (some g))
  have hn1 : (n : Int) ≤ 1000000 := by omega
  have hn0 : (1 : Int) ≤ (n : Int) := by omega
  have hcap := hO.lt.2.2
  rw [hn] at hcap h0 ⊢
  have hnc : (n : Int) ≤ (cap : Int) := by omega
  clear hO hsz hn
  go_enter Tryd.func36, Tryd.ntmps36
  go_wp2_with fail
  go_loopw [2, 3] (fun s2 s3 wr => ∃ k m : Nat, k + m + 1 = n ∧ s2 = .int .i64 (k : Int) ∧ s3 = .int .i64 (m : Int) ∧ OK3 wr base g cap (revF l k) ∧ w.grownBy wr (some g)) (fun s2 _ _ => n - (intOf s2).toNat)
  case atStart => exact ⟨0, n - 1, by omega, rfl, by congr 1; omega, HO0.out, HG0.out⟩
  case round =>
    obtain ⟨k, m, hkm, rfl, rfl, hO, hG⟩ := hrel
    have HO := Lib.hid hO; have HG := Lib.hid hG
    clear hO hG HO0 HG0
    by_cases hlt : k < m
    · have hl1 : (k : Int) < (m : Int) := by omega
      have hlen : (revF l k).length = n := by rw [revF_length]; exact HN.out
      obtain ⟨⟨x0, x1, x2⟩, fx⟩ := OK3.cells HO.out k (by omega)
      obtain ⟨⟨y0, y1, y2⟩, -⟩ := OK3.cells HO.out m (by omega)
      have HStep := Lib.hid (revF_step l k m (by rw [HN.out]; exact hkm) hlt)
      have hgl := HO.out.lt.2.1
      obtain ⟨X, hX⟩ : ∃ X, kq (revF l k) k = X := ⟨_, rfl⟩
      obtain ⟨Y, hY⟩ : ∃ Y, kq (revF l k) m = Y := ⟨_, rfl⟩
      rw [hX] at x0 x1 x2 HStep
      rw [hY] at y0 y1 y2 HStep
      have hS1 := OK3.set HO.out k (by omega) Y
      have hS2 := OK3.set hS1.1 m (by rw [List.length_set]; omega) X
      rw [HStep.out] at hS2
      have HRow := Lib.hid (show OwnK _ base (.slice (some ⟨g, 0, none⟩) (revF l (k + 1)).length cap) (revF l (k + 1)) from own_drew hS2.1)
      have HGS := Lib.hid (grown_drew (grown_trans (grown_trans HG.out hS1.2) hS2.2))
      have hkn : (k : Int) < (n : Int) := by omega
      have hmn : (m : Int) < (n : Int) := by omega
      have w1 : IntKind.i64.wrap ((k : Int) + 1) = (k : Int) + 1 := by rw [IntKind.wrap_i64]; omega
      have w2 : IntKind.i64.wrap ((m : Int) - 1) = (m : Int) - 1 := by rw [IntKind.wrap_i64]; omega
      clear hX hY hS1 hS2 hlen
      go_wp2_with fail
      go_region
      all_goals
        go_wp2_with fail
        go_roundw
        case rel => exact ⟨k + 1, m - 1, by omega, by go_num, by congr 1; omega, HRow.out, HGS.out⟩
        case measure => simp [intOf]; omega
    · have hl1 : ¬ (k : Int) < (m : Int) := by omega
      have HD := Lib.hid (revF_done l k m (by rw [HN.out]; exact hkm) hlt)
      clear hlt
      go_wp2
      go_end0
      refine ⟨rfl, ?_, HG.out⟩
      have h := HO.out
      rw [HD.out, HN.out] at h
      exact h
end Go.Proofs.YtapaccbffhcjdaaDoor
