/-
  CONTRACT of fermataref02.Right: whether fields are right; nothing that was there is written.
-/
import Derived.Test.YtfgiejeeolnhbaaFieldPlace
import Derived.Test.YtfgiejeeolnhbaaAwake01
import Derived.BigQuiet
namespace Go.Proofs.Ytfgiejeeolnhbaa
open Go.RowKit Pl

theorem sumB_step (L : List Fld) (k : Nat) (hk : k < L.length) : sumB (L.drop k) = (fb L k).length + sumB (L.drop (k + 1)) := by
  rw [List.drop_eq_getElem_cons hk]
  simp [sumB, fb, List.getD_eq_getElem?_getD, hk]
theorem tagsF_step (L : List Fld) (k : Nat) (a : Int) (hk : k < L.length) : tagsF a (L.drop k) = (decide (a < ft L k ∧ ft L k ≤ 200) && tagsF (ft L k) (L.drop (k + 1))) := by
  rw [List.drop_eq_getElem_cons hk]
  simp [tagsF, ft, List.getD_eq_getElem?_getD, hk]
/-- The tag before a place. -/
def prevT (L : List Fld) (k : Nat) : Int := if k = 0 then 0 else ft L (k - 1)

set_option maxRecDepth 100000 in
set_option maxHeartbeats 2000000 in
theorem refRight_calls (v : Value) (L : List Fld) (w : World) (h : FRow w v L) (hs : sumB L ≤ 1000000000000) :
    Calls Try.prog 58 #[v] w fun e w' => e = .returned (.bool (rightF L)) ∧ Below w.heap.size w w' := by
  have hR := rightF_eq L
  obtain ⟨ht, ⟨a, c, rfl, rfl, -⟩ | ⟨b, off, cap, A, C, rfl, hc, hm, hcell⟩⟩ := h
  · go_enter Try.func58, Try.ntmps58
    go_wp2
    go_loopw [3, 4] (fun s i wr => s = .int .i64 0 ∧ i = .int .i64 0 ∧ Below w.heap.size w wr) (fun _ i _ => 0)
    case atStart => exact ⟨rfl, rfl, Below.refl _ _⟩
    case round =>
      obtain ⟨rfl, rfl, hbel⟩ := hrel
      go_wp2
      go_ret
      exact ⟨rfl, hbel⟩
  have HR := Lib.hid hR
  clear hR
  by_cases hlen : 64 < L.length
  · have d1 : decide ((64 : Int) < (L.length : Int)) = true := by simp; omega
    clear hcell ht hm
    go_enter Try.func58, Try.ntmps58
    go_wp2
    go_ret
    exact ⟨ret_bool (by rw [HR.out, decide_eq_false (by omega)]; rfl), Below.refl _ _⟩
  have d1 : decide ((64 : Int) < (L.length : Int)) = false := by simp; omega
  have HC := Lib.hid hcell
  clear hcell hm ht
  have hcs : (L.length : Int) ≤ 9223372036854775807 := by omega
  go_enter Try.func58, Try.ntmps58
  go_wp2
  go_loopw [3, 4] (fun s i wr => ∃ (k sm : Nat), k ≤ L.length ∧ i = .int .i64 k ∧ s = .int .i64 sm ∧ sm + sumB (L.drop k) = sumB L ∧ tagsF (prevT L k) (L.drop k) = tagsF 0 L ∧ (0 < k → 1 ≤ prevT L k) ∧ Below w.heap.size w wr) (fun _ i _ => L.length - (intOf i).toNat)
  case atStart => exact ⟨0, 0, Nat.zero_le _, rfl, rfl, by simp, rfl, fun h => absurd h (Nat.lt_irrefl _), Below.refl _ _⟩
  case round =>
    obtain ⟨k, sm, hk, rfl, rfl, hsm, htg, hpv, hbel⟩ := hrel
    have HB := Lib.hid hbel
    have HT := Lib.hid htg
    by_cases hlt : k < L.length
    · obtain ⟨c1, c2, -⟩ := HC.out k hlt
      have hst := tagsF_step L k (prevT L k) hlt
      rw [sumB_step L k hlt] at hsm
      have hp1 : prevT L (k + 1) = ft L k := by unfold prevT; rw [if_neg (by omega)]; simp
      generalize A k = A1 at c2
      generalize C k = C1 at c2
      have c1' := (hbel.cell (p := ⟨b, off + k * 2, none⟩) (block_lt_of_cell c1)).trans c1
      have c2' := (hbel.cell (p := ⟨b, off + k * 2 + 1, none⟩) (block_lt_of_cell c2)).trans c2
      have HQ := Lib.hid (HT.out.symm.trans hst)
      have HP1 := Lib.hid hp1
      have hk1 : (k : Int) < (L.length : Int) := by omega
      have hk2 : (0 : Int) ≤ (k : Int) := by omega
      clear c1 c2 htg hst hp1 HT
      by_cases hk0 : k = 0
      · subst hk0
        have hp0 : prevT L 0 = 0 := rfl
        rw [hp0] at HQ
        clear hbel
        generalize ft L 0 = t at *
        generalize fb L 0 = bs at *
        have c1'' : wr.cell? ⟨b, off, none⟩ = some (.int .i64 t) := by simpa using c1'
        have c2'' : wr.cell? ⟨b, off + 1, none⟩ = some (.slice A1 bs.length C1) := by simpa using c2'
        have hsm2 : sm + bs.length + sumB (L.drop 1) = sumB L := by rw [← hsm]; exact Nat.add_assoc _ _ _
        clear hsm
        by_cases h1 : t < 1
        · have e1 : decide (t < 1) = true := decide_eq_true h1
          go_wp2_with fail
          go_quiet (fail)
          go_wp2
          go_ret
          exact ⟨ret_bool (by rw [HR.out, HQ.out, decide_eq_false (show ¬ ((0 : Int) < t ∧ t ≤ 200) by omega)]; simp), HB.out.trans ((below_drewN' ⟨_, rfl⟩).mono HB.out.size)⟩
        by_cases h2 : 200 < t
        · have e1 : decide (t < 1) = false := decide_eq_false h1
          have e2 : decide (200 < t) = true := decide_eq_true h2
          go_wp2_with fail
          go_quiet (fail)
          go_wp2
          go_ret
          exact ⟨ret_bool (by rw [HR.out, HQ.out, decide_eq_false (show ¬ ((0 : Int) < t ∧ t ≤ 200) by omega)]; simp), HB.out.trans ((below_drewN' ⟨_, rfl⟩).mono HB.out.size)⟩
        have e1 : decide (t < 1) = false := decide_eq_false h1
        have e2 : decide (200 < t) = false := decide_eq_false h2
        go_wp2_with fail
        go_quiet (fail)
        go_wp2
        go_roundw
        case rel => exact ⟨1, sm + bs.length, by omega, by go_num, by go_num, by omega, by rw [HQ.out, decide_eq_true (show (0 : Int) < t ∧ t ≤ 200 by omega), HP1.out]; rfl, fun _ => by rw [HP1.out]; omega, HB.out.trans ((below_drewN' ⟨_, rfl⟩).mono HB.out.size)⟩
        case measure => simp [intOf]; omega
      · obtain ⟨j, rfl⟩ : ∃ j, k = j + 1 := ⟨k - 1, by omega⟩
        obtain ⟨q1, -, -⟩ := HC.out j (by omega)
        have q1' := (hbel.cell (p := ⟨b, off + j * 2, none⟩) (block_lt_of_cell q1)).trans q1
        have hpe : prevT L (j + 1) = ft L j := by unfold prevT; rw [if_neg (by omega)]; simp
        have hpv1 := hpv (by omega)
        rw [hpe] at HQ hpv1
        clear q1 hbel hpe hpv
        generalize ft L j = pt at *
        generalize ft L (j + 1) = t at *
        generalize fb L (j + 1) = bs at *
        have hsm2 : sm + bs.length + sumB (L.drop (j + 1 + 1)) = sumB L := by rw [← hsm]; exact Nat.add_assoc _ _ _
        clear hsm
        have e0 : decide ((0 : Int) < ((j + 1 : Nat) : Int)) = true := decide_eq_true (by omega)
        by_cases h1 : t < 1
        · have e1 : decide (t < 1) = true := decide_eq_true h1
          go_wp2_with fail
          go_quiet (fail)
          go_wp2
          go_ret
          exact ⟨ret_bool (by rw [HR.out, HQ.out, decide_eq_false (show ¬ (pt < t ∧ t ≤ 200) by omega)]; simp), HB.out.trans ((below_drewN' ⟨_, rfl⟩).mono HB.out.size)⟩
        by_cases h2 : 200 < t
        · have e1 : decide (t < 1) = false := decide_eq_false h1
          have e2 : decide (200 < t) = true := decide_eq_true h2
          go_wp2_with fail
          go_quiet (fail)
          go_wp2
          go_ret
          exact ⟨ret_bool (by rw [HR.out, HQ.out, decide_eq_false (show ¬ (pt < t ∧ t ≤ 200) by omega)]; simp), HB.out.trans ((below_drewN' ⟨_, rfl⟩).mono HB.out.size)⟩
        by_cases h3 : t ≤ pt
        · have e1 : decide (t < 1) = false := decide_eq_false h1
          have e2 : decide (200 < t) = false := decide_eq_false h2
          have e3 : decide (t ≤ pt) = true := decide_eq_true h3
          go_wp2_with fail
          go_quiet (fail)
          go_wp2
          go_ret
          exact ⟨ret_bool (by rw [HR.out, HQ.out, decide_eq_false (show ¬ (pt < t ∧ t ≤ 200) by omega)]; simp), HB.out.trans ((below_drewN' ⟨_, rfl⟩).mono HB.out.size)⟩
        have e1 : decide (t < 1) = false := decide_eq_false h1
        have e2 : decide (200 < t) = false := decide_eq_false h2
        have e3 : decide (t ≤ pt) = false := decide_eq_false h3
        go_wp2_with fail
        go_quiet (fail)
        go_wp2
        go_roundw
        case rel => exact ⟨j + 1 + 1, sm + bs.length, by omega, by go_num, by go_num, by omega, by rw [HQ.out, decide_eq_true (show pt < t ∧ t ≤ 200 by omega), HP1.out]; rfl, fun _ => by rw [HP1.out]; omega, HB.out.trans ((below_drewN' ⟨_, rfl⟩).mono HB.out.size)⟩
        case measure => simp [intOf]; omega
    · obtain rfl : k = L.length := by omega
      clear hbel htg
      rw [List.drop_length] at hsm
      have HSm := Lib.hid hsm
      go_wp2
      go_ret
      refine ⟨ret_bool ?_, HB.out⟩
      have := HT.out
      rw [List.drop_length] at this
      rw [HR.out, ← this, decide_eq_true (show L.length ≤ 64 by omega)]
      have h2 := HSm.out
      simp only [sumB, Nat.add_zero] at h2
      rw [← h2]
      simp [tagsF]
      omega
end Go.Proofs.Ytfgiejeeolnhbaa
