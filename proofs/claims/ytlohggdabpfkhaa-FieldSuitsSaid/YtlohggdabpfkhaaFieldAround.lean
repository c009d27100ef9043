/-
  CONTRACT of field.around: the fields below a tag, and those above it; nothing is written.
-/
import Derived.Test.YtlohggdabpfkhaaFieldPlace
import Derived.Test.YtlohggdabpfkhaaFieldOwn
import Derived.Deep.CutBlock
import Derived.WalkMore
import Derived.Deep.DeepCutAuto
namespace Go.Proofs.Ytlohggdabpfkhaa
open Go.RowKit Pl

/-- How many fields lie before the first one whose tag is not below t. -/
def cutN (t : Int) : List Fld → Nat
  | [] => 0
  | p :: L => if p.1 < t then cutN t L + 1 else 0
/-- Whether that field has this tag. -/
def hitN (t : Int) (L : List Fld) : Nat := if cutN t L < L.length ∧ ft L (cutN t L) = t then 1 else 0
theorem cutN_le (t : Int) (L : List Fld) : cutN t L ≤ L.length := by
  induction L with
  | nil => exact Nat.le_refl _
  | cons p L ih => unfold cutN; split <;> simp; omega
theorem hitN_le (t : Int) (L : List Fld) : cutN t L + hitN t L ≤ L.length := by
  have := cutN_le t L
  unfold hitN
  split <;> omega
theorem cutN_step (t : Int) (L : List Fld) (k : Nat) (hk : k < L.length) : cutN t (L.drop k) = if ft L k < t then cutN t (L.drop (k + 1)) + 1 else 0 := by
  rw [List.drop_eq_getElem_cons hk]
  simp [cutN, ft, List.getD_eq_getElem?_getD, hk]

theorem FRow.take {W : World} {b off cap : Nat} {L : List Fld} (h : FRow W (.slice (some ⟨b, off, none⟩) L.length cap) L) (c : Nat) (hc : c ≤ L.length) : FRow W (.slice (some ⟨b, off, none⟩) c cap) (L.take c) := by
  obtain ⟨ht, ⟨a, c', e, rfl, hcm⟩ | ⟨b', off', cap', A, C, e, h1, h2, h3⟩⟩ := h
  · obtain rfl : c = 0 := by simpa using hc
    cases e
    exact ⟨by simp, .inl ⟨_, _, rfl, by simp, hcm⟩⟩
  · cases e
    refine ⟨fun p hp => ht p (List.mem_of_mem_take hp), .inr ⟨b, off, cap, A, C, by rw [List.length_take_of_le hc], by rw [List.length_take_of_le hc]; omega, h2, fun i hi => ?_⟩⟩
    rw [List.length_take_of_le hc] at hi
    have e1 : ft (L.take c) i = ft L i := by simp [ft, List.getD_eq_getElem?_getD, hi]
    have e2 : fb (L.take c) i = fb L i := by simp [fb, List.getD_eq_getElem?_getD, hi]
    rw [e1, e2]
    exact h3 i (by omega)
theorem FRow.drop {W : World} {b off cap : Nat} {L : List Fld} (h : FRow W (.slice (some ⟨b, off, none⟩) L.length cap) L) (d : Nat) (hd : d ≤ L.length) (ad : Option Addr) (had : (if cap = d then (some ⟨b, off, none⟩ : Option Addr) else some ⟨b, off + d * 2, none⟩) = ad) : FRow W (.slice ad (L.length - d) (cap - d)) (L.drop d) := by
  obtain ⟨ht, ⟨a, c', e, rfl, hcm⟩ | ⟨b', off', cap', A, C, e, h1, h2, h3⟩⟩ := h
  · cases e
    exact ⟨by simp, .inl ⟨ad, cap - d, by simp, by simp, by omega⟩⟩
  · cases e
    by_cases hcd : cap = d
    · obtain rfl : d = L.length := by omega
      exact ⟨by simp, .inl ⟨ad, cap - L.length, by simp, by simp, by omega⟩⟩
    · rw [if_neg hcd] at had
      subst had
      refine ⟨fun p hp => ht p (List.mem_of_mem_drop hp), .inr ⟨b, off + d * 2, cap - d, fun i => A (d + i), fun i => C (d + i), by rw [List.length_drop], by rw [List.length_drop]; omega, by omega, fun i hi => ?_⟩⟩
      rw [List.length_drop] at hi
      have e1 : ft (L.drop d) i = ft L (d + i) := by simp [ft, List.getD_eq_getElem?_getD, List.getElem?_drop]
      have e2 : fb (L.drop d) i = fb L (d + i) := by simp [fb, List.getD_eq_getElem?_getD, List.getElem?_drop]
      rw [e1, e2, show off + d * 2 + i * 2 = off + (d + i) * 2 by omega]
      exact h3 (d + i) (by omega)

set_option maxRecDepth 100000 in
set_option maxHeartbeats 1000000 in
theorem around_calls (t : Int) (v : Value) (L : List Fld) (w : World) (h : FRow w v L) :
    Calls Try.prog 105 #[v, .int .i64 t] w fun e w' => ∃ v1 v2, e = .returned (.tuple #[v1, v2]) ∧ (∀ W0, FRow W0 v L → FRow W0 v1 (L.take (cutN t L)) ∧ FRow W0 v2 (L.drop (cutN t L + hitN t L))) ∧ Below w.heap.size w w' := by
  obtain ⟨ht, ⟨a, c, rfl, rfl, hcm⟩ | ⟨b, off, cap, A, C, rfl, hc, hm, hcell⟩⟩ := h
  · have hE : ∀ W0 a1 c1, c1 ≤ maxLen → FRow W0 (.slice a1 0 c1) [] := fun W0 a1 c1 hc1 => ⟨by simp, .inl ⟨a1, c1, rfl, rfl, hc1⟩⟩
    have HE := Lib.hid hE
    have HCm := Lib.hid hcm
    clear ht hE hcm
    cases a with
    | none =>
      go_enter Try.func105, Try.ntmps105
      go_wp2_with fail
      go_step3
      go_wp2_with fail
      go_step3
      go_wp2
      go_loopw [6, 7] (fun i y wr => i = .int .i64 0 ∧ y = .int .i64 0 ∧ wr = w) (fun _ _ _ => 0)
      case atStart => exact ⟨rfl, rfl, rfl⟩
      case round =>
        obtain ⟨rfl, rfl, rfl⟩ := hrel
        go_wp2_with fail
        go_region
        go_wp2
        simp only [Exit.noGoto]
        go_ret2
        exact ⟨_, _, rfl, fun W0 _ => ⟨HE.out _ _ _ (by have := HCm.out; omega), HE.out _ _ _ (by have := HCm.out; omega)⟩, (Below.refl _ _).drew⟩
    | some ad =>
      go_enter Try.func105, Try.ntmps105
      go_wp2_with fail
      go_step3
      go_wp2_with fail
      go_step3
      go_wp2
      go_loopw [6, 7] (fun i y wr => i = .int .i64 0 ∧ y = .int .i64 0 ∧ wr = w) (fun _ _ _ => 0)
      case atStart => exact ⟨rfl, rfl, rfl⟩
      case round =>
        obtain ⟨rfl, rfl, rfl⟩ := hrel
        go_wp2_with fail
        go_region
        go_wp2
        simp only [Exit.noGoto]
        go_ret2
        exact ⟨_, _, rfl, fun W0 _ => ⟨HE.out _ _ _ (by have := HCm.out; omega), HE.out _ _ _ (by have := HCm.out; omega)⟩, (Below.refl _ _).drew⟩
  have HC := Lib.hid hcell
  have hcut := cutN_le t L
  have hhit := hitN_le t L
  have hst := Lib.hid (cutN_step t L)
  have hhd : hitN t L = if cutN t L < L.length ∧ ft L (cutN t L) = t then 1 else 0 := rfl
  have HH := Lib.hid hhd
  have hcs : (L.length : Int) ≤ (maxLen : Int) := by omega
  have HM := Lib.hid hm
  unfold maxLen at hcs
  clear ht hcell hhd
  go_enter Try.func105, Try.ntmps105
  go_wp2_with fail
  go_step3
  go_upto_region 1 with fail
  go_wp2_with fail
  go_step3
  go_upto_block 0 with fail
  go_cut [6, 7] (fun x y wx => x = .int .i64 (cutN t L : Nat) ∧ y = .int .i64 (hitN t L : Nat) ∧ wx = w)
  case first =>
    go_wp2_with fail
    go_loopw [6, 7] (fun i y wr => ∃ k : Nat, k ≤ L.length ∧ i = .int .i64 k ∧ y = .int .i64 0 ∧ cutN t L = k + cutN t (L.drop k) ∧ wr = w) (fun i _ _ => L.length - (intOf i).toNat)
    case atStart => exact ⟨0, Nat.zero_le _, rfl, rfl, by simp, rfl⟩
    case round =>
      obtain ⟨k, hk, rfl, rfl, hcn, rfl⟩ := hrel
      have HCn := Lib.hid hcn
      clear hcn
      by_cases hlt : k < L.length
      · obtain ⟨c1, -, -⟩ := HC.out k hlt
        have hs := hst.out k hlt
        have hx : ft L k ≠ t → ¬ ft L k < t → cutN t L = k ∧ hitN t L = 0 := fun h1 h2 => by
          have := HCn.out
          rw [hs, if_neg h2] at this
          have e : cutN t L = k := by omega
          refine ⟨e, ?_⟩
          rw [HH.out, e, if_neg (fun hh => h1 hh.2)]
        have hy : ft L k = t → cutN t L = k ∧ hitN t L = 1 := fun h1 => by
          have := HCn.out
          rw [hs, if_neg (by omega)] at this
          have e : cutN t L = k := by omega
          refine ⟨e, ?_⟩
          rw [HH.out, e, if_pos ⟨hlt, h1⟩]
        have hz : ft L k < t → cutN t L = k + 1 + cutN t (L.drop (k + 1)) := fun h1 => by
          have := HCn.out
          rw [hs, if_pos h1] at this
          omega
        have HX := Lib.hid hx
        have HY := Lib.hid hy
        have HZ := Lib.hid hz
        generalize ft L k = tk at *
        clear hs hx hy hz
        rcases Int.lt_trichotomy tk t with h1 | h1 | h1
        · have e1 : (tk == t) = false := by rw [beq_eq_false_iff_ne]; omega
          have e2 : decide (t < tk) = false := decide_eq_false (by omega)
          have HZ1 := Lib.hid (HZ.out h1)
          clear h1
          go_wp2_with fail
          go_roundw
          case rel => exact ⟨k + 1, by omega, by go_num, by first | rfl | trivial, HZ1.out, by first | rfl | trivial⟩
          case measure => simp [intOf]; omega
        · have e1 : (tk == t) = true := by rw [beq_iff_eq]; exact h1
          obtain ⟨y1, y2⟩ := HY.out h1
          have HY1 := Lib.hid y1
          have HY2 := Lib.hid y2
          clear h1 y1 y2
          go_wp2_with fail
          go_meet
          exact ⟨by rw [HY1.out], by rw [HY2.out]; rfl, rfl⟩
        · have e1 : (tk == t) = false := by rw [beq_eq_false_iff_ne]; omega
          have e2 : decide (t < tk) = true := decide_eq_true (by omega)
          obtain ⟨y1, y2⟩ := HX.out (by omega) (by omega)
          have HY1 := Lib.hid y1
          have HY2 := Lib.hid y2
          clear h1 y1 y2
          go_wp2_with fail
          go_meet
          exact ⟨by rw [HY1.out], by rw [HY2.out]; rfl, rfl⟩
      · obtain rfl : k = L.length := by omega
        have e : cutN t L = L.length := by have := HCn.out; omega
        have e2 : hitN t L = 0 := by rw [HH.out, e, if_neg (by omega)]
        have HY1 := Lib.hid e
        have HY2 := Lib.hid e2
        clear e e2
        go_wp2_with fail
        go_meet
        exact ⟨by rw [HY1.out], by rw [HY2.out]; rfl, rfl⟩
  case rest =>
    obtain ⟨rfl, rfl, rfl⟩ := hcut
    obtain ⟨ad, had⟩ : ∃ ad, (if cap = cutN t L + hitN t L then (some ⟨b, off, none⟩ : Option Addr) else some ⟨b, off + (cutN t L + hitN t L) * 2, none⟩) = ad := ⟨_, rfl⟩
    have HT := Lib.hid (fun W0 (h0 : FRow W0 (.slice (some ⟨b, off, none⟩) L.length cap) L) => And.intro (h0.take (cutN t L) (cutN_le t L)) (h0.drop (cutN t L + hitN t L) hhit ad had))
    clear HH hst
    obtain ⟨c, hc0⟩ : ∃ c, cutN t L = c := ⟨_, rfl⟩
    obtain ⟨s, hs0⟩ : ∃ s, hitN t L = s := ⟨_, rfl⟩
    rw [hc0] at had hhit hcut HT
    rw [hs0] at had hhit HT
    rw [hc0, hs0]
    have HC0 := Lib.hid hc0
    have HS0 := Lib.hid hs0
    clear hc0 hs0
    have ht1 : ((c : Int) + (s : Int)).toNat = c + s := by omega
    have hb1 : 0 ≤ (c : Int) + (s : Int) := by omega
    have hb2 : (c : Int) + (s : Int) ≤ (L.length : Int) := by omega
    have hb3 : (c : Int) ≤ (cap : Int) := by omega
    have hb4 : (L.length : Int) ≤ (cap : Int) := by omega
    clear HC HM hcut
    go_wp2_with fail
    go_region
    go_wp2
    simp only [Exit.noGoto]
    go_ret2
    exact ⟨_, _, rfl, by rw [HC0.out, HS0.out]; exact HT.out, (Below.refl _ _).drew⟩
end Go.Proofs.Ytlohggdabpfkhaa
