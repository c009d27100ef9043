/-
  CONTRACTS of the reference of layer 3: Form, Write, Join; nothing that was there is written.
-/
import Derived.Test.YtlohggdabpfkhaaReads03
namespace Go.Proofs.Ytlohggdabpfkhaa
open Go.RowKit Go.Shelf Pl

theorem form_two {n : Nat} (h1 : 246 < n) (h2 : n ≤ 255) : form n = [247, n] := by
  have hd : digs n = [n] := by
    unfold digs
    have e : n / 256 = 0 := by omega
    simp [dg, e, show n ≠ 0 by omega]
    omega
  unfold form
  rw [if_neg (by omega), hd]
  rfl
theorem form_three {n : Nat} (h1 : 255 < n) (h2 : n ≤ 16384) : form n = [248, n / 256, n % 256] := by
  have hd : digs n = [n / 256, n % 256] := by
    unfold digs
    have e : n / 256 / 256 = 0 := by omega
    simp [dg, e, show n ≠ 0 by omega, show n / 256 ≠ 0 by omega]
    omega
  unfold form
  rw [if_neg (by omega), hd]
  rfl
set_option maxRecDepth 100000 in
set_option maxHeartbeats 1000000 in
theorem form3_calls (n : Nat) (hn : n ≤ 16384) (w : World) :
    Calls Try.prog 86 #[.int .i64 n] w fun e w' => ∃ v', e = .returned v' ∧ Own8 w' w.heap.size v' (form n) ∧ Below w.heap.size w w' := by
  by_cases h1 : n ≤ 246
  · have hf : form n = [n] := by unfold form; rw [if_pos h1]
    rw [hf]
    have e1 : (n : Int) ≤ 246 := by omega
    have hw : IntKind.u8.wrap (n : Int) = n := IntWalk.u8_in _ ⟨by omega, by omega⟩
    have HL := Lib.hid (own8_lit w [n] #[.int .u8 n] w.heap.size 1 1 rfl rfl rfl rfl (by simp) w.heap.size (Nat.le_refl _))
    clear hf h1
    go_enter Try.func86, Try.ntmps86
    go_wp2
    go_ret
    exact ⟨_, rfl, HL.out, (Below.refl _ _).alloc (Nat.le_refl _) _⟩
  by_cases h2 : n ≤ 255
  · rw [form_two (by omega) h2]
    have e1 : ¬ (n : Int) ≤ 246 := by omega
    have e2 : (n : Int) ≤ 255 := by omega
    have hw : IntKind.u8.wrap (n : Int) = n := IntWalk.u8_in _ ⟨by omega, by omega⟩
    have HL := Lib.hid (own8_lit w [247, n] #[.int .u8 247, .int .u8 n] w.heap.size 2 2 rfl rfl rfl rfl (by simp) w.heap.size (Nat.le_refl _))
    clear h1 h2
    go_enter Try.func86, Try.ntmps86
    go_wp2
    go_ret
    exact ⟨_, rfl, HL.out, (Below.refl _ _).alloc (Nat.le_refl _) _⟩
  · rw [form_three (by omega) hn]
    have e1 : ¬ (n : Int) ≤ 246 := by omega
    have e2 : ¬ (n : Int) ≤ 255 := by omega
    have hw1 : IntKind.u8.wrap ((n : Int) / 256) = ((n / 256 : Nat) : Int) := by rw [IntWalk.u8_in _ ⟨by omega, by omega⟩]; omega
    have hw2 : IntKind.u8.wrap ((n : Int) % 256) = ((n % 256 : Nat) : Int) := by rw [IntWalk.u8_in _ ⟨by omega, by omega⟩]; omega
    have hn0 : 0 ≤ (n : Int) := by omega
    have HL := Lib.hid (own8_lit w [248, n / 256, n % 256] #[.int .u8 248, .int .u8 ((n / 256 : Nat) : Int), .int .u8 ((n % 256 : Nat) : Int)] w.heap.size 3 3 rfl rfl rfl rfl (by simp) w.heap.size (Nat.le_refl _))
    clear h1 h2
    go_enter Try.func86, Try.ntmps86
    go_wp2
    go_ret
    exact ⟨_, rfl, HL.out, (Below.refl _ _).alloc (Nat.le_refl _) _⟩

set_option maxRecDepth 100000 in
set_option maxHeartbeats 1000000 in
theorem refWrite3_calls (v : Value) (m : List Nat) (w : World) (h : BRow w v m) :
    Calls Try.prog 27 #[v] w fun e w' => ∃ v', e = .returned (.tuple #[v', .int .i64 (if 16384 < m.length then 3 else 0 : Nat)]) ∧ Own8 w' w.heap.size v' (if 16384 < m.length then [] else fr1 m) ∧ Below w.heap.size w w' := by
  obtain ⟨a, cap, rfl⟩ := h.shape
  by_cases hm : 16384 < m.length
  · rw [if_pos hm, if_pos hm]
    clear h
    go_enter Try.func27, Try.ntmps27
    go_wp2
    go_ret2
    exact ⟨_, rfl, own8_nil _ _, Below.refl _ _⟩
  · rw [if_neg hm, if_neg hm]
    have HF := Lib.hid (form3_calls m.length (by omega) w)
    have HR := Lib.hid h
    have hfl := form_length m.length
    clear h
    go_enter Try.func27, Try.ntmps27
    go_wp2_with fail
    refine HF.out.mono ?_
    rintro e w1 ⟨v1, rfl, ho1, hb1⟩
    have HO1 := Lib.hid ho1; have HB1 := Lib.hid hb1; have HR1 := Lib.hid (HR.out.below hb1)
    clear ho1 hb1
    go_wp2_with (at_builtin; go_must (refine wpList_append8 rfl (.tmp 9) (.tmp 10) rfl w.heap.size _ (form m.length) (by first | rfl | simp [Act.eval]) HO1.out _ m (by first | rfl | simp [Act.eval]) HR1.out (by omega) HB1.out.size ?_; intro v2 w2 ho2 hg2; have HO2 := Lib.hid ho2; have HB2 := Lib.hid (HB1.out.grown hg2 HB1.out.size (fun j hj => (HO1.out.lt j hj).1)); clear ho2 hg2))
    go_ret2
    exact ⟨_, rfl, HO2.out, HB2.out⟩

theorem fr1_allB {m : List Nat} (h : AllB m) : AllB (fr1 m) := (form_allB _).append h
set_option maxRecDepth 100000 in
set_option maxHeartbeats 1000000 in
theorem refJoin3_calls (v : Value) (L : List (List Nat)) (w : World) (h : TRow w v L) (hL : L.length ≤ 1000) (hsz : ∀ k, (joinF (L.take k)).length ≤ 100000000) :
    Calls Try.prog 80 #[v] w fun e w' => ∃ v', e = .returned (.tuple #[v', .int .i64 (joinV L).2.1, .int .i64 (joinV L).2.2]) ∧ Own8 w' w.heap.size v' (joinV L).1 ∧ Below w.heap.size w w' := by
  obtain ⟨va, vc, rfl⟩ := h.shape
  by_cases h0 : L.length = 0
  · have hL : L = [] := List.eq_nil_of_length_eq_zero h0
    subst hL
    clear h h0
    go_enter Try.func80, Try.ntmps80
    go_wp2
    go_loopw [5, 6] (fun x i wr => x = .slice none 0 0 ∧ i = .int .i64 0 ∧ wr = w) (fun _ i _ => 0)
    case atStart => exact ⟨rfl, rfl, rfl⟩
    case round =>
      obtain ⟨rfl, rfl, rfl⟩ := hrel
      go_wp2
      go_ret3
      exact ⟨_, rfl, own8_nil _ _, Below.refl _ _⟩
  · obtain ⟨b, off, cap, e, hc, hm, hcell⟩ := h.cell h0
    simp only [Value.slice.injEq, true_and] at e
    obtain ⟨rfl, rfl⟩ := e
    have HC := Lib.hid hcell
    have HT := Lib.hid (tooL_step L)
    have HJ := Lib.hid (joinF_take L)
    have HZ := Lib.hid hsz
    have HV := Lib.hid (show joinV L = match tooL 0 L with | none => (joinF L, -1, 0) | some k => ([], (k : Int), 3) from rfl)
    have hls : (L.length : Int) ≤ 1000 := by omega
    clear h hcell hm hc h0 hsz
    go_enter Try.func80, Try.ntmps80
    go_wp2
    go_loopw [5, 6] (fun x i wr => ∃ k : Nat, k ≤ L.length ∧ i = .int .i64 k ∧ tooL k (L.drop k) = tooL 0 L ∧ Own8 wr w.heap.size x (joinF (L.take k)) ∧ Below w.heap.size w wr) (fun _ i _ => L.length - (intOf i).toNat)
    case atStart => exact ⟨0, Nat.zero_le _, rfl, rfl, own8_nil _ _, Below.refl _ _⟩
    case round =>
      obtain ⟨k, hk, rfl, htl, hown, hbel⟩ := hrel
      have HTl := Lib.hid htl; have HO := Lib.hid hown; have HB := Lib.hid hbel
      clear htl hown
      by_cases hlt : k < L.length
      · obtain ⟨a1, c1, d1, r1⟩ := HC.out k hlt
        have d1' := (hbel.cell (p := ⟨b, off + k, none⟩) (block_lt_of_cell d1)).trans d1
        have hst := HT.out k hlt
        have hj := HJ.out k hlt
        have hz := HZ.out (k + 1)
        have HW := Lib.hid (refWrite3_calls _ _ wr (r1.below hbel))
        have hab := Lib.hid r1.1
        obtain ⟨bd, hbd⟩ : ∃ bd, mt L k = bd := ⟨_, rfl⟩
        rw [hbd] at d1' hst hj HW hab
        clear d1 r1 hbd hbel
        by_cases hg : 16384 < bd.length
        · rw [if_pos hg] at hst
          rw [if_pos hg, if_pos hg] at HW
          have HS := Lib.hid hst
          clear hst hg hj hz
          have hv : joinV L = ([], (k : Int), 3) := by rw [HV.out, ← HTl.out, HS.out]
          have HV2 := Lib.hid hv
          clear hv
          have hne : (((3 : Nat) : Int) != 0) = true := rfl
          go_wp2_with fail
          refine HW.out.mono ?_
          rintro e w1 ⟨v1, rfl, -, hb1⟩
          have HB1 := Lib.hid (HB.out.trans (hb1.mono HB.out.size))
          clear hb1
          go_wp2
          go_ret3
          exact ⟨_, by rw [HV2.out]; rfl, by rw [HV2.out]; exact own8_nil _ _, HB1.out⟩
        · rw [if_neg hg] at hst
          rw [if_neg hg, if_neg hg] at HW
          have HS := Lib.hid hst
          have hlen : (joinF (L.take k)).length + (fr1 bd).length ≤ 140737488355328 := by
            unfold fr1
            rw [hj, List.length_append, List.length_append] at hz
            rw [List.length_append]
            omega
          have HLen := Lib.hid hlen
          have HJ1 := Lib.hid (show joinF (L.take (k + 1)) = joinF (L.take k) ++ fr1 bd by rw [hj, List.append_assoc]; rfl)
          clear hst hg hj hz hlen
          go_wp2_with fail
          refine HW.out.mono ?_
          rintro e w1 ⟨v1, rfl, ho1, hb1⟩
          have HF1 := Lib.hid (BRow.of_own ho1 (fr1_allB hab.out))
          have HO1 := Lib.hid (ownsRow_below HO.out hb1); have HB1 := Lib.hid (HB.out.trans (hb1.mono HB.out.size))
          clear ho1 hb1
          go_wp2_with (at_builtin; go_must (refine wpList_append8 rfl (.tmp 27) (.tmp 28) rfl w.heap.size _ (joinF (L.take k)) (by first | rfl | simp [Act.eval]) HO1.out _ (fr1 bd) (by first | rfl | simp [Act.eval]) HF1.out HLen.out HB1.out.size ?_; intro v2 w2 ho2 hg2; have HO2 := Lib.hid ho2; have HB2 := Lib.hid (HB1.out.grown hg2 HB1.out.size (fun j hj => (HO1.out.lt j hj).1)); clear ho2 hg2))
          go_roundw
          case rel => exact ⟨k + 1, by omega, by go_num, by rw [← HTl.out, HS.out], by rw [HJ1.out]; exact HO2.out, HB2.out⟩
          case measure => simp [intOf]; omega
      · obtain rfl : k = L.length := by omega
        have hv : joinV L = (joinF L, -1, 0) := by
          have := HTl.out
          rw [List.drop_length] at this
          rw [HV.out, ← this]
          rfl
        have HV2 := Lib.hid hv
        have HO2 := Lib.hid (show Own8 wr w.heap.size u5 (joinF L) by have := HO.out; rwa [List.take_length] at this)
        clear hv hbel
        go_wp2
        go_ret3
        exact ⟨_, by rw [HV2.out]; rfl, by rw [HV2.out]; exact HO2.out, HB.out⟩
end Go.Proofs.Ytlohggdabpfkhaa
