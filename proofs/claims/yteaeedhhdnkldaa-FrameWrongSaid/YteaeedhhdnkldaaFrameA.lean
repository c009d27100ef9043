/-
  CONTRACTS of frame.first, frame.add, frame.Write, frame.Read and frame.Need; nothing that was there is written.
-/
import Derived.Test.YteaeedhhdnkldaaBounds03b
namespace Go.Proofs.Yteaeedhhdnkldaa
open Go.RowKit Pl

/-- The body of the frame with which bytes begin, how many bytes the frame has, and what is wrong. -/
def fbody (l : List Nat) : List Nat := match bnd l with | none => [] | some (f, t) => if l.length < t then [] else (l.drop f).take (t - f)
def fsize (l : List Nat) : Nat := match bnd l with | none => 0 | some (_, t) => if l.length < t then 0 else t
def ferr (l : List Nat) : Nat := match bnd l with | none => 31 | some (_, t) => if l.length < t then 30 else 0

theorem bnd_le {l : List Nat} {f t : Nat} (ha : AllB l) (h : bnd l = some (f, t)) : 1 ≤ f ∧ f ≤ 3 ∧ f ≤ t ∧ t ≤ f + 16384 := by
  unfold bnd at h
  split at h
  · simp at h; omega
  · rename_i d r
    split at h
    · simp at h; omega
    split at h
    · split at h
      · simp at h; omega
      · rename_i x r2
        have := ha x (by simp)
        split at h
        · simp at h
        · simp at h; omega
    split at h
    · split at h
      · simp at h; omega
      · split at h
        · simp at h
        · simp at h; omega
      · split at h
        · simp at h
        · simp at h; omega
    · simp at h
theorem fbody_len {l : List Nat} (ha : AllB l) : (fbody l).length ≤ 16384 := by
  unfold fbody
  split
  · simp
  · rename_i f t h
    have := bnd_le ha h
    split
    · simp
    · simp; omega
theorem fsize_le {l : List Nat} : fsize l ≤ l.length := by
  unfold fsize
  split
  · simp
  · split <;> omega

set_option maxRecDepth 100000 in
set_option maxHeartbeats 1000000 in
theorem firstB_calls (v : Value) (l : List Nat) (w : World) (h : BRow w v l) :
    Calls Try.prog 104 #[v] w fun e w' => ∃ v', e = .returned (.tuple #[v', .int .i64 (fsize l), .int .i64 (ferr l)]) ∧ (∀ W0, BRow W0 v l → BRow W0 v' (fbody l)) ∧ Below w.heap.size w w' := by
  have HB := Lib.hid (bounds_calls v l w h)
  obtain ⟨o, ho⟩ : ∃ o, bnd l = o := ⟨_, rfl⟩
  cases o with
  | none =>
    have e1 : fsize l = 0 := by unfold fsize; rw [ho]
    have e2 : ferr l = 31 := by unfold ferr; rw [ho]
    have e3 : fbody l = [] := by unfold fbody; rw [ho]
    rw [show bndV l = (0, 0, 31) by unfold bndV; rw [ho]] at HB
    rw [e1, e2, e3]
    clear ho e1 e2 e3 h
    go_enter Try.func104, Try.ntmps104
    go_wp2_with fail
    refine HB.out.mono ?_
    rintro e w1 ⟨rfl, hb1⟩
    go_wp2
    go_ret3
    exact ⟨_, rfl, fun _ _ => BRow.empty none 0 (Nat.zero_le _), hb1⟩
  | some p =>
    obtain ⟨f, t⟩ := p
    have hle := bnd_le h.1 ho
    rw [show bndV l = ((f : Int), (t : Int), 0) by unfold bndV; rw [ho]] at HB
    dsimp only at HB
    obtain ⟨a, cap, rfl⟩ := h.shape
    by_cases hlt : l.length < t
    · have e1 : fsize l = 0 := by unfold fsize; rw [ho]; exact if_pos hlt
      have e2 : ferr l = 30 := by unfold ferr; rw [ho]; exact if_pos hlt
      have e3 : fbody l = [] := by unfold fbody; rw [ho]; exact if_pos hlt
      rw [e1, e2, e3]
      have hd : decide (l.length < t) = true := decide_eq_true hlt
      clear ho e1 e2 e3 h hlt
      go_enter Try.func104, Try.ntmps104
      go_wp2_with fail
      refine HB.out.mono ?_
      rintro e w1 ⟨rfl, hb1⟩
      go_wp2
      go_ret3
      exact ⟨_, rfl, fun _ _ => BRow.empty none 0 (Nat.zero_le _), hb1⟩
    · have e1 : fsize l = t := by unfold fsize; rw [ho]; exact if_neg hlt
      have e2 : ferr l = 0 := by unfold ferr; rw [ho]; exact if_neg hlt
      have e3 : fbody l = (l.drop f).take (t - f) := by unfold fbody; rw [ho]; exact if_neg hlt
      rw [e1, e2, e3]
      have hd : decide (l.length < t) = false := decide_eq_false hlt
      obtain ⟨ha, ⟨_, _, e, hl0, _⟩ | ⟨b, off, cap', e, hc, hm, hcell⟩⟩ := h
      · subst hl0; simp at hlt; omega
      simp only [Value.slice.injEq, true_and] at e
      obtain ⟨rfl, rfl⟩ := e
      have hm' := hm
      unfold maxLen at hm'
      obtain ⟨ad, had⟩ : ∃ ad, (if cap = f then (some ⟨b, off, none⟩ : Option Addr) else some ⟨b, off + f, none⟩) = ad := ⟨_, rfl⟩
      have hfin : ∀ W0, BRow W0 (.slice (some ⟨b, off, none⟩) l.length cap) l → BRow W0 (.slice ad (t - f) (cap - f)) ((l.drop f).take (t - f)) := by
        intro W0 hW0
        by_cases hcf : cap = f
        · have : t - f = 0 := by omega
          rw [this, List.take_zero]
          exact BRow.empty _ _ (by omega)
        · rw [if_neg hcf] at had
          subst had
          exact hW0.sub f t (off + f) (t - f) (cap - f) (by omega) (by omega) rfl (by omega) (by omega) (by omega)
      have HF := Lib.hid hfin
      have h1 : (f : Int) ≤ (t : Int) := by omega
      have h2 : (t : Int) ≤ (cap : Int) := by omega
      have h3 : t ≤ cap := by omega
      have h4 : f ≤ t := by omega
      clear ho e1 e2 e3 ha hcell hm hlt hfin
      go_enter Try.func104, Try.ntmps104
      go_wp2_with fail
      refine HB.out.mono ?_
      rintro e w1 ⟨rfl, hb1⟩
      go_wp2
      go_ret3
      exact ⟨_, rfl, HF.out, hb1⟩

/-- What a beginning needs. -/
def fneed (l : List Nat) : Nat := match bnd l with | none => 0 | some (_, t) => t - l.length
def fneedE (l : List Nat) : Nat := match bnd l with | none => 31 | some _ => 0
theorem ret_int2 {k k' : IntKind} {a b c d : Int} (h : a = b) (h' : c = d) : Ending.returned (.tuple #[.int k a, .int k' c]) = .returned (.tuple #[.int k b, .int k' d]) := by rw [h, h']
set_option maxRecDepth 100000 in
set_option maxHeartbeats 1000000 in
theorem need_calls (v : Value) (l : List Nat) (w : World) (h : BRow w v l) :
    Calls Try.prog 43 #[v] w fun e w' => e = .returned (.tuple #[.int .i64 (fneed l), .int .i64 (fneedE l)]) ∧ Below w.heap.size w w' := by
  have HB := Lib.hid (bounds_calls v l w h)
  have hll := h.len_le
  obtain ⟨o, ho⟩ : ∃ o, bnd l = o := ⟨_, rfl⟩
  obtain ⟨a, cap, rfl⟩ := h.shape
  cases o with
  | none =>
    have e1 : fneed l = 0 := by unfold fneed; rw [ho]
    have e2 : fneedE l = 31 := by unfold fneedE; rw [ho]
    rw [show bndV l = (0, 0, 31) by unfold bndV; rw [ho]] at HB
    rw [e1, e2]
    clear ho e1 e2 h
    go_enter Try.func43, Try.ntmps43
    go_wp2_with fail
    refine HB.out.mono ?_
    rintro e w1 ⟨rfl, hb1⟩
    go_wp2
    go_ret2
    exact ⟨rfl, hb1⟩
  | some p =>
    obtain ⟨f, t⟩ := p
    have hle := bnd_le h.1 ho
    have e1 : fneed l = t - l.length := by unfold fneed; rw [ho]
    have e2 : fneedE l = 0 := by unfold fneedE; rw [ho]
    rw [show bndV l = ((f : Int), (t : Int), 0) by unfold bndV; rw [ho]] at HB
    dsimp only at HB
    rw [e1, e2]
    have ht : 0 ≤ (t : Int) := by omega
    have ht2 : (t : Int) ≤ 100000 := by omega
    have hl0 : (l.length : Int) ≤ 9223372036854775807 := by omega
    clear ho e1 e2 h hle hll
    go_enter Try.func43, Try.ntmps43
    go_wp2_with fail
    refine HB.out.mono ?_
    rintro e w1 ⟨rfl, hb1⟩
    go_wp2
    all_goals
      go_ret2
      exact ⟨ret_int2 (by omega) rfl, hb1⟩

set_option maxRecDepth 100000 in
set_option maxHeartbeats 1000000 in
theorem readB_calls (v : Value) (l : List Nat) (w : World) (h : BRow w v l) :
    Calls Try.prog 41 #[v] w fun e w' => ∃ v', e = .returned (.tuple #[v', .int .i64 (fsize l), .int .i64 (ferr l)]) ∧ Own8 w' w.heap.size v' (fbody l) ∧ Below w.heap.size w w' := by
  have HF := Lib.hid (firstB_calls v l w h)
  have HR := Lib.hid h
  have hfl := fbody_len h.1
  have HC := Lib.hid (fun (u : Value) (W : World) (hu : BRow W u (fbody l)) => clone_calls u (fbody l) W hu (by omega))
  clear h hfl
  go_enter Try.func41, Try.ntmps41
  go_wp2_with fail
  refine HF.out.mono ?_
  rintro e w1 ⟨v1, rfl, hb1, hw1⟩
  have HW1 := Lib.hid hw1
  have HC1 := Lib.hid (HC.out v1 w1 (hb1 w1 (HR.out.below hw1)))
  clear hb1 hw1
  go_wp2_with fail
  refine HC1.out.mono ?_
  rintro e w2 ⟨v2, rfl, ho2, hw2⟩
  have HO := Lib.hid (own_base ho2 HW1.out.size)
  have HB := Lib.hid (HW1.out.trans (hw2.mono HW1.out.size))
  clear ho2 hw2
  go_wp2
  go_ret3
  exact ⟨_, rfl, HO.out, HB.out⟩

set_option maxRecDepth 100000 in
set_option maxHeartbeats 1000000 in
theorem addB_calls (v x : Value) (l m : List Nat) (w : World) (base : Nat) (hbase : base ≤ w.heap.size) (hown : Own8 w base v l) (hx : ∀ W, Below base w W → BRow W x m) (hl : l.length + m.length ≤ 140737488300000) :
    Calls Try.prog 101 #[v, x] w fun e w' => ∃ v', e = .returned v' ∧ Own8 w' base v' (l ++ form m.length ++ m) ∧ Below base w w' := by
  have hfl := form_length m.length
  have HA := Lib.hid (append_calls m.length (by omega) w base hbase v l hown (by omega))
  have HX := Lib.hid hx
  obtain ⟨a, cap, hsh⟩ := (hx w (Below.refl _ _)).shape
  subst hsh
  have hlen : (l ++ form m.length).length + m.length ≤ 140737488355328 := by rw [List.length_append]; omega
  have HL := Lib.hid hlen
  have hwr : IntKind.u64.wrap (m.length : Int) = (m.length : Int) := IntWalk.u64_in _ (by omega)
  have HS := Lib.hid hbase
  clear hown hx hlen hfl hl hbase
  go_enter Try.func101, Try.ntmps101
  go_wp2_with fail
  refine HA.out.mono ?_
  rintro e w1 ⟨v1, rfl, ho1, hb1⟩
  have HO1 := Lib.hid ho1
  have HB1 := Lib.hid hb1
  have HX1 := Lib.hid (HX.out w1 hb1)
  clear ho1 hb1
  go_wp2_with (at_builtin; go_must (refine wpList_append8 rfl _ _ rfl base _ _ rfl HO1.out _ m rfl HX1.out HL.out (Nat.le_trans HS.out HB1.out.size) ?_; intro v2 w2 ho2 hg2; have HO2 := Lib.hid ho2; have HB2 := Lib.hid (HB1.out.grown hg2 (Nat.le_trans HS.out HB1.out.size) (fun k hk => (HO1.out.lt k hk).1)); clear ho2 hg2))
  go_ret
  exact ⟨_, rfl, HO2.out, HB2.out⟩

/-- The frame of a body. -/
def fr1 (m : List Nat) : List Nat := form m.length ++ m
set_option maxRecDepth 100000 in
set_option maxHeartbeats 1000000 in
theorem writeB_calls (v : Value) (m : List Nat) (w : World) (h : BRow w v m) :
    Calls Try.prog 40 #[v] w fun e w' => ∃ v', e = .returned (.tuple #[v', .int .i64 (if 16384 < m.length then 3 else 0 : Nat)]) ∧ Own8 w' w.heap.size v' (if 16384 < m.length then [] else fr1 m) ∧ Below w.heap.size w w' := by
  obtain ⟨a, cap, rfl⟩ := h.shape
  by_cases hm : 16384 < m.length
  · rw [if_pos hm, if_pos hm]
    clear h
    go_enter Try.func40, Try.ntmps40
    go_wp2
    go_ret2
    exact ⟨_, rfl, own8_nil _ _, Below.refl _ _⟩
  · rw [if_neg hm, if_neg hm]
    have HA := Lib.hid (addB_calls (.slice none 0 0) (.slice a m.length cap) [] m w w.heap.size (Nat.le_refl _) (own8_nil _ _) (fun W hb => h.below hb) (by simp; omega))
    clear h
    go_enter Try.func40, Try.ntmps40
    go_wp2_with fail
    refine HA.out.mono ?_
    rintro e w1 ⟨v1, rfl, ho1, hb1⟩
    have HO1 := Lib.hid ho1
    clear ho1
    go_wp2
    go_ret2
    exact ⟨_, rfl, HO1.out, hb1⟩
end Go.Proofs.Yteaeedhhdnkldaa
