/-
  THE BUILT-IN append of bytes at a step of a region that draws its order; bytes.Compare, bytes.Equal, bytes.HasPrefix at what reads as bytes.
-/
import Derived.Test.YtflenhbkpaondaaAppend8
import Derived.Test.YtflenhbkpaondaaNumOrd
import Derived.Laws.Externs
import Derived.Laws.BytesArg
import Derived.WideShapes
namespace Go.Proofs.Ytflenhbkpaondaa
open Go.RowKit Pl

theorem wp_append8 {o : Oper} {a : Act} {w : World} {K : Act → World → Prop} {Q : Exit → Act → World → Prop} (s x : Operand)
    (ho : o.op = .call { callee := .builtin .append, args := #[s, x], argTypes := #[23, 23] })
    (base : Nat) (v : Value) (l : List Nat) (hs : a.eval s = v) (hown : Own8 w base v l) (xv : Value) (m : List Nat) (hx : a.eval x = xv) (hrow : BRow w xv m)
    (hl : l.length + m.length ≤ 140737488355328) (hbase : base ≤ w.heap.size)
    (h : ∀ v' w', Own8 w' base v' (l ++ m) → w.grownBy w' v.ownBlock → K (a.put o.dst v') w') : o.wp Try.prog a w K Q := by
  obtain ⟨v', w', hr, h2, h3⟩ := run_append8 w o.type base hbase v l hown xv m hrow hl
  unfold Oper.wp execOp
  simp only [ho, resolve, invoke, builtin, Sem.run_bind, Sem.run_pure, Result.andThen_ok, List.map_toArray, List.map_cons, List.map_nil, hs, hx, hr]
  exact h v' w' h2 h3

theorem step_append8 {ops : Array Oper} {o : Oper} {a : Act} {w : World} {K : Act → World → Prop} {Q : Exit → Act → World → Prop} {E : Prop} (hg : o.guard = none) (s x : Operand)
    (ho : o.op = .call { callee := .builtin .append, args := #[s, x], argTypes := #[23, 23] })
    (base : Nat) (v : Value) (l : List Nat) (hs : a.eval s = v) (hown : Own8 w base v l) (xv : Value) (m : List Nat) (hx : a.eval x = xv) (hrow : BRow w xv m)
    (hl : l.length + m.length ≤ 140737488355328) (hbase : base ≤ w.heap.size)
    (h : ∀ v' w', Own8 w' base v' (l ++ m) → w.grownBy w' v.ownBlock → K (a.put o.dst v') w') : if Region.wanted o (yielded ops a.tmps) = true then Oper.wp Try.prog o a w K Q else E := by
  rw [if_pos (by simp [Region.wanted, hg])]
  exact wp_append8 s x ho base v l hs hown xv m hx hrow hl hbase h

/-! bytes.Compare. -/
def u8s (l : List Nat) : List UInt8 := l.map fun d : Nat => ((d : Int).toNat).toUInt8
def toBA (l : List Nat) : ByteArray := ⟨(u8s l).toArray⟩

theorem run_loadBytes (w : World) (b : Nat) (l : List Nat) : ∀ (off : Nat) (acc : ByteArray), (∀ i, i < l.length → w.cell? ⟨b, off + i, none⟩ = some (.int .u8 (gt l i : Int))) →
    (Extern.Bytes.loadBytes ⟨b, off, none⟩ l.length acc).run Try.prog w = .ok ⟨acc.data ++ (u8s l).toArray⟩ w := by
  induction l with
  | nil => intro off acc _; simp [Extern.Bytes.loadBytes, u8s]
  | cons d l ih =>
    intro off acc h
    have h0 := h 0 (by simp)
    rw [Nat.add_zero] at h0
    have hg : gt (d :: l) 0 = d := rfl
    rw [hg] at h0
    have hadd : (⟨b, off, none⟩ : Addr).add 1 = ⟨b, off + 1, none⟩ := by unfold Addr.add; simp
    have hi := ih (off + 1) (acc.push ((d : Int).toNat).toUInt8) (fun i hi => by
      have := h (i + 1) (by simp; omega)
      rw [show off + 1 + i = off + (i + 1) by omega, this]
      rfl)
    simp only [List.length_cons, Extern.Bytes.loadBytes, Sem.run_bind]
    simp only [run_load, h0, Result.andThen, hadd]
    rw [hi]
    congr 2
    simp [u8s, ByteArray.push]
theorem run_bytesOf (w : World) (v : Value) (l : List Nat) (h : BRow w v l) : (Extern.Bytes.bytesOf v).run Try.prog w = .ok (toBA l) w := by
  obtain ⟨_, ⟨a, c, rfl, rfl, _⟩ | ⟨b, off, cap, rfl, _, _, hc⟩⟩ := h
  · cases a with
    | none => rfl
    | some a => rfl
  · simp only [Extern.Bytes.bytesOf]
    rw [run_loadBytes w b l off .empty hc]
    congr 2
    show #[] ++ (u8s l).toArray = (u8s l).toArray
    simp

theorem lexC_diff (i : Nat) : ∀ l m : List Nat, i < l.length → i < m.length → (∀ j, j < i → gt l j = gt m j) → gt l i ≠ gt m i → lexC l m = if gt l i < gt m i then -1 else 1 := by
  induction i with
  | zero =>
    intro l m h1 h2 _ hne
    cases l with
    | nil => simp at h1
    | cons x l =>
      cases m with
      | nil => simp at h2
      | cons y m =>
        have e1 : gt (x :: l) 0 = x := rfl
        have e2 : gt (y :: m) 0 = y := rfl
        rw [e1, e2] at hne ⊢
        simp only [lexC]
        by_cases h : x < y
        · simp [h]
        · simp [h, show y < x by omega]
  | succ i ih =>
    intro l m h1 h2 hj hne
    cases l with
    | nil => simp at h1
    | cons x l =>
      cases m with
      | nil => simp at h2
      | cons y m =>
        have e0 : x = y := hj 0 (by omega)
        subst e0
        have e1 : gt (x :: l) (i + 1) = gt l i := rfl
        have e2 : gt (x :: m) (i + 1) = gt m i := rfl
        rw [e1, e2] at hne ⊢
        simp only [lexC, Nat.lt_irrefl, if_false]
        exact ih l m (by simpa using h1) (by simpa using h2) (fun j hjj => hj (j + 1) (by omega)) hne
theorem lexC_pre : ∀ l m : List Nat, (∀ j, j < l.length → j < m.length → gt l j = gt m j) → lexC l m = if l.length < m.length then -1 else if m.length < l.length then 1 else 0 := by
  intro l
  induction l with
  | nil => intro m _; cases m <;> simp [lexC]
  | cons x l ih =>
    intro m h
    cases m with
    | nil => simp [lexC]
    | cons y m =>
      have e0 : x = y := h 0 (by simp) (by simp)
      subst e0
      simp only [lexC, Nat.lt_irrefl, if_false, List.length_cons, Nat.add_lt_add_iff_right]
      exact ih m (fun j h1 h2 => h (j + 1) (by simp; omega) (by simp; omega))

theorem toBA_size (l : List Nat) : (toBA l).size = l.length := by simp [toBA, u8s, ByteArray.size]
theorem toBA_get (l : List Nat) (i : Nat) (h : i < l.length) : (toBA l)[i]! = (gt l i).toUInt8 := by
  have hs : i < (toBA l).size := by rw [toBA_size]; exact h
  rw [getElem!_pos (toBA l) i hs]
  show (toBA l).data[i] = _
  simp [toBA, u8s, gt, h]
theorem toUInt8_ne {x y : Nat} (hx : x < 256) (hy : y < 256) : (x.toUInt8 != y.toUInt8) = (x != y) := by
  rw [Bool.eq_iff_iff]
  simp only [bne_iff_ne, ne_eq]
  constructor
  · rintro h rfl; exact h rfl
  · intro h e
    have := congrArg UInt8.toNat e
    simp at this
    omega
theorem toUInt8_lt {x y : Nat} (hx : x < 256) (hy : y < 256) : (x.toUInt8 < y.toUInt8) ↔ x < y := by
  rw [UInt8.lt_iff_toNat_lt]
  simp
  omega
theorem cmp_lexC (l m : List Nat) (hl : AllB l) (hm : AllB m) : Extern.BytealgCompare.cmp (toBA l) (toBA m) = lexC l m := by
  unfold Extern.BytealgCompare.cmp
  rw [toBA_size, toBA_size]
  have hp : ∀ i, i < l.length → i < m.length → ((toBA l)[i]! != (toBA m)[i]!) = (gt l i != gt m i) := fun i h1 h2 => by
    rw [toBA_get l i h1, toBA_get m i h2, toUInt8_ne (gt_lt hl i) (gt_lt hm i)]
  split
  · rename_i i hf
    rw [List.find?_range_eq_some] at hf
    obtain ⟨h1, h2, h3⟩ := hf
    have h2' : i < min l.length m.length := by simpa using h2
    rw [hp i (by omega) (by omega)] at h1
    rw [lexC_diff i l m (by omega) (by omega) (fun j hj => by
      have := h3 j hj
      rw [hp j (by omega) (by omega)] at this
      simpa using this) (by simpa using h1), toBA_get l i (by omega), toBA_get m i (by omega)]
    by_cases h : gt l i < gt m i
    · rw [if_pos h, if_pos ((toUInt8_lt (gt_lt hl i) (gt_lt hm i)).2 h)]
    · rw [if_neg h, if_neg (fun e => h ((toUInt8_lt (gt_lt hl i) (gt_lt hm i)).1 e))]
  · rename_i hf
    rw [List.find?_range_eq_none] at hf
    rw [lexC_pre l m (fun j h1 h2 => by
      have := hf j (by omega)
      rw [hp j h1 h2] at this
      simpa using this)]

theorem run_compareFn (args : Array Value) (w : World) : (callFunc 44 args).run Try.prog w = ((Extern.BytealgCompare.compare args).run Try.prog w).andThen fun v w' => .ok (.value v) w' :=
  run_callFunc_extern Try.func44 (by kernel_rfl) (by kernel_rfl) (by kernel_rfl) (by kernel_rfl) args w
theorem run_compare (w : World) (v v' : Value) (l m : List Nat) (h : BRow w v l) (h' : BRow w v' m) : (callFunc 44 #[v, v']).run Try.prog w = .ok (.value (.int .i64 (lexC l m))) w := by
  rw [run_compareFn]
  have hc : (Extern.BytealgCompare.compare #[v, v']).run Try.prog w = .ok (.int .i64 (lexC l m)) w := by
    change Sem.run Try.prog (do
      let x ← Extern.Bytes.bytesOf v
      let y ← Extern.Bytes.bytesOf v'
      pure (goInt (Extern.BytealgCompare.cmp x y))) w = _
    simp only [Sem.run_bind, run_bytesOf w v l h, Result.andThen, run_bytesOf w v' m h', Sem.run_pure, cmp_lexC l m h.1 h'.1]
    rfl
  rw [hc]
  rfl

set_option maxHeartbeats 400000 in
theorem bytesCompare_calls (v v' : Value) (l m : List Nat) (w : World) (h : BRow w v l) (h' : BRow w v' m) :
    Calls Try.prog 20 #[v, v'] w fun e w' => e = .returned (.int .i64 (lexC l m)) ∧ w = w' := by
  have hr := run_compare w v v' l m h h'
  clear h h'
  go_enter Try.func20, Try.ntmps20
  go_wp2
  go_ret
  exact ⟨rfl, rfl⟩

/-! bytes.Equal, bytes.HasPrefix. -/
def bstr (l : List Nat) : ByteArray := strOfNums (l.map fun d : Nat => (d : Int))
theorem run_convertRow (w : World) (v : Value) (l : List Nat) (h : BRow w v l) : (convert 23 9 v).run Try.prog w = .ok (.string (bstr l)) w := by
  obtain ⟨_, ⟨a, c, rfl, rfl, _⟩ | ⟨b, off, cap, rfl, _, _, hc⟩⟩ := h
  · cases a with
    | none => exact run_convert_bytes_nil w 23 5 Try.underlying23 Try.underlying5 0 c 9 Try.underlying9
    | some a =>
      rw [run_convert_bytes_string w 23 9 5 (some a) 0 c Try.underlying23 Try.underlying5 Try.underlying9, run_bytesToString w a 0 c [] (by simp [loadCells, loadCellsFrom])]
      rfl
  · refine run_convert_bytes_arg w 23 5 Try.underlying23 Try.underlying5 b off l.length cap (l.map fun d : Nat => (d : Int)) (by simp) (fun i hi => ?_) 9 Try.underlying9
    rw [hc i hi]
    simp [gt, hi]
theorem strs_eq (s t : ByteArray) : (s.toList == t.toList) = decide (s = t) := by
  rw [Bool.eq_iff_iff, beq_iff_eq, decide_eq_true_iff, ByteArray.toList_eq, ByteArray.toList_eq]
  exact ⟨fun h => Go.WideShapes.bytes_inj h, fun h => by rw [h]⟩
theorem bstr_inj (l m : List Nat) (hl : AllB l) (hm : AllB m) : bstr l = bstr m ↔ l = m := by
  constructor
  · intro h
    have h1 := congrArg (fun s : ByteArray => s.data.toList.map UInt8.toNat) h
    simp only [bstr, strOfNums_data, List.map_map] at h1
    have e : ∀ k : List Nat, AllB k → (k.map (UInt8.toNat ∘ (fun n : Int => UInt8.ofNat n.toNat) ∘ fun d : Nat => (d : Int))) = k := by
      intro k hk
      conv => rhs; rw [← List.map_id k]
      refine List.map_congr_left fun d hd => ?_
      have := hk d hd
      simp
      omega
    rw [e l hl, e m hm] at h1
    exact h1
  · rintro rfl; rfl

set_option maxHeartbeats 400000 in
theorem bytesEqual_calls (v v' : Value) (l m : List Nat) (w : World) (h : BRow w v l) (h' : BRow w v' m) :
    Calls Try.prog 45 #[v, v'] w fun e w' => e = .returned (.bool (decide (l = m))) ∧ w = w' := by
  have h1 := run_convertRow w v l h
  have h2 := run_convertRow w v' m h'
  have h3 := Lib.hid (bstr_inj l m h.1 h'.1)
  clear h h'
  generalize bstr l = s1 at *
  generalize bstr m = s2 at *
  go_enter Try.func45, Try.ntmps45
  go_wp2
  go_ret
  refine ⟨ret_bool ?_, rfl⟩
  rw [strs_eq]
  exact decide_eq_decide.2 h3.out

set_option maxHeartbeats 400000 in
theorem hasPrefix_calls (v v' : Value) (l m : List Nat) (w : World) (h : BRow w v l) (h' : BRow w v' m) :
    Calls Try.prog 21 #[v, v'] w fun e w' => e = .returned (.bool (decide (m <+: l))) ∧ w = w' := by
  by_cases hle : m.length ≤ l.length
  · have hE : ∀ x c, BRow w (.slice x m.length c) (l.take m.length) → Calls Try.prog 45 #[.slice x m.length c, v'] w fun e w' => e = .returned (.bool (decide (m <+: l))) ∧ w = w' := fun x c hr => by
      have := bytesEqual_calls _ _ _ _ w hr h'
      have e : decide (l.take m.length = m) = decide (m <+: l) := by
        rw [Bool.eq_iff_iff, decide_eq_true_iff, decide_eq_true_iff, List.prefix_iff_eq_take]
        exact eq_comm
      rw [e] at this
      exact this
    have HE := Lib.hid hE
    clear hE
    obtain ⟨xa, xc, rfl⟩ := h'.shape
    clear h'
    obtain ⟨hb, ⟨a, c, rfl, rfl, hac⟩ | ⟨b, off, cap, rfl, hc, hm, hcell⟩⟩ := h
    · have hm0 : m = [] := List.eq_nil_of_length_eq_zero (by simpa using hle)
      subst hm0
      have HA := Lib.hid (BRow.empty (w := w) a c hac)
      clear hac hb
      go_enter Try.func21, Try.ntmps21
      go_wp2_with (go_at_call 45; refine (HE.out _ _ HA.out).mono ?_; rintro e w' ⟨rfl, rfl⟩)
      go_ret
      exact ⟨rfl, rfl⟩
    · have HA := Lib.hid (BRow.sub ⟨hb, .inr ⟨b, off, cap, rfl, hc, hm, hcell⟩⟩ 0 m.length off m.length cap (Nat.zero_le _) hle rfl rfl (by omega) hm)
      rw [List.drop_zero, Nat.sub_zero] at HA
      clear hcell hb hm
      generalize decide (m <+: l) = d at *
      go_enter Try.func21, Try.ntmps21
      go_wp2_with (go_at_call 45; refine (HE.out _ _ HA.out).mono ?_; rintro e w' ⟨rfl, rfl⟩)
      go_ret
      exact ⟨rfl, rfl⟩
  · have hfin : decide (m <+: l) = false := by
      rw [decide_eq_false_iff_not]; intro hp; exact hle hp.length_le
    have HF := Lib.hid hfin
    obtain ⟨xa, xc, rfl⟩ := h'.shape
    obtain ⟨ya, yc, rfl⟩ := h.shape
    clear h h' hfin
    go_enter Try.func21, Try.ntmps21
    go_wp2
    go_ret
    exact ⟨ret_bool HF.out.symm, rfl⟩
end Go.Proofs.Ytflenhbkpaondaa
