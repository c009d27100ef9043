/-
  CONTRACTS of bytes.Compare and bytes.Equal at what reads as bytes.
-/
import Derived.Test.YtapaccbffhcjdaaDoorKeyAwake
import Derived.Test.YtapaccbffhcjdaaDoorKeyLex
import Derived.WideShapes
namespace Go.Proofs.YtapaccbffhcjdaaDoor
open Go.RowKit Go.Shelf

theorem run_loadB (w : World) (b : Nat) (l : List UInt8) : ∀ (off : Nat) (acc : ByteArray), (∀ i, i < l.length → w.cell? ⟨b, off + i, none⟩ = some (.int .u8 ((l.getD i 0).toNat : Int))) →
    (Extern.Bytes.loadBytes ⟨b, off, none⟩ l.length acc).run Tryd.prog w = .ok ⟨acc.data ++ l.toArray⟩ w := by
  induction l with
  | nil => intro off acc _; simp [Extern.Bytes.loadBytes]
  | cons d l ih =>
    intro off acc h
    have h0 := h 0 (by simp)
    rw [Nat.add_zero, List.getD_cons_zero] at h0
    have hadd : (⟨b, off, none⟩ : Addr).add 1 = ⟨b, off + 1, none⟩ := by unfold Addr.add; simp
    have e : ((d.toNat : Int).toNat).toUInt8 = d := by simp
    have hi := ih (off + 1) (acc.push d) (fun i hi => by
      have := h (i + 1) (by simp; omega)
      rw [show off + 1 + i = off + (i + 1) by omega, this]
      simp)
    simp only [List.length_cons, Extern.Bytes.loadBytes, Sem.run_bind]
    simp only [run_load, h0, Result.andThen, hadd, e]
    rw [hi]
    congr 2
    simp [ByteArray.push]
theorem run_bytesB (w : World) (v : Value) (l : List UInt8) (h : BR w v l) : (Extern.Bytes.bytesOf v).run Tryd.prog w = .ok ⟨l.toArray⟩ w := by
  rcases h with ⟨rfl, a, c, rfl, _⟩ | ⟨b, off, cap, rfl, _, _, _, hc⟩
  · cases a with
    | none => rfl
    | some a => rfl
  · simp only [Extern.Bytes.bytesOf]
    rw [run_loadB w b l off .empty hc]
    congr 2
    show #[] ++ l.toArray = l.toArray
    simp
theorem ba_size (l : List UInt8) : (⟨l.toArray⟩ : ByteArray).size = l.length := by simp [ByteArray.size]
theorem ba_get (l : List UInt8) (i : Nat) (h : i < l.length) : (⟨l.toArray⟩ : ByteArray)[i]! = l.getD i 0 := by
  have hs : i < (⟨l.toArray⟩ : ByteArray).size := by rw [ba_size]; exact h
  rw [getElem!_pos (⟨l.toArray⟩ : ByteArray) i hs]
  show l.toArray[i] = _
  simp [h]
theorem cmp_lexB (l m : List UInt8) : Extern.BytealgCompare.cmp ⟨l.toArray⟩ ⟨m.toArray⟩ = lexB l m := by
  unfold Extern.BytealgCompare.cmp
  rw [ba_size, ba_size]
  split
  · rename_i i hf
    rw [List.find?_range_eq_some] at hf
    obtain ⟨h1, h2, h3⟩ := hf
    have h2' : i < min l.length m.length := by simpa using h2
    rw [ba_get l i (by omega), ba_get m i (by omega)] at h1
    rw [lexB_diff i l m (by omega) (by omega) (fun j hj => by
      have := h3 j hj
      rw [ba_get l j (by omega), ba_get m j (by omega)] at this
      simpa using this) (by simpa using h1), ba_get l i (by omega), ba_get m i (by omega)]
    simp only [UInt8.lt_iff_toNat_lt]
  · rename_i hf
    rw [List.find?_range_eq_none] at hf
    rw [lexB_pre l m (fun j h1 h2 => by
      have := hf j (by omega)
      rw [ba_get l j h1, ba_get m j h2] at this
      simpa using this)]
theorem run_compareFn (args : Array Value) (w : World) : (callFunc 58 args).run Tryd.prog w = ((Extern.BytealgCompare.compare args).run Tryd.prog w).andThen fun v w' => .ok (.value v) w' :=
  run_callFunc_extern Tryd.func58 (by kernel_rfl) (by kernel_rfl) (by kernel_rfl) (by kernel_rfl) args w
theorem run_compareB (w : World) (v v' : Value) (l m : List UInt8) (h : BR w v l) (h' : BR w v' m) : (callFunc 58 #[v, v']).run Tryd.prog w = .ok (.value (.int .i64 (lexB l m))) w := by
  rw [run_compareFn]
  have hc : (Extern.BytealgCompare.compare #[v, v']).run Tryd.prog w = .ok (.int .i64 (lexB l m)) w := by
    change Sem.run Tryd.prog (do
      let x ← Extern.Bytes.bytesOf v
      let y ← Extern.Bytes.bytesOf v'
      pure (goInt (Extern.BytealgCompare.cmp x y))) w = _
    simp only [Sem.run_bind, run_bytesB w v l h, Result.andThen, run_bytesB w v' m h', Sem.run_pure, cmp_lexB l m]
    rfl
  rw [hc]
  rfl
set_option maxRecDepth 100000 in
set_option maxHeartbeats 400000 in
theorem bytesCompareB_calls (v v' : Value) (l m : List UInt8) (w : World) (h : BR w v l) (h' : BR w v' m) :
    Calls Tryd.prog 22 #[v, v'] w fun e w' => e = .returned (.int .i64 (lexB l m)) ∧ w = w' := by
  have hr := run_compareB w v v' l m h h'
  clear h h'
  go_enter Tryd.func22, Tryd.ntmps22
  go_wp2
  go_ret
  exact ⟨rfl, rfl⟩
set_option maxRecDepth 100000 in
set_option maxHeartbeats 400000 in
theorem bytesEqualB_calls (v v' : Value) (l m : List UInt8) (w : World) (h : BR w v l) (h' : BR w v' m) :
    Calls Tryd.prog 24 #[v, v'] w fun e w' => e = .returned (.bool (decide (l = m))) ∧ w = w' := by
  have c1 := br_text h
  have c2 := br_text h'
  have he := (show ((⟨l.toArray⟩ : ByteArray).toList == (⟨m.toArray⟩ : ByteArray).toList) = decide (l = m) by
    rw [Bool.eq_iff_iff, beq_iff_eq, decide_eq_true_iff, ByteArray.toList_eq, ByteArray.toList_eq])
  clear h h'
  generalize (⟨l.toArray⟩ : ByteArray) = s1 at *
  generalize (⟨m.toArray⟩ : ByteArray) = s2 at *
  go_enter Tryd.func24, Tryd.ntmps24
  go_wp2
  go_ret
  exact ⟨rfl, rfl⟩
end Go.Proofs.YtapaccbffhcjdaaDoor
