/-
  CONTRACT of bytes.Equal at what reads as bytes.
-/
import Derived.Test.YteaeedhhdnkldaaAppend8
import Derived.Test.YteaeedhhdnkldaaNumOrd
import Derived.Laws.Externs
import Derived.Laws.BytesArg
import Derived.WideShapes
namespace Go.Proofs.Yteaeedhhdnkldaa
open Go.RowKit Pl

/-! bytes.Equal, bytes.HasPrefix. -/
def bstr (l : List Nat) : ByteArray := strOfNums (l.map fun d : Nat => (d : Int))
theorem run_convertRow (w : World) (v : Value) (l : List Nat) (h : BRow w v l) : (convert 22 9 v).run Try.prog w = .ok (.string (bstr l)) w := by
  obtain ⟨_, ⟨a, c, rfl, rfl, _⟩ | ⟨b, off, cap, rfl, _, _, hc⟩⟩ := h
  · cases a with
    | none => exact run_convert_bytes_nil w 22 5 Try.underlying22 Try.underlying5 0 c 9 Try.underlying9
    | some a =>
      rw [run_convert_bytes_string w 22 9 5 (some a) 0 c Try.underlying22 Try.underlying5 Try.underlying9, run_bytesToString w a 0 c [] (by simp [loadCells, loadCellsFrom])]
      rfl
  · refine run_convert_bytes_arg w 22 5 Try.underlying22 Try.underlying5 b off l.length cap (l.map fun d : Nat => (d : Int)) (by simp) (fun i hi => ?_) 9 Try.underlying9
    rw [hc i hi]
    simp [gt, hi]
theorem strs_eq (s t : ByteArray) : (s.toList == t.toList) = decide (s = t) := by
  rw [Bool.eq_iff_iff, beq_iff_eq, decide_eq_true_iff, ByteArray.toList_eq, ByteArray.toList_eq]
  exact ⟨fun h => Go.WideShapes.bytes_inj h, fun h => by rw [h]⟩
theorem bstr_inj (l m : List Nat) (hl : AllB l) (hm : AllB m) : bstr l = bstr m ↔ l = m := by
  constructor
  · intro h
    have h1 := congrArg (fun s : ByteArray => s.data.toList.map UInt8.toNat) h
    simp only [bstr, strOfNums_data, List.map_map] at h1
    have e : ∀ k : List Nat, AllB k → (k.map (UInt8.toNat ∘ (fun n : Int => UInt8.ofNat n.toNat) ∘ fun d : Nat => (d : Int))) = k := by
      intro k hk
      conv => rhs; rw [← List.map_id k]
      refine List.map_congr_left fun d hd => ?_
      have := hk d hd
      simp
      omega
    rw [e l hl, e m hm] at h1
    exact h1
  · rintro rfl; rfl

set_option maxRecDepth 100000 in
set_option maxHeartbeats 400000 in
theorem bytesEqual_calls (v v' : Value) (l m : List Nat) (w : World) (h : BRow w v l) (h' : BRow w v' m) :
    Calls Try.prog 42 #[v, v'] w fun e w' => e = .returned (.bool (decide (l = m))) ∧ w = w' := by
  have h1 := run_convertRow w v l h
  have h2 := run_convertRow w v' m h'
  have h3 := Lib.hid (bstr_inj l m h.1 h'.1)
  clear h h'
  generalize bstr l = s1 at *
  generalize bstr m = s2 at *
  go_enter Try.func42, Try.ntmps42
  go_wp2
  go_ret
  refine ⟨ret_bool ?_, rfl⟩
  rw [strs_eq]
  exact decide_eq_decide.2 h3.out


end Go.Proofs.Yteaeedhhdnkldaa
