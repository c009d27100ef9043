/-
  CONTRACT of the law's Made: the name with a number.
-/
import Derived.Test.YtdaalpiiagmdfaaNameUnd
import Derived.WalkMore
namespace Go.Proofs.Ytdaalpiiagmdfaa
open Go.RowKit Go.Shelf

attribute [local go_sem] Oper.semAt_some

def nms : List (List UInt8) := [[97], [97, 45, 98], [97, 48], [98], [105, 110], [111, 117, 116], [112, 111, 114, 116, 45, 49], [122]]
def nm (k : Nat) : List UInt8 := nms.getD (k % 8) []
def madeN (k : Nat) : List UInt8 := nm k ++ ((if 0 < k / 8 % 4 then 46 :: nm (k / 32) else []) ++ (if 1 < k / 8 % 4 then 46 :: nm (k / 256) else []))

theorem nm_len (k : Nat) : (nm k).length ≤ 6 := by
  unfold nm
  have h : k % 8 < 8 := Nat.mod_lt _ (by decide)
  generalize k % 8 = i at *
  rcases (show i = 0 ∨ i = 1 ∨ i = 2 ∨ i = 3 ∨ i = 4 ∨ i = 5 ∨ i = 6 ∨ i = 7 by omega) with rfl | rfl | rfl | rfl | rfl | rfl | rfl | rfl <;> decide
theorem bytes_app (a b : List UInt8) : (⟨a.toArray⟩ : ByteArray) ++ ⟨b.toArray⟩ = ⟨(a ++ b).toArray⟩ := by
  apply ByteArray.ext
  simp
theorem cell_new8 (w : World) (i : Nat) (hi : i < 8) : (w.alloc (.cells #[.string ⟨#[97]⟩, .string ⟨#[97, 45, 98]⟩, .string ⟨#[97, 48]⟩, .string ⟨#[98]⟩, .string ⟨#[105, 110]⟩, .string ⟨#[111, 117, 116]⟩, .string ⟨#[112, 111, 114, 116, 45, 49]⟩, .string ⟨#[122]⟩] 9)).cell? ⟨w.heap.size, i, none⟩ = some (.string ⟨(nms.getD i []).toArray⟩) := by
  rw [World.cell?_alloc_at _ _ _ _ (by simp)]
  rcases (show i = 0 ∨ i = 1 ∨ i = 2 ∨ i = 3 ∨ i = 4 ∨ i = 5 ∨ i = 6 ∨ i = 7 by omega) with rfl | rfl | rfl | rfl | rfl | rfl | rfl | rfl <;> rfl

set_option maxRecDepth 100000 in
set_option maxHeartbeats 2000000 in
theorem made_calls (k : Nat) (hk : k < 65536) (w : World) :
    Calls Try.prog 13 #[.int .u16 k] w fun e W' => e = .returned (str (madeN k)) ∧ Below w.heap.size w W' := by
  have HC := Lib.hid (fun i hi => cell_new8 w i hi)
  go_enter Try.func13, Try.ntmps13
  have c1 : _ = some (Value.string ⟨(nm k).toArray⟩) := HC.out (k % 8) (by omega)
  have c2 : _ = some (Value.string ⟨(nm (k / 32)).toArray⟩) := HC.out (k / 32 % 8) (by omega)
  have c3 : _ = some (Value.string ⟨(nm (k / 256)).toArray⟩) := HC.out (k / 256 % 8) (by omega)
  have hM := Lib.hid (show madeN k = nm k ++ ((if 0 < k / 8 % 4 then 46 :: nm (k / 32) else []) ++ (if 1 < k / 8 % 4 then 46 :: nm (k / 256) else [])) from rfl)
  have q1 := nm_len k
  have q2 := nm_len (k / 32)
  have q3 := nm_len (k / 256)
  generalize nm k = n1 at *
  generalize nm (k / 32) = n2 at *
  generalize nm (k / 256) = n3 at *
  have r1 : ¬ 9223372036854775807 < 1 + n2.length := by omega
  have r2 : ¬ 9223372036854775807 < n1.length + (1 + n2.length) := by omega
  have r3 : ¬ 9223372036854775807 < 1 + n3.length := by omega
  have r4 : ¬ 9223372036854775807 < n1.length + (1 + n2.length) + (1 + n3.length) := by omega
  have hB : Below w.heap.size w (w.alloc (.cells #[.string ⟨#[97]⟩, .string ⟨#[97, 45, 98]⟩, .string ⟨#[97, 48]⟩, .string ⟨#[98]⟩, .string ⟨#[105, 110]⟩, .string ⟨#[111, 117, 116]⟩, .string ⟨#[112, 111, 114, 116, 45, 49]⟩, .string ⟨#[122]⟩] 9)) := (Below.refl _ w).alloc (Nat.le_refl _) _
  have HB := Lib.hid hB
  clear q1 q2 q3 hB
  by_cases h1 : 0 < k / 8 % 4
  · have d1 : decide ((0 : Int) < (k : Int) / 8 % 4) = true := decide_eq_true (by omega)
    by_cases h2 : 1 < k / 8 % 4
    · have d2 : decide ((1 : Int) < (k : Int) / 8 % 4) = true := decide_eq_true (by omega)
      have hM2 := Lib.hid (hM.out.trans (by rw [if_pos h1, if_pos h2]))
      clear h1 h2 hM
      go_wp2
      go_ret
      exact ⟨by rw [hM2.out]; simp [str, bytes_app n1, bytes_app [46]]; rw [bytes_app]; simp, HB.out⟩
    · have d2 : decide ((1 : Int) < (k : Int) / 8 % 4) = false := decide_eq_false (by omega)
      have hM2 := Lib.hid (hM.out.trans (by rw [if_pos h1, if_neg h2]))
      clear h1 h2 hM
      go_wp2
      go_ret
      exact ⟨by rw [hM2.out]; simp [str, bytes_app n1, bytes_app [46]], HB.out⟩
  · have d1 : decide ((0 : Int) < (k : Int) / 8 % 4) = false := decide_eq_false (by omega)
    have d2 : decide ((1 : Int) < (k : Int) / 8 % 4) = false := decide_eq_false (by omega)
    have hM2 := Lib.hid (hM.out.trans (by rw [if_neg h1, if_neg (by omega)]))
    clear h1 hM
    go_wp2
    go_ret
    exact ⟨by rw [hM2.out]; simp [str], HB.out⟩
end Go.Proofs.Ytdaalpiiagmdfaa
