/-
  PLAIN FACTS about the names that NameFull makes.
-/
import Derived.Test.YtdaalpiiagmdfaaNameAddP
namespace Go.Proofs.Ytdaalpiiagmdfaa
open Go.RowKit Go.Shelf

def nn (i : Nat) : List UInt8 := [110, (97 + i / 26).toUInt8, (97 + i % 26).toUInt8]
def fullN (k : Nat) : List (List UInt8) := (List.range k).map nn
def zz : List UInt8 := [122, 122]
set_option maxRecDepth 100000 in
theorem nn_right : ∀ i, i < 301 → rightN (nn i) = true := by decide +kernel
set_option maxRecDepth 100000 in
theorem nn_step : ∀ i, i < 300 → nmC (nn i) (nn (i + 1)) < 0 := by decide +kernel
theorem zz_right : rightN zz = true := by decide +kernel
set_option maxRecDepth 100000 in
theorem nn_zz : ∀ i, i < 301 → nmC (nn i) zz < 0 := by decide +kernel
theorem nn_lt (i d : Nat) (h : i + 1 + d < 301) : nmC (nn i) (nn (i + 1 + d)) < 0 := by
  induction d with
  | zero => exact nn_step i (by omega)
  | succ d ih => exact nmC_good.lt_le (ih (by omega)) (Int.le_of_lt (nn_step (i + 1 + d) (by omega)))
theorem fullN_length (k : Nat) : (fullN k).length = k := by simp [fullN]
theorem fullN_asc (k : Nat) (hk : k ≤ 301) : Asc nmC (fullN k) := by
  refine List.pairwise_iff_getElem.2 fun i j hi hj hij => ?_
  rw [fullN_length] at hi hj
  have := nn_lt i (j - (i + 1)) (by omega)
  rw [show i + 1 + (j - (i + 1)) = j by omega] at this
  simpa [fullN] using this
theorem fullN_mem {k : Nat} {p : List UInt8} (h : p ∈ fullN k) : ∃ i, i < k ∧ p = nn i := by
  simp only [fullN, List.mem_map, List.mem_range] at h
  obtain ⟨i, hi, rfl⟩ := h
  exact ⟨i, hi, rfl⟩
theorem fullN_right (k : Nat) (hk : k ≤ 301) : ∀ p ∈ fullN k, rightN p = true := by
  intro p hp
  obtain ⟨i, hi, rfl⟩ := fullN_mem hp
  exact nn_right i (by omega)
theorem fullN_short (k : Nat) : ∀ p ∈ fullN k, p.length ≤ 1000000 := by
  intro p hp
  obtain ⟨i, hi, rfl⟩ := fullN_mem hp
  simp [nn]
theorem fullN_set (k : Nat) (hk : k ≤ 256) : setN (fullN k) = true := setN_of (fullN_asc k (by omega)) (fullN_right k (by omega)) (by rw [fullN_length]; exact hk)
theorem fullN_succ (k : Nat) : fullN (k + 1) = fullN k ++ [nn k] := by simp [fullN, List.range_succ]
theorem full_of (k : Nat) (hk : k ≤ 300) : ofE (fullN k ++ fullN k) = (if k ≤ 256 then 0 else 5) ∧ ofV (fullN k ++ fullN k) = if k ≤ 256 then fullN k else [] := by
  have hs : setL nmC (fullN k ++ fullN k) = fullN k := (setL_is nmC_good (fullN_asc k (by omega)) (fun x => by simp)).symm
  have hr : (fullN k ++ fullN k).all rightN = true := List.all_eq_true.2 (fun p hp => fullN_right k (by omega) p (by simpa using hp))
  have hE : ofE (fullN k ++ fullN k) = (if k ≤ 256 then 0 else 5) := by
    unfold ofE
    rw [if_pos hr, hs, fullN_length]
  refine ⟨hE, ?_⟩
  unfold ofV
  rw [hE, hs]
  by_cases h : k ≤ 256
  · rw [if_pos h, if_pos h, if_pos rfl]
  · rw [if_neg h, if_neg h, if_neg (by decide)]
theorem zz_not (k : Nat) (hk : k ≤ 300) : zz ∉ fullN k := by
  intro h
  obtain ⟨i, hi, e⟩ := fullN_mem h
  have := nn_zz i (by omega)
  rw [← e, nmC_good.refl] at this
  omega
/-- What the law adds. -/
theorem full_add (k : Nat) (hk : k < 256) : addE (fullN k) zz = 0 ∧ addV (fullN k) zz = fullN k ++ [zz] := by
  obtain ⟨a, b⟩ := add_is (fullN_set k (by omega)) zz_right (.inr (by rw [fullN_length]; exact hk))
  refine ⟨a, b.trans (setL_is nmC_good ?_ (fun x => by simp [or_comm])).symm⟩
  refine List.pairwise_append.2 ⟨fullN_asc k (by omega), by simp, fun x hx y hy => ?_⟩
  obtain ⟨i, hi, rfl⟩ := fullN_mem hx
  obtain rfl : y = zz := by simpa using hy
  exact nn_zz i (by omega)
theorem full_add_full : addE (fullN 256) zz = 5 ∧ addV (fullN 256) zz = [] :=
  add_full (fullN_set 256 (by omega)) zz_right (zz_not 256 (by omega)) (fullN_length 256)
theorem full_add_own (j : Nat) (hj : j < 256) : addE (fullN 256) (nn j) = 0 ∧ addV (fullN 256) (nn j) = fullN 256 := by
  have hm : nn j ∈ fullN 256 := by simp only [fullN, List.mem_map, List.mem_range]; exact ⟨j, hj, rfl⟩
  obtain ⟨a, b⟩ := add_is (fullN_set 256 (by omega)) (nn_right j (by omega)) (.inl hm)
  exact ⟨a, b.trans (setL_is nmC_good (fullN_asc 256 (by omega)) (fun x => by simp; intro h; exact h ▸ hm)).symm⟩
end Go.Proofs.Ytdaalpiiagmdfaa
