/-
  PLAIN FACTS for NameWrong: strings that are no names, and lists that are no sets.
-/
import Derived.Test.YtdaalpiiagmdfaaNameSortP
import Derived.Test.YtdaalpiiagmdfaaNameFullP
import Derived.Test.YtdaalpiiagmdfaaNameParts2
import Derived.Test.YtdaalpiiagmdfaaNameJoin
namespace Go.Proofs.Ytdaalpiiagmdfaa
open Go.RowKit Go.Shelf

def badsL : List (List UInt8) := [[], [65], [48, 97], [45, 97], [97, 45], [97, 46], [46, 97], [97, 46, 46, 98], [97, 95, 98]]
def badN (k : Nat) : List UInt8 := badsL.getD k []
set_option maxRecDepth 100000 in
theorem bad_no : ∀ k, k < 9 → rightN (badN k) = false := by decide +kernel
set_option maxRecDepth 100000 in
theorem bad_join : ∀ k, k < 9 → joinE [[97], badN k, [46]] = 40 ∧ joinV [[97], badN k, [46]] = [] ∧ (glued [[97], badN k, [46]]).length ≤ 100 := by decide +kernel
set_option maxRecDepth 100000 in
theorem bad_parts : ∀ k, k < 9 → partsE (badN k) = 40 ∧ partsV (badN k) = [] ∧ (badN k).length ≤ 4 := by decide +kernel
theorem bad_cell (W : World) (t : TypeId) (k : Nat) (hk : k < 9) : (W.alloc (.cells #[.string ⟨#[]⟩, .string ⟨#[65]⟩, .string ⟨#[48, 97]⟩, .string ⟨#[45, 97]⟩, .string ⟨#[97, 45]⟩, .string ⟨#[97, 46]⟩, .string ⟨#[46, 97]⟩, .string ⟨#[97, 46, 46, 98]⟩, .string ⟨#[97, 95, 98]⟩] t)).cell? ⟨W.heap.size, k, none⟩ = some (.string ⟨(badN k).toArray⟩) := by
  have : k = 0 ∨ k = 1 ∨ k = 2 ∨ k = 3 ∨ k = 4 ∨ k = 5 ∨ k = 6 ∨ k = 7 ∨ k = 8 := by omega
  rcases this with rfl | rfl | rfl | rfl | rfl | rfl | rfl | rfl | rfl <;> simp [badN, badsL]
/-- What all functions answer at a set and a string that is no name. -/
theorem look_bad {S : List (List UInt8)} {b : List UInt8} (h1 : setN S = true) (h2 : rightN b = false) :
    lookE S b = 40 ∧ lookI S b = 0 ∧ lookH S b = false ∧ rangeN S b = 0 ∧ addE S b = 40 ∧ addV S b = [] ∧ dropE S b = 40 ∧ dropV S b = [] := by
  have hE : lookE S b = 40 := by unfold lookE; rw [if_pos h1, h2]; rfl
  refine ⟨hE, ?_, ?_, ?_, ?_, ?_, ?_, ?_⟩
  · unfold lookI; rw [if_pos h1, h2]; rfl
  · unfold lookH; rw [if_pos h1, h2]; rfl
  · unfold rangeN; rw [if_pos h1, h2]; rfl
  · unfold addE; rw [hE]; rfl
  · unfold addV; rw [hE]; rfl
  · unfold dropE; rw [hE]; rfl
  · unfold dropV; rw [hE]; rfl
/-- What all functions answer at a list that is no set. -/
theorem look_wrong {T : List (List UInt8)} (h1 : setN T = false) (s : List UInt8) :
    lookE T s = 41 ∧ lookI T s = 0 ∧ lookH T s = false ∧ rangeN T s = 0 ∧ addE T s = 41 ∧ addV T s = [] ∧ dropE T s = 41 ∧ dropV T s = [] := by
  have hE : lookE T s = 41 := by unfold lookE; rw [h1]; rfl
  refine ⟨hE, ?_, ?_, ?_, ?_, ?_, ?_, ?_⟩
  · unfold lookI; rw [h1]; rfl
  · unfold lookH; rw [h1]; rfl
  · unfold rangeN; rw [h1]; rfl
  · unfold addE; rw [hE]; rfl
  · unfold addV; rw [hE]; rfl
  · unfold dropE; rw [hE]; rfl
  · unfold dropV; rw [hE]; rfl
theorem cmp_bad {a b : List UInt8} (h : rightN a = false ∨ rightN b = false) : compareN a b = 0 ∧ compareE a b = 40 ∧ underN a b = false := by
  unfold compareN compareE underN
  rcases h with h | h <;> rw [h] <;> simp
theorem of_bad (S : List (List UInt8)) {b : List UInt8} (h : rightN b = false) : ofE (S ++ [b]) = 40 ∧ ofV (S ++ [b]) = [] := by
  have e : ofE (S ++ [b]) = 40 := by
    unfold ofE
    rw [if_neg]
    simp [h]
  exact ⟨e, by unfold ofV; rw [e]; rfl⟩
/-- The four ways to spoil a set. -/
theorem spoil0 (S : List (List UInt8)) : setN (S ++ [zz, zz]) = false := by
  rw [Bool.eq_false_iff]
  intro h
  have := (List.pairwise_append.1 (set_asc h)).2.1
  simp only [List.pairwise_cons] at this
  have h2 := this.1 zz (by simp)
  rw [nmC_good.refl] at h2
  omega
theorem za : nmC [97] zz < 0 := by decide +kernel
theorem spoil1 (S : List (List UInt8)) : setN ([zz] ++ (S ++ [[97]])) = false := by
  rw [Bool.eq_false_iff]
  intro h
  have h1 := (List.pairwise_append.1 (set_asc h)).2.2 zz (by simp) [97] (by simp)
  have h2 := nmC_good.anti [97] zz
  have := za
  omega
theorem spoil2 (S : List (List UInt8)) {b : List UInt8} (hb : rightN b = false) : setN (S ++ [b]) = false := by
  rw [Bool.eq_false_iff]
  intro h
  have := set_right h b (by simp)
  rw [hb] at this
  cases this
def zn (i : Nat) : List UInt8 := [122, 122, (97 + i / 26).toUInt8, (97 + i % 26).toUInt8]
def znL (k : Nat) : List (List UInt8) := (List.range k).map zn
theorem znL_length (k : Nat) : (znL k).length = k := by simp [znL]
theorem znL_succ (k : Nat) : znL (k + 1) = znL k ++ [zn k] := by simp [znL, List.range_succ]
theorem znL_short (k : Nat) : ∀ p ∈ znL k, p.length ≤ 1000000 := by
  intro p hp
  simp only [znL, List.mem_map] at hp
  obtain ⟨i, _, rfl⟩ := hp
  simp [zn]
theorem spoil3 (S : List (List UInt8)) : setN (S ++ znL 257) = false := by
  rw [Bool.eq_false_iff]
  intro h
  have := set_len h
  rw [List.length_append, znL_length] at this
  omega
end Go.Proofs.Ytdaalpiiagmdfaa
