/-
  PLAIN FACTS about Add and Drop: they keep sets, and what is in them.
-/
import Derived.Test.YtdaalpiiagmdfaaNameDrop
import Derived.Test.YtdaalpiiagmdfaaNameSetP
namespace Go.Proofs.Ytdaalpiiagmdfaa
open Go.RowKit Go.Shelf

theorem set_right {m : List (List UInt8)} (h : setN m = true) : ∀ p ∈ m, rightN p = true := by
  intro p hp
  obtain ⟨i, hi, rfl⟩ := List.mem_iff_getElem.1 hp
  have := ((setN_at h).2 i hi).1
  rwa [getD_at hi] at this
theorem set_asc {m : List (List UInt8)} (h : setN m = true) : Asc nmC m := by
  refine List.pairwise_iff_getElem.2 fun i j hi hj hij => ?_
  have h1 := setN_le h i (j - 1 - i) (by omega)
  rw [show i + (j - 1 - i) = j - 1 by omega, getD_at hi, getD_at (show j - 1 < m.length by omega)] at h1
  have h2 := ((setN_at h).2 j hj).2 (by omega)
  rw [getD_at hj, getD_at (show j - 1 < m.length by omega), order_nmC _ (set_right h _ (List.getElem_mem hj))] at h2
  exact nmC_good.le_lt h1 h2
theorem set_len {m : List (List UInt8)} (h : setN m = true) : m.length ≤ 256 := (setN_at h).1
theorem look_at {m : List (List UInt8)} {s : List UInt8} (h1 : setN m = true) (h2 : rightN s = true) :
    lookAt m s ≤ m.length ∧ (∀ i, i < lookAt m s → nmC (m.getD i []) s < 0) ∧ ∀ i, lookAt m s ≤ i → i < m.length → 0 ≤ nmC (m.getD i []) s := by
  obtain ⟨a, b, c⟩ := lookAt_cut h1 h2
  refine ⟨a, fun i hi => ?_, fun i hi hl => ?_⟩
  · have := b i hi
    rw [← order_nmC _ h2]
    simpa using this
  · have := c i hi hl
    rw [← order_nmC _ h2]
    simpa using this
theorem look_mem {m : List (List UInt8)} {s : List UInt8} (h1 : setN m = true) (h2 : rightN s = true) : lookH m s = true ↔ s ∈ m := by
  obtain ⟨a, b, c⟩ := look_at h1 h2
  constructor
  · intro h
    obtain ⟨q1, q2⟩ := lookI_lt h
    rw [getD_at q1] at q2
    exact q2 ▸ List.getElem_mem q1
  · intro h
    obtain ⟨j, hj, rfl⟩ := List.mem_iff_getElem.1 h
    have h3 : lookAt m m[j] ≤ j := by
      apply Nat.le_of_not_lt
      intro hlt
      have := b j hlt
      rw [getD_at hj, nmC_good.refl] at this
      omega
    have h4 : lookAt m m[j] = j := by
      apply Nat.le_antisymm h3
      apply Nat.le_of_not_lt
      intro hlt
      have h5 := c (lookAt m m[j]) (Nat.le_refl _) (by omega)
      have h6 := List.pairwise_iff_getElem.1 (set_asc h1) (lookAt m m[j]) j (by omega) hj hlt
      rw [getD_at (show lookAt m m[j] < m.length by omega)] at h5
      omega
    unfold lookH
    rw [if_pos h1, if_pos h2, h4, getD_at hj]
    simp [hj]
theorem look_ok {m : List (List UInt8)} {s : List UInt8} (h1 : setN m = true) (h2 : rightN s = true) : lookE m s = 0 := by
  unfold lookE; rw [if_pos h1, if_pos h2]
/-- Add, where there is room, or the name is there. -/
theorem add_is {m : List (List UInt8)} {s : List UInt8} (h1 : setN m = true) (h2 : rightN s = true) (h3 : s ∈ m ∨ m.length < 256) :
    addE m s = 0 ∧ addV m s = setL nmC (s :: m) := by
  unfold addE addV
  rw [if_pos (look_ok h1 h2), if_pos (look_ok h1 h2)]
  by_cases hm : s ∈ m
  · rw [if_pos ((look_mem h1 h2).2 hm), if_pos ((look_mem h1 h2).2 hm)]
    exact ⟨rfl, setL_is nmC_good (set_asc h1) (fun x => by simp; intro h; exact h ▸ hm)⟩
  · have hH : ¬ lookH m s = true := fun h => hm ((look_mem h1 h2).1 h)
    have hl : ¬ m.length = 256 := by
      rcases h3 with h | h
      · exact absurd h hm
      · omega
    rw [if_neg hH, if_neg hl, if_neg hH, if_neg hl]
    refine ⟨rfl, setL_is nmC_good ?_ ?_⟩
    · obtain ⟨a, b, c⟩ := look_at h1 h2
      have hI : lookI m s = lookAt m s := by unfold lookI; rw [if_pos h1, if_pos h2]
      rw [hI]
      have hA := set_asc h1
      generalize lookAt m s = k at *
      unfold Asc at *
      rw [← List.take_append_drop k m] at hA
      obtain ⟨p1, p2, p3⟩ := List.pairwise_append.1 hA
      refine List.pairwise_append.2 ⟨p1, List.pairwise_cons.2 ⟨fun y hy => ?_, p2⟩, fun x hx y hy => ?_⟩
      · obtain ⟨j, hj, rfl⟩ := List.mem_iff_getElem.1 hy
        rw [List.getElem_drop]
        rw [List.length_drop] at hj
        have h5 := c (k + j) (by omega) (by omega)
        rw [getD_at (show k + j < m.length by omega)] at h5
        have h6 := nmC_good.anti m[k + j] s
        have h7 : nmC m[k + j] s ≠ 0 := fun e => hm (by rw [← nmC_good.eq _ _ e]; exact List.getElem_mem _)
        omega
      · rcases List.mem_cons.1 hy with rfl | hy
        · obtain ⟨j, hj, rfl⟩ := List.mem_iff_getElem.1 hx
          rw [List.getElem_take]
          rw [List.length_take] at hj
          have h5 := b j (by omega)
          rw [getD_at (show j < m.length by omega)] at h5
          exact h5
        · exact p3 x hx y hy
    · intro x
      conv => rhs; rw [List.mem_cons]
      rw [List.mem_append, List.mem_cons]
      constructor
      · rintro (h | rfl | h)
        · exact .inr (List.mem_of_mem_take h)
        · exact .inl rfl
        · exact .inr (List.mem_of_mem_drop h)
      · rintro (rfl | h)
        · exact .inr (.inl rfl)
        · rw [← List.take_append_drop (lookI m s) m, List.mem_append] at h
          rcases h with h | h
          · exact .inl h
          · exact .inr (.inr h)
theorem add_full {m : List (List UInt8)} {s : List UInt8} (h1 : setN m = true) (h2 : rightN s = true) (h3 : s ∉ m) (h4 : m.length = 256) : addE m s = 5 ∧ addV m s = [] := by
  have hH : ¬ lookH m s = true := fun h => h3 ((look_mem h1 h2).1 h)
  unfold addE addV
  rw [if_pos (look_ok h1 h2), if_pos (look_ok h1 h2), if_neg hH, if_neg hH, if_pos h4, if_pos h4]
  exact ⟨rfl, rfl⟩
/-- Drop of a name that is there: what is left. -/
theorem drop_is {m : List (List UInt8)} {s : List UInt8} (h1 : setN m = true) (h2 : s ∈ m) : dropE m s = 0 ∧ Asc nmC (dropV m s) ∧ (∀ z, z ∈ dropV m s ↔ z ∈ m ∧ z ≠ s) ∧ setN (dropV m s) = true := by
  have hr := set_right h1 s h2
  have hH := (look_mem h1 hr).2 h2
  obtain ⟨q1, q2⟩ := lookI_lt hH
  rw [getD_at q1] at q2
  unfold dropE dropV
  rw [if_pos (look_ok h1 hr), if_pos (look_ok h1 hr), if_pos hH, if_pos hH]
  have hA := set_asc h1
  have hl := set_len h1
  have hrr := set_right h1
  generalize lookI m s = k at *
  have hsplit : m = m.take k ++ s :: m.drop (k + 1) := by
    rw [← q2, ← List.drop_eq_getElem_cons q1, List.take_append_drop]
  have hA2 := hA
  unfold Asc at hA2
  rw [hsplit] at hA2
  obtain ⟨p1, p2, p3⟩ := List.pairwise_append.1 hA2
  obtain ⟨p4, p5⟩ := List.pairwise_cons.1 p2
  have hasc : Asc nmC (m.take k ++ m.drop (k + 1)) := List.pairwise_append.2 ⟨p1, p5, fun x hx y hy => p3 x hx y (List.mem_cons_of_mem _ hy)⟩
  have hmem : ∀ z, z ∈ m.take k ++ m.drop (k + 1) ↔ z ∈ m ∧ z ≠ s := by
    intro z
    rw [List.mem_append]
    constructor
    · rintro (h | h)
      · refine ⟨List.mem_of_mem_take h, fun e => ?_⟩
        have := p3 z h s (by simp)
        rw [e, nmC_good.refl] at this
        omega
      · refine ⟨List.mem_of_mem_drop h, fun e => ?_⟩
        have := p4 z h
        rw [e, nmC_good.refl] at this
        omega
    · rintro ⟨h, hne⟩
      rw [hsplit, List.mem_append, List.mem_cons] at h
      rcases h with h | h | h
      · exact .inl h
      · exact absurd h hne
      · exact .inr h
  exact ⟨rfl, hasc, hmem, setN_of hasc (fun p hp => hrr p ((hmem p).1 hp).1) (by rw [List.length_append, List.length_take, List.length_drop]; omega)⟩
end Go.Proofs.Ytdaalpiiagmdfaa
