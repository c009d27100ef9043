/-
  PLAIN FACTS on the sets that Of makes, and on Range in them.
-/
import Derived.Test.YtdaalpiiagmdfaaNameOfC
import Derived.Test.YtdaalpiiagmdfaaNameMades
import Derived.Test.YtdaalpiiagmdfaaNameRange
namespace Go.Proofs.Ytdaalpiiagmdfaa
open Go.RowKit Go.Shelf

theorem ins_len (g : List UInt8 → List UInt8 → Int) (x : List UInt8) : ∀ l : List (List UInt8), (insG g x l).length ≤ l.length + 1
  | [] => by simp [insG]
  | y :: ys => by
    have := ins_len g x ys
    unfold insG
    split
    · simp
    · split
      · simp
      · simp; omega
theorem setL_len (g : List UInt8 → List UInt8 → Int) : ∀ l : List (List UInt8), (setL g l).length ≤ l.length
  | [] => by simp [setL]
  | x :: l => by
    have := setL_len g l
    have h2 := ins_len g x (setL g l)
    show (insG g x (setL g l)).length ≤ _
    simp; omega
theorem setN_of {m : List (List UInt8)} (ha : Asc nmC m) (hr : ∀ p ∈ m, rightN p = true) (hl : m.length ≤ 256) : setN m = true := by
  unfold setN
  rw [decide_eq_true hl, Bool.true_and, List.all_eq_true]
  intro i hi
  have hi := List.mem_range.1 hi
  unfold setAt
  have e1 : m.getD i [] = m[i] := by rw [List.getD_eq_getElem?_getD, List.getElem?_eq_getElem hi]; rfl
  rw [e1, hr _ (List.getElem_mem hi), Bool.true_and]
  by_cases h0 : i = 0
  · rw [decide_eq_true h0]; rfl
  · have e2 : m.getD (i - 1) [] = m[i - 1] := by rw [List.getD_eq_getElem?_getD, List.getElem?_eq_getElem (by omega)]; rfl
    rw [e2, order_nmC _ (hr _ (List.getElem_mem hi))]
    have := List.pairwise_iff_getElem.1 ha (i - 1) i (by omega) hi (by omega)
    rw [decide_eq_true this, Bool.or_true]
theorem setL_set {l : List (List UInt8)} (hr : ∀ p ∈ l, rightN p = true) (hl : l.length ≤ 256) : setN (setL nmC l) = true :=
  setN_of (setL_asc nmC_good l) (fun p hp => hr p ((setL_mem nmC_good l p).1 hp)) (by have := setL_len nmC l; omega)
theorem mades_right (l : List Nat) : ∀ p ∈ mades l, rightN p = true := by
  intro p hp
  unfold mades at hp
  obtain ⟨n, _, rfl⟩ := List.mem_map.1 hp
  exact made_right n
theorem mades_len (l : List Nat) : (mades l).length ≤ 40 := by unfold mades; rw [List.length_map, List.length_take]; omega
theorem of_mades (l : List Nat) : ofE (mades l) = 0 ∧ ofV (mades l) = setL nmC (mades l) := by
  have h1 := setL_len nmC (mades l)
  have h2 := mades_len l
  have e : ofE (mades l) = 0 := by
    unfold ofE
    rw [if_pos (List.all_eq_true.2 (mades_right l)), if_pos (by omega)]
  exact ⟨e, by unfold ofV; rw [if_pos e]⟩
theorem getD_at {m : List (List UInt8)} {i : Nat} (hi : i < m.length) : m.getD i [] = m[i] := by
  rw [List.getD_eq_getElem?_getD, List.getElem?_eq_getElem hi]; rfl
/-- Where the names under a name lie. -/
theorem range_is {m : List (List UInt8)} {s : List UInt8} (h1 : setN m = true) (h2 : rightN s = true) :
    lookE m s = 0 ∧ lookI m s + rangeN m s ≤ m.length ∧ (lookH m s = true → 0 < rangeN m s) ∧ ∀ i (hi : i < m.length), underN m[i] s = decide (lookI m s ≤ i ∧ i < lookI m s + rangeN m s) := by
  have eI : lookI m s = lookAt m s := by unfold lookI; rw [if_pos h1, if_pos h2]
  have eR : rangeN m s = firstN (m.drop (lookAt m s)).length (fun i => !undN ((m.drop (lookAt m s)).getD i []) s) := by unfold rangeN; rw [if_pos h1, if_pos h2]
  have eH : lookH m s = (decide (lookAt m s < m.length) && decide (m.getD (lookAt m s) [] = s)) := by unfold lookH; rw [if_pos h1, if_pos h2]
  obtain ⟨l1, l2, l3⟩ := lookAt_cut h1 h2
  have hdrop : ∀ i, i < (m.drop (lookAt m s)).length → (m.drop (lookAt m s)).getD i [] = m.getD (lookAt m s + i) [] := fun i hi => by
    rw [List.getD_eq_getElem?_getD, List.getD_eq_getElem?_getD, List.getElem?_drop]
  have hdl : (m.drop (lookAt m s)).length = m.length - lookAt m s := List.length_drop
  obtain ⟨f1, f2, f3⟩ := firstN_le (m.drop (lookAt m s)).length (fun i => !undN ((m.drop (lookAt m s)).getD i []) s) (fun a b hab hb hq => by
    simp only [Bool.not_eq_true'] at hq ⊢
    rw [hdrop a (by omega)] at hq
    rw [hdrop b hb]
    rw [Bool.eq_false_iff]
    intro hh
    rw [under_mono h1 h2 a b hab (by omega) hh] at hq
    cases hq)
  rw [← eR] at f1 f2 f3
  have hright : ∀ i (hi : i < m.length), rightN m[i] = true := fun i hi => by
    have := ((setN_at h1).2 i hi).1
    rwa [getD_at hi] at this
  have hund : ∀ i (hi : i < m.length), underN m[i] s = undN m[i] s := fun i hi => by unfold underN; rw [hright i hi, h2]; rfl
  refine ⟨by unfold lookE; rw [if_pos h1, if_pos h2], by rw [eI]; omega, ?_, ?_⟩
  · intro hH
    rw [eH, Bool.and_eq_true] at hH
    have g1 := of_decide_eq_true hH.1
    have g2 := of_decide_eq_true hH.2
    by_cases h0 : rangeN m s = 0
    · have := f3 0 (by omega) (by omega)
      simp only [Bool.not_eq_true'] at this
      rw [hdrop 0 (by omega), Nat.add_zero, g2] at this
      rw [(undN_iff s s).2 (List.prefix_refl _)] at this
      cases this
    · omega
  · intro i hi
    rw [hund i hi, eI]
    by_cases hlo : lookAt m s ≤ i
    · obtain ⟨j, rfl⟩ : ∃ j, i = lookAt m s + j := ⟨i - lookAt m s, by omega⟩
      by_cases hj : j < rangeN m s
      · have := f2 j hj
        simp only [Bool.not_eq_false'] at this
        rw [hdrop j (by omega), getD_at hi] at this
        rw [this, decide_eq_true ⟨by omega, by omega⟩]
      · have := f3 j (by omega) (by omega)
        simp only [Bool.not_eq_true'] at this
        rw [hdrop j (by omega), getD_at hi] at this
        rw [this, decide_eq_false (by omega)]
    · rw [decide_eq_false (by omega), Bool.eq_false_iff]
      intro hh
      have := l2 i (by omega)
      rw [getD_at hi] at this
      have := und_ge (hright i hi) h2 hh
      omega
end Go.Proofs.Ytdaalpiiagmdfaa
