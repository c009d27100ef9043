/-
  PLAIN FACTS for NameSorted.
-/
import Derived.Test.YtdaalpiiagmdfaaNameAddP
import Derived.Test.YtdaalpiiagmdfaaNameMades
namespace Go.Proofs.Ytdaalpiiagmdfaa
open Go.RowKit Go.Shelf

theorem lexC_sign {α : Type} {f : α → α → Int} (hf : ∀ a b, f a b = -1 ∨ f a b = 0 ∨ f a b = 1) : ∀ a b : List α, lexC f a b = -1 ∨ lexC f a b = 0 ∨ lexC f a b = 1
  | [], [] => .inr (.inl rfl)
  | [], _ :: _ => .inl rfl
  | _ :: _, [] => .inr (.inr rfl)
  | a :: l, b :: m => by
    have ih := lexC_sign hf l m
    have h := hf a b
    unfold lexC
    split
    · first | exact h | exact ih
    · first | exact ih | exact h
theorem nmC_sign (a b : List UInt8) : nmC a b = -1 ∨ nmC a b = 0 ∨ nmC a b = 1 := by
  refine lexC_sign (fun x y => ?_) _ _
  rw [compareBytes_lex]
  refine lexC_sign (fun p q => ?_) _ _
  unfold byteC
  split
  · exact .inl rfl
  · split
    · exact .inr (.inr rfl)
    · exact .inr (.inl rfl)
theorem setL_same {xs ys : List (List UInt8)} (h : ∀ z, z ∈ xs ↔ z ∈ ys) : setL nmC xs = setL nmC ys :=
  setL_is nmC_good (setL_asc nmC_good xs) (fun x => (setL_mem nmC_good xs x).trans (h x))
theorem setL_more (s : List UInt8) (xs : List (List UInt8)) : setL nmC (s :: setL nmC xs) = setL nmC (s :: xs) :=
  setL_same (fun z => by rw [List.mem_cons, List.mem_cons, setL_mem nmC_good])
theorem look_idx {m : List (List UInt8)} (h1 : setN m = true) {j : Nat} (hj : j < m.length) : lookI m m[j] = j ∧ lookH m m[j] = true := by
  have hr := set_right h1 _ (List.getElem_mem hj)
  have hH := (look_mem h1 hr).2 (List.getElem_mem hj)
  refine ⟨?_, hH⟩
  obtain ⟨q1, q2⟩ := lookI_lt hH
  rw [getD_at q1] at q2
  have hA := List.pairwise_iff_getElem.1 (set_asc h1)
  rcases Nat.lt_trichotomy (lookI m m[j]) j with h | h | h
  · have := hA _ _ q1 hj h
    rw [q2, nmC_good.refl] at this
    omega
  · exact h
  · have := hA _ _ hj q1 h
    rw [q2, nmC_good.refl] at this
    omega
theorem cmp_set {m : List (List UInt8)} (h1 : setN m = true) {i : Nat} (hi : i + 1 < m.length) : compareN m[i] m[i + 1] = -1 ∧ compareE m[i] m[i + 1] = 0 := by
  have r1 := set_right h1 _ (List.getElem_mem (show i < m.length by omega))
  have r2 := set_right h1 _ (List.getElem_mem hi)
  have hlt := List.pairwise_iff_getElem.1 (set_asc h1) i (i + 1) (by omega) hi (by omega)
  unfold compareN compareE
  rw [r1, r2, order_nmC _ r2]
  rcases nmC_sign m[i] m[i + 1] with h | h | h
  · exact ⟨by simp [h], rfl⟩
  · omega
  · omega
/-- One name more, and without it again. -/
theorem more_less {S : List (List UInt8)} {o : List UInt8} (h1 : setN S = true) (h2 : rightN o = true) (h3 : S.length < 200) :
    ∃ Wt Wo : List (List UInt8), addE S o = 0 ∧ addV S o = Wt ∧ dropE Wt o = 0 ∧ dropV Wt o = Wo ∧ dropE Wo o = 6 ∧ dropV Wo o = [] ∧ addE Wo o = 0 ∧ addV Wo o = Wt
      ∧ decide (Wt = S) = lookH S o ∧ (lookH S o = false → Wo = S) ∧ Wt.length ≤ S.length + 1 ∧ Wo.length ≤ S.length + 1 ∧ (∀ p ∈ Wt, rightN p = true) ∧ (∀ p ∈ Wo, rightN p = true) := by
  obtain ⟨a1, a2⟩ := add_is h1 h2 (.inr (by omega))
  obtain ⟨Wt, hWt⟩ : ∃ Wt, Wt = setL nmC (o :: S) := ⟨_, rfl⟩
  have hmW : ∀ z, z ∈ Wt ↔ z = o ∨ z ∈ S := fun z => by rw [hWt, setL_mem nmC_good, List.mem_cons]
  have hlW : Wt.length ≤ S.length + 1 := by rw [hWt]; exact setL_len nmC (o :: S)
  have hrW : ∀ p ∈ Wt, rightN p = true := fun p hp => by
    rcases (hmW p).1 hp with rfl | h
    · exact h2
    · exact set_right h1 p h
  have hsW : setN Wt = true := setN_of (by rw [hWt]; exact setL_asc nmC_good _) hrW (by omega)
  have hoW : o ∈ Wt := (hmW o).2 (.inl rfl)
  obtain ⟨d1, d2, d3, d4⟩ := drop_is hsW hoW
  obtain ⟨Wo, hWo⟩ : ∃ Wo, Wo = dropV Wt o := ⟨_, rfl⟩
  rw [← hWo] at d2 d3 d4
  have hlo : Wo.length ≤ S.length + 1 := by
    rw [hWo]
    unfold dropV
    split
    · split
      · rename_i hH
        have := (lookI_lt hH).1
        rw [List.length_append, List.length_take, List.length_drop]; omega
      · exact Nat.zero_le _
    · exact Nat.zero_le _
  have hnot : o ∉ Wo := fun h => ((d3 o).1 h).2 rfl
  have hH0 : ¬ lookH Wo o = true := fun h => hnot ((look_mem d4 h2).1 h)
  obtain ⟨b1, b2⟩ := add_is d4 h2 (.inr (by omega))
  refine ⟨Wt, Wo, a1, by rw [a2, hWt], d1, hWo.symm, ?_, ?_, b1, ?_, ?_, ?_, hlW, hlo, hrW, set_right d4⟩
  · unfold dropE; rw [if_pos (look_ok d4 h2), if_neg hH0]
  · unfold dropV; rw [if_pos (look_ok d4 h2), if_neg hH0]
  · rw [b2, hWt]
    refine setL_same (fun z => ?_)
    rw [List.mem_cons, List.mem_cons, d3, hmW]
    constructor
    · rintro (h | ⟨h | h, _⟩)
      · exact .inl h
      · exact .inl h
      · exact .inr h
    · rintro (h | h)
      · exact .inl h
      · by_cases hz : z = o
        · exact .inl hz
        · exact .inr ⟨.inr h, hz⟩
  · rw [Bool.eq_iff_iff, decide_eq_true_eq, look_mem h1 h2]
    constructor
    · intro h; rw [← h]; exact hoW
    · intro h
      rw [hWt]
      exact (setL_is nmC_good (set_asc h1) (fun z => by simp; intro e; exact e ▸ h)).symm
  · intro hf
    refine asc_unique nmC_good _ _ d2 (set_asc h1) (fun z => ?_)
    rw [d3, hmW]
    constructor
    · rintro ⟨h | h, hne⟩
      · exact absurd h hne
      · exact h
    · intro h
      refine ⟨.inr h, fun e => ?_⟩
      have := (look_mem h1 h2).2 (e ▸ h)
      rw [hf] at this
      cases this
end Go.Proofs.Ytdaalpiiagmdfaa
