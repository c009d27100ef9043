/-
  PLAIN: the bytes of forms of fields; different records have different forms; what Made makes reads as fields.
-/
import Derived.Test.YtlohggdabpfkhaaTheirs02
import Derived.Test.YtlohggdabpfkhaaFieldPlain
namespace Go.Proofs.Ytlohggdabpfkhaa
open Go.RowKit Pl

theorem recF_allB (L : List Fld) (h : ∀ p ∈ L, p.1.toNat < 256 ∧ AllB p.2) : AllB (recF L) := by
  induction L with
  | nil => intro d hd; simp [recF] at hd
  | cons p L ih =>
    rw [recF_cons]
    intro d hd
    rcases List.mem_append.1 hd with hd | hd
    · have hp := h p (by simp)
      unfold recOne at hd
      rcases List.mem_cons.1 hd with rfl | hd
      · exact hp.1
      · rcases List.mem_append.1 hd with hd | hd
        · exact form_allB _ d hd
        · exact hp.2 d hd
    · exact ih (fun q hq => h q (by simp [hq])) d hd
theorem recF_parts (L : List Fld) (h : AllB (recF L)) : ∀ p ∈ L, AllB p.2 := by
  induction L with
  | nil => intro p hp; simp at hp
  | cons q L ih =>
    rw [recF_cons] at h
    intro p hp
    rcases List.mem_cons.1 hp with rfl | hp
    · intro d hd
      exact h d (by simp [recOne, hd])
    · exact ih (fun d hd => h d (by simp [hd])) p hp
theorem fb_mem_allB {L : List Fld} (h : ∀ p ∈ L, AllB p.2) : ∀ i < L.length, AllB (fb L i) := fun _ hi => h _ (fld_mem hi)
theorem right_tags {L : List Fld} (h : rightF L = true) : ∀ p ∈ L, 0 < p.1 ∧ p.1 ≤ 200 := tagsF_mem L 0 ((rightF_iff L).1 h).2.1
theorem right_tag64 {L : List Fld} (h : rightF L = true) : ∀ p ∈ L, Tag64 p.1 := fun p hp => by have := right_tags h p hp; unfold Tag64; omega
theorem right_length {L : List Fld} (h : rightF L = true) : (recF L).length ≤ 17024 := by
  have := (rightF_iff L).1 h
  have := recF_length L
  omega
theorem right_allB {L : List Fld} (h : rightF L = true) (hb : ∀ p ∈ L, AllB p.2) : AllB (recF L) := recF_allB L fun p hp => ⟨by have := right_tags h p hp; omega, hb p hp⟩
theorem right_lens {L : List Fld} (h : rightF L = true) : L.length ≤ 64 ∧ ∀ i < L.length, (fb L i).length ≤ 16384 := by
  have h3 := (rightF_iff L).1 h
  exact ⟨h3.1, fun i hi => by have := sumB_mem L _ (fld_mem hi); dsimp only at this; omega⟩
theorem recF_inj {K L : List Fld} (hK : rightF K = true) (hL : rightF L = true) : recF K = recF L ↔ K = L := by
  constructor
  · intro e
    have h1 := (read_form K hK).2
    have h2 := (read_form L hL).2
    rw [← h1, e, h2]
  · rintro rfl; rfl
theorem txU_allB {T : List (List Nat)} (h : ∀ t ∈ T, AllB t) (k : Nat) : AllB (txU T k) := by
  unfold txU
  by_cases h0 : T.length = 0
  · rw [if_pos h0]; intro d hd; simp at hd
  · rw [if_neg h0]
    have hlt : k % T.length < T.length := Nat.mod_lt _ (by omega)
    have e : T.getD (k % T.length) [] = T[k % T.length] := by simp [List.getD_eq_getElem?_getD, hlt]
    rw [e]
    exact (h _ (List.getElem_mem hlt)).take _
theorem made_allB {gaps : List Nat} {T : List (List Nat)} (h : ∀ t ∈ T, AllB t) : ∀ p ∈ madeF gaps T, AllB p.2 := by
  intro p hp
  simp only [madeF, madeU, List.mem_map] at hp
  obtain ⟨i, _, rfl⟩ := hp
  exact txU_allB h i
theorem TRow.allB {w : World} {v : Value} {T : List (List Nat)} (h : TRow w v T) : ∀ t ∈ T, AllB t := by
  intro t ht
  obtain ⟨_, _, _, rfl, _⟩ | ⟨b, off, cap, A, C, _, _, _, h3⟩ := h
  · simp at ht
  · obtain ⟨i, hi, rfl⟩ := List.getElem_of_mem ht
    have := (h3 i hi).2.1
    simpa [List.getD_eq_getElem?_getD, hi] using this
theorem made_row {w : World} {base : Nat} {v : Value} {gaps : List Nat} {T : List (List Nat)} (hT : ∀ t ∈ T, AllB t) (h : FOwn w base v (madeF gaps T)) : FRow w v (madeF gaps T) :=
  h.row (right_tag64 (madeF_right gaps T)) (fb_mem_allB (made_allB hT))
theorem made_len (gaps : List Nat) (T : List (List Nat)) : (recF (madeF gaps T)).length ≤ 2200 := by
  have h1 := recF_length (madeF gaps T)
  have h2 := (madeU_right gaps T (min gaps.length 20) (Nat.min_le_right _ _)).2.1
  have h3 := madeU_length gaps T (min gaps.length 20)
  have h4 := Nat.min_le_right gaps.length 20
  unfold madeF at *
  omega
end Go.Proofs.Ytlohggdabpfkhaa
