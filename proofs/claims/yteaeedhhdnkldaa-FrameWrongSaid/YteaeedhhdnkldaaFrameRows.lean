/-
  HOW A SLICE OF SLICES OF BYTES THAT CAME IN READS.
-/
import Derived.Test.YteaeedhhdnkldaaFrame
import Derived.Test.YteaeedhhdnkldaaMade02
import Derived.Deep.Matrix
namespace Go.Proofs.Yteaeedhhdnkldaa
open Go.RowKit Pl

/-- A slice of slices of bytes that came in. -/
def IsRows (w : World) (a : Option Addr) (len cap : Nat) (A : Nat → Option Addr) (L C : Nat → Nat) (Z : Nat → List Int) : Prop :=
  (a = none ∧ len = 0 ∧ cap = 0) ∨
  ∃ x, a = some x ∧ len ≤ cap ∧ cap ≤ maxLen ∧ ∀ r, r < cap → w.cell? (x.add r) = some (.slice (A r) (L r) (C r)) ∧ IsRow .u8 w (A r) (L r) (C r) (Z r)
theorem isRow_of {w : World} {A : Option Addr} {L C : Nat} {Z : List Int} {base : Nat} (h1 : L ≤ C) (h2 : C ≤ maxLen) (h3 : Z.length = C) (h4 : ∀ n ∈ Z, (Lit.int .u8 n).wf = true) (h5 : A = none → C = 0) (h6 : ∀ a', A = some a' → base ≤ a'.block ∧ ∀ c, c < C → w.cell? (a'.add c) = some (.int .u8 (Z.getD c 0))) : IsRow .u8 w A L C Z := by
  cases A with
  | none =>
    have := h5 rfl
    subst this
    exact .inl ⟨rfl, by omega, rfl, List.eq_nil_of_length_eq_zero h3⟩
  | some a' => exact .inr ⟨a', rfl, h1, h2, h3, fun i hi => (h6 a' rfl).2 i (by omega), h4⟩
theorem isRows_texts {w : World} {a : Option Addr} {len cap : Nat} {A : Nat → Option Addr} {L C : Nat → Nat} {Z : Nat → List Int} (h : IsRows w a len cap A L C Z) : ∃ T : List (List Nat), T.length = len ∧ TRow w (.slice a len cap) T := by
  rcases h with ⟨rfl, rfl, rfl⟩ | ⟨x, rfl, hl, hm, hr⟩
  · exact ⟨[], rfl, .inl ⟨none, 0, rfl, rfl, Nat.zero_le _⟩⟩
  · have hex : ∀ r, ∃ l : List Nat, r < cap → l.length = L r ∧ BRow w (.slice (A r) (L r) (C r)) l := fun r => by
      by_cases hrc : r < cap
      · obtain ⟨l, h1, h2⟩ := isRow_bytes (hr r hrc).2
        exact ⟨l, fun _ => ⟨h1, h2⟩⟩
      · exact ⟨[], fun h => absurd h hrc⟩
    obtain ⟨F, hF⟩ := Classical.axiomOfChoice hex
    have hlen : ((List.range len).map F).length = len := by simp
    refine ⟨(List.range len).map F, hlen, ?_⟩
    by_cases h0 : len = 0
    · subst h0
      exact .inl ⟨some x, cap, rfl, rfl, hm⟩
    · obtain ⟨b, off, sp⟩ := x
      have hc0 := (hr 0 (by omega)).1
      have hsp : sp = none := by simpa [Addr.add] using World.cell?_spot hc0
      subst hsp
      refine .inr ⟨b, off, cap, A, C, by rw [hlen], by rw [hlen]; exact hl, hm, fun i hi => ?_⟩
      rw [hlen] at hi
      have hci := (hr i (by omega)).1
      have hadd : (⟨b, off, none⟩ : Addr).add i = ⟨b, off + i, none⟩ := by unfold Addr.add; split <;> simp_all
      rw [hadd] at hci
      have e : ((List.range len).map F).getD i [] = F i := by simp [List.getD_eq_getElem?_getD, hi]
      rw [e]
      obtain ⟨e1, e2⟩ := hF i (by omega)
      rw [e1]
      exact ⟨hci, e2⟩
end Go.Proofs.Yteaeedhhdnkldaa
