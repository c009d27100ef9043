/-
  CONTRACTS of the reference of layer 3: Dead, Tells; nothing that was there is written.
-/
import Derived.Test.YtlohggdabpfkhaaReads03
namespace Go.Proofs.Ytlohggdabpfkhaa
open Go.RowKit Go.Shelf Pl

set_option maxRecDepth 100000 in
set_option maxHeartbeats 1000000 in
theorem refDead3_calls (R : Value) (P : List Nat) (w : World) (hR : BRow w R P) (hlen : P.length ≤ 1000000) :
    Calls Try.prog 83 #[.agg #[R]] w fun e w' => e = .returned (.bool (splE P == 31)) ∧ Below w.heap.size w w' := by
  obtain ⟨a, c, rfl⟩ := hR.shape
  have hA := (Below.refl w.heap.size w).alloc (Nat.le_refl _) (.cells #[.slice a P.length c] 120)
  have HS := Lib.hid (refSplit3_calls _ P _ (hR.below hA) hlen)
  have HA := Lib.hid hA
  have hs : ((splE P : Int) == 31) = (splE P == 31) := by rw [Bool.eq_iff_iff, beq_iff_eq, beq_iff_eq]; omega
  clear hR hA
  go_enter Try.func83, Try.ntmps83
  go_wp2_with fail
  refine HS.out.mono ?_
  rintro e w1 ⟨v1, rfl, -, hb1⟩
  have HB1 := Lib.hid (HA.out.trans (hb1.mono HA.out.size))
  clear hb1
  go_wp2
  go_ret
  exact ⟨by first | rfl | rw [hs], HB1.out⟩

set_option maxRecDepth 100000 in
set_option maxHeartbeats 1000000 in
theorem refTells3_calls (R : Value) (P : List Nat) (base : Nat) (w : World) (hR : Own8 w base R P) (hP : AllB P) (hlen : P.length ≤ 1000000) :
    Calls Try.prog 82 #[.agg #[R]] w fun e w' => e = .returned (.tuple #[.int .i64 (if splE P = 31 then 0 else P.length - splS P : Nat), .int .i64 (if splE P = 31 then 0 else fneed (P.drop (splS P)) : Nat), .int .i64 ((splB P).length : Nat)]) ∧ Below w.heap.size w w' := by
  have hsl := splB_length P
  have hsS := splS_le P
  have hB := BRow.of_own hR hP
  have hs31 : splE P = 31 → ((splE P : Int) == 31) = true := fun h => by rw [beq_iff_eq]; omega
  have hs0 : splE P ≠ 31 → ((splE P : Int) == 31) = false := fun h => by rw [beq_eq_false_iff_ne]; omega
  have main : ∀ a c, R = .slice a P.length c → ((a = none ∧ P.length = 0 ∧ c = 0) ∨ (∃ g, a = some ⟨g, 0, none⟩) ∧ P.length ≤ c ∧ c ≤ maxLen) → Calls Try.prog 82 #[.agg #[R]] w fun e w' => e = .returned (.tuple #[.int .i64 (if splE P = 31 then 0 else P.length - splS P : Nat), .int .i64 (if splE P = 31 then 0 else fneed (P.drop (splS P)) : Nat), .int .i64 ((splB P).length : Nat)]) ∧ Below w.heap.size w w' := by
    rintro a c rfl hq
    have hA := (Below.refl w.heap.size w).alloc (Nat.le_refl _) (.cells #[.slice a P.length c] 120)
    have HS := Lib.hid (refSplit3_calls _ P _ (hB.below hA) hlen)
    have HA := Lib.hid hA
    have HBr := Lib.hid (hB.below hA)
    have HOw := Lib.hid hR
    by_cases h31 : splE P = 31
    · have e1 := hs31 h31
      rw [if_pos h31, if_pos h31]
      clear hB hR hA hs31 hs0 h31 hq
      go_enter Try.func82, Try.ntmps82
      go_wp2_with fail
      refine HS.out.mono ?_
      rintro e w1 ⟨v1, rfl, ⟨V, hV, -⟩, hb1⟩
      obtain ⟨a1, c1, rfl⟩ := owns_shape hV
      have HB1 := Lib.hid (HA.out.trans (hb1.mono HA.out.size))
      clear hb1 hV
      go_wp2
      go_ret3
      exact ⟨by rfl, HB1.out⟩
    · have e1 := hs0 h31
      rw [if_neg h31, if_neg h31]
      have hcell : ∀ w', Below (w.alloc (.cells #[.slice a P.length c] 120)).heap.size (w.alloc (.cells #[.slice a P.length c] 120)) w' → w'.cell? ⟨w.heap.size, 0, none⟩ = some (.slice a P.length c) := fun w' hb => by
        have h1 := World.alloc_heap_new w (.cells #[.slice a P.length c] 120)
        have h2 := (hb.block w.heap.size (by simp)).trans h1
        simp [World.cell?, h2]
      have HC := Lib.hid hcell
      clear hs31 hs0 h31 hA hcell hB hR
      have hcm : P.length ≤ c ∧ c ≤ maxLen := by
        rcases hq with ⟨_, h1, h2⟩ | ⟨_, h1, h2⟩
        · exact ⟨by omega, by unfold maxLen; omega⟩
        · exact ⟨h1, h2⟩
      obtain ⟨hc1, hc2⟩ := hcm
      unfold maxLen at hc2
      have hn1 : (splS P : Int) ≤ (P.length : Int) := by omega
      have hn2 : (splS P : Int) ≤ (c : Int) := by omega
      have hsub : ((P.length - splS P : Nat) : Int) = (P.length : Int) - (splS P : Int) := by omega
      by_cases hck : c = splS P
      · have hd : P.drop (splS P) = [] := List.drop_eq_nil_of_le (by omega)
        rw [hd]
        have HNd := Lib.hid (fun (W : World) (A : Option Addr) (n c' : Nat) (h1 : n = 0) (h2 : c' ≤ c) => show Calls Try.prog 77 #[.slice A n c'] W _ from by subst h1; exact refNeed3_calls _ [] W (BRow.empty _ _ (by unfold maxLen; omega)))
        clear hd hq
        subst hck
        go_enter Try.func82, Try.ntmps82
        go_wp2_with fail
        refine HS.out.mono ?_
        rintro e w1 ⟨v1, rfl, ⟨V, hV, -⟩, hb1⟩
        obtain ⟨a1, c1, rfl⟩ := owns_shape hV
        have HB1 := Lib.hid (HA.out.trans (hb1.mono HA.out.size))
        have hcl := HC.out _ hb1
        have HC1 := Lib.hid (fun w' (hb : Below w1.heap.size w1 w') => HC.out w' (hb1.trans (hb.mono hb1.size)))
        clear hb1 hV
        go_wp2_with fail
        refine (HNd.out _ _ _ _ (by omega) (by omega)).mono ?_
        rintro e w2 ⟨rfl, hb2⟩
        have hcl2 := HC1.out _ hb2
        have HB2 := Lib.hid (HB1.out.trans (hb2.mono HB1.out.size))
        clear hb2
        go_wp2
        go_ret3
        exact ⟨ret_int3' (by omega) rfl rfl, HB2.out⟩
      · obtain ⟨g, rfl⟩ : ∃ g, a = some ⟨g, 0, none⟩ := by
          rcases hq with ⟨_, h1, h2⟩ | ⟨h, _⟩
          · omega
          · exact h
        have HNd := Lib.hid (fun (W : World) (hb : BRow W (.slice (some ⟨g, 0, none⟩) P.length c) P) => refNeed3_calls (.slice (some ⟨g, splS P, none⟩) (P.length - splS P) (c - splS P)) (P.drop (splS P)) W (hb.drop _ _ _ _ hsS (by omega) rfl (by omega) (by unfold maxLen; omega)))
        clear hq
        go_enter Try.func82, Try.ntmps82
        go_wp2_with fail
        refine HS.out.mono ?_
        rintro e w1 ⟨v1, rfl, ⟨V, hV, -⟩, hb1⟩
        obtain ⟨a1, c1, rfl⟩ := owns_shape hV
        have HB1 := Lib.hid (HA.out.trans (hb1.mono HA.out.size))
        have hcl := HC.out _ hb1
        have HBr1 := Lib.hid (HBr.out.below hb1)
        have HC1 := Lib.hid (fun w' (hb : Below w1.heap.size w1 w') => HC.out w' (hb1.trans (hb.mono hb1.size)))
        clear hb1 hV
        go_wp2_with fail
        refine (HNd.out _ HBr1.out).mono ?_
        rintro e w2 ⟨rfl, hb2⟩
        have hcl2 := HC1.out _ hb2
        have HB2 := Lib.hid (HB1.out.trans (hb2.mono HB1.out.size))
        clear hb2
        go_wp2
        go_ret3
        exact ⟨ret_int3' (by omega) rfl rfl, HB2.out⟩
  rcases hR.2 with ⟨rfl, h0⟩ | ⟨g, cap, cur, rfl, -, -, h1, h2, -⟩
  · have h0' : P.length = 0 := h0
    exact main none 0 (by rw [h0']) (.inl ⟨rfl, h0', rfl⟩)
  · exact main _ _ rfl (.inr ⟨⟨g, rfl⟩, h1, h2⟩)
end Go.Proofs.Ytlohggdabpfkhaa
