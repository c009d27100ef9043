/-
  WHAT THE LAWS ABOUT HEAPS BEGIN WITH; the index of an array of bools; what HeapTrees asks.
-/
import Derived.Test.YtjnocijfjkbaiaaMadeS
namespace Go.Proofs.Ytjnocijfjkbaiaa
open Go.RowKit Go.Shelf

theorem run_index_t (T : Nat → Bool) (k : Nat) (hk : k < 24) (w : World) : (Instr.index 54 (.agg (tcs T)) (.int .i64 (k : Int))).run Try.prog w = .ok (.bool (T k)) w := by
  have h1 : (0 : Int) ≤ (k : Int) ∧ (k : Int) < ((24 : Nat) : Int) := by omega
  have hg := tcs_get T k hk
  simp [Instr.index, asIntOf, Sem.run_bind, run_underlying Try.underlying54, h1, part, Try.isAgg4, Try.sizeOf4, hg]
  intro h
  omega
/-- What is there, less the first k places of the tree. -/
def lessT (T : Nat → Bool) (t : List En) (k : Nat) : Nat → Bool := fun p => T p && !((t.take k).any fun e => e.2 == p)
theorem lessT_zero (T : Nat → Bool) (t : List En) : lessT T t 0 = T := by
  funext p; simp [lessT]
theorem take_any (t : List En) (k : Nat) (hk : k < t.length) (p : Nat) : ((t.take (k + 1)).any fun e => e.2 == p) = (((t.take k).any fun e => e.2 == p) || (en t k).2 == p) := by
  have e : t.take (k + 1) = t.take k ++ [en t k] := by rw [List.take_add_one, en_get hk]; rfl
  rw [e, List.any_append]
  simp
theorem lessT_succ (T : Nat → Bool) (t : List En) (k : Nat) (hk : k < t.length) : setF (lessT T t k) (en t k).2 false = lessT T t (k + 1) := by
  funext p
  unfold setF lessT
  rw [take_any t k hk]
  by_cases c : p = (en t k).2
  · simp [c]
  · have : ((en t k).2 == p) = false := by simp; exact fun e => c e.symm
    rw [if_neg c, this, Bool.or_false]
section
variable {K : Nat → Ky} {T : Nat → Bool} {t : List En} {ix : Nat → Int} {n : Nat}
theorem has_en (hm : Has t (mKT K T)) (i : Nat) (hi : i < t.length) : T (en t i).2 = true ∧ K (en t i).2 = (en t i).1 := by
  have := (hm (en t i).2 (en t i).1).2 (en_mem hi)
  unfold mKT at this
  split at this
  · rename_i c; exact ⟨c, by simpa using this⟩
  · cases this
theorem lessT_here (hm : Has t (mKT K T)) (ha : Agr n t ix) (k : Nat) (hk : k < t.length) : lessT T t k (en t k).2 = true := by
  unfold lessT
  rw [(has_en hm k hk).1, Bool.true_and]
  have : ((t.take k).any fun e => e.2 == (en t k).2) = false := by
    rw [List.any_eq_false]
    intro e he c
    obtain ⟨i, hi, rfl⟩ := mem_en he
    rw [List.length_take] at hi
    rw [en_take _ _ _ (by omega)] at c
    have := ha.inj (show i < t.length by omega) hk (by simpa using c)
    omega
  rw [this]; rfl
theorem lessT_all (hm : Has t (mKT K T)) (p : Nat) : lessT T t t.length p = false := by
  unfold lessT
  rw [List.take_length]
  cases hT : T p with
  | false => rfl
  | true =>
    have h1 : (K p, p) ∈ t := (hm p (K p)).1 (by unfold mKT; rw [if_pos hT])
    have : (t.any fun e => e.2 == p) = true := List.any_eq_true.2 ⟨_, h1, by simp⟩
    rw [this]; rfl
/-- The one above comes before: by keys, and then by places. -/
theorem up_le (hm : Has t (mKT K T)) (ha : Agr n t ix) (ho : HOrd t) (k : Nat) (hk : k < t.length) (h1 : 1 ≤ k) : cfK (K (en t ((k - 1) / 4)).2) (K (en t k).2) < 0 ∨ (cfK (K (en t ((k - 1) / 4)).2) (K (en t k).2) = 0 ∧ (en t ((k - 1) / 4)).2 < (en t k).2) := by
  have hu : (k - 1) / 4 < t.length := by omega
  rw [(has_en hm k hk).2, (has_en hm _ hu).2]
  have hle := ho k h1 hk
  rcases ltE_tri (en t ((k - 1) / 4)) (en t k) with c | c | c
  · rcases c with c | ⟨c, d⟩
    · exact .inl (by unfold cfK; rw [if_pos c]; omega)
    · exact .inr ⟨by rw [c]; unfold cfK; rw [if_neg (less_irrefl _), if_neg (less_irrefl _)], d⟩
  · have := ha.inj hu hk (by rw [c])
    omega
  · exact absurd c hle
end
/-- WHERE HeapTrees STANDS in its loop. -/
structure TrAt (w wr : World) (q b g c : Nat) (K : Nat → Ky) (T : Nat → Bool) (t : List En) (F : Nat → Prop) (k : Nat) : Prop where
  heap : HA wr q F 24 (mKT K T)
  keys : KArr wr b K
  there : TArr wr (b + 1) (lessT T t k)
  row : IR wr g c (plc t)
  below : Below w.heap.size w wr
  ne : g ≠ b + 1 ∧ w.heap.size ≤ b ∧ ∀ j, F j → j < b
theorem TrAt.to {w wr w' : World} {q b g c : Nat} {K : Nat → Ky} {T : Nat → Bool} {t : List En} {F : Nat → Prop} {k : Nat} (h : TrAt w wr q b g c K T t F k) (hb : Below wr.heap.size wr w') : TrAt w w' q b g c K T t F k :=
  ⟨h.heap.below hb, (hb.block _ (Array.getElem?_eq_some_iff.1 h.keys).1).trans h.keys, (hb.block _ (Array.getElem?_eq_some_iff.1 h.there).1).trans h.there, h.row.below hb, h.below.trans (hb.mono h.below.size), h.ne⟩
theorem TrAt.next {w wr : World} {q b g c : Nat} {K : Nat → Ky} {T : Nat → Bool} {t : List En} {F : Nat → Prop} {k : Nat} (h : TrAt w wr q b g c K T t F k) (hk : k < t.length) (hp : (en t k).2 < 24) : TrAt w (wr.setCell ⟨b + 1, (en t k).2, none⟩ (.bool false)) q b g c K T t F (k + 1) := by
  obtain ⟨n1, n2, n3⟩ := h.ne
  refine ⟨h.heap.keep fun j hj => heap_setO _ _ _ (by have := n3 j hj; omega), (heap_setO _ _ _ (by omega)).trans h.keys, ?_, h.row.keep (heap_setO _ _ _ n1), h.below.setCell (p := ⟨b + 1, (en t k).2, none⟩) (by show _ ≤ b + 1; omega) _, h.ne⟩
  have := h.there.set (en t k).2 hp false
  rwa [lessT_succ T t k hk] at this
end Go.Proofs.Ytjnocijfjkbaiaa
