/-
  WHERE HeapCopies STANDS: two heaps, the box of x, the array of what is there.
-/
import Derived.Test.YtjnocijfjkbaiaaHeapSameP
import Derived.Test.YtjnocijfjkbaiaaHeapWrongP
import Derived.Test.YtjnocijfjkbaiaaHeapClone
namespace Go.Proofs.Ytjnocijfjkbaiaa
open Go.RowKit Go.Shelf

structure CpAt (w wr : World) (q q2 bx bt xa xb xc xd : Nat) (T : Nat → Bool) (X : Nat → Prop) (M1 M2 : Mp) : Prop where
  heaps : TwoAt w wr q q2 X M1 M2
  box : XBox wr bx xa xb xc xd
  there : TArr wr bt T
  has : X bx ∧ X bt
section
variable {w wr w' : World} {q q2 bx bt xa xb xc xd : Nat} {T : Nat → Bool} {X : Nat → Prop} {M1 M2 M' : Mp}
theorem CpAt.to (h : CpAt w wr q q2 bx bt xa xb xc xd T X M1 M2) (hb : Below wr.heap.size wr w') : CpAt w w' q q2 bx bt xa xb xc xd T X M1 M2 :=
  ⟨h.heaps.to hb, h.box.to hb, (hb.block _ (Array.getElem?_eq_some_iff.1 h.there).1).trans h.there, h.has⟩
theorem TwoAt.more (h : TwoAt w wr q q2 X M1 M2) (hb : Below wr.heap.size wr w') (g : Nat) (hg : wr.heap.size ≤ g ∧ g < w'.heap.size) : TwoAt w w' q q2 (fun j => X j ∨ j = g) M1 M2 := by
  have h2 := h.to hb
  obtain ⟨F, F2, a, b, c, d⟩ := h.ex
  refine ⟨⟨F, F2, a.below hb, b.below hb, fun j hj => ⟨(c j hj).1, ?_, (c j hj).2.2⟩, fun j hj => ⟨?_, (d j hj).2⟩⟩, fun j hj => ?_, h2.below⟩
  · rintro (e | e)
    · exact (c j hj).2.1 e
    · have := a.lt j hj; omega
  · rintro (e | e)
    · exact (d j hj).1 e
    · have := b.lt j hj; omega
  · rcases hj with e | e
    · exact h2.xs j e
    · omega
theorem CpAt.more (h : CpAt w wr q q2 bx bt xa xb xc xd T X M1 M2) (hb : Below wr.heap.size wr w') (g : Nat) (hg : wr.heap.size ≤ g ∧ g < w'.heap.size) : CpAt w w' q q2 bx bt xa xb xc xd T (fun j => X j ∨ j = g) M1 M2 :=
  ⟨h.heaps.more hb g hg, (h.to hb).box, (h.to hb).there, .inl h.has.1, .inl h.has.2⟩
theorem CpAt.kept (h : CpAt w wr q q2 bx bt xa xb xc xd T X M1 M2) (t : TwoAt w w' q q2 X M' M2) (k : Kept X wr w') : CpAt w w' q q2 bx bt xa xb xc xd T X M' M2 :=
  ⟨t, (k _ h.has.1).trans h.box, (k _ h.has.2).trans h.there, h.has⟩
theorem CpAt.kept2 (h : CpAt w wr q q2 bx bt xa xb xc xd T X M1 M2) (t : TwoAt w w' q q2 X M1 M') (k : Kept X wr w') : CpAt w w' q q2 bx bt xa xb xc xd T X M1 M' :=
  ⟨t, (k _ h.has.1).trans h.box, (k _ h.has.2).trans h.there, h.has⟩
end
theorem ordM_le {w : World} {q : Nat} {F : Nat → Prop} {n : Nat} {M : Mp} (h : HA w q F n M) : (ordM n M).length ≤ n := by
  obtain ⟨tv, x, xc, t, ix, hd, ho, hm, hF⟩ := h.ex
  rw [ordM_len hm hd.agr]
  exact hd.agr.len
theorem takF_len (M : Mp) : (ordM 24 (takF M).2.2.2).length ≤ (ordM 24 M).length - 1 := by
  unfold takF
  cases h : ordM 24 M with
  | nil => simp [h]
  | cons x l =>
    obtain ⟨k, p⟩ := x
    show (ordM 24 (updM M p none)).length ≤ _
    rw [ordM_tail h]
    simp
theorem mKT_isSome (K : Nat → Ky) (T : Nat → Bool) (p : Nat) : (mKT K T p).isSome = T p := by
  unfold mKT
  cases h : T p <;> simp
theorem hasM_calls {w : World} {q : Nat} {F : Nat → Prop} {M : Mp} (h : HA w q F 24 M) (p : Nat) (hp : p < 24) (t : Bool) (ht : (M p).isSome = t) :
    Calls Try.prog 19 #[.pointer (some ⟨q, 0, none⟩), .int .i64 (p : Int)] w fun e w' => e = .returned (.bool t) ∧ w = w' := by
  subst ht
  cases hM : M p with
  | none => exact has_no h (p : Int) 6 (by decide) (finds_none p hp hM)
  | some j => exact has_yes h p j hM
theorem updM_same (M : Mp) (p : Nat) (v : Option Ky) : updM M p v p = v := by simp [updM]
end Go.Proofs.Ytjnocijfjkbaiaa
