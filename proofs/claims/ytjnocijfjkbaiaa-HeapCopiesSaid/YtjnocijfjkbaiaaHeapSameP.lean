/-
  TWO HEAPS IN ONE WORLD; what the functions do, as functions of what is there.
-/
import Derived.Test.YtjnocijfjkbaiaaHeapAwC
namespace Go.Proofs.Ytjnocijfjkbaiaa
open Go.RowKit Go.Shelf

/-- WHERE TWO HEAPS STAND; the blocks X belong to neither. -/
structure TwoAt (w wr : World) (q q2 : Nat) (X : Nat → Prop) (M1 M2 : Mp) : Prop where
  ex : ∃ F F2, HA wr q F 24 M1 ∧ HA wr q2 F2 24 M2 ∧ (∀ j, F j → ¬ F2 j ∧ ¬ X j ∧ w.heap.size ≤ j) ∧ (∀ j, F2 j → ¬ X j ∧ w.heap.size ≤ j)
  xs : ∀ j, X j → j < wr.heap.size
  below : Below w.heap.size w wr
section
variable {w wr w' : World} {q q2 : Nat} {X : Nat → Prop} {M1 M2 M' : Mp}
theorem TwoAt.to (h : TwoAt w wr q q2 X M1 M2) (hb : Below wr.heap.size wr w') : TwoAt w w' q q2 X M1 M2 := by
  obtain ⟨F, F2, a, b, c, d⟩ := h.ex
  exact ⟨⟨F, F2, a.below hb, b.below hb, c, d⟩, fun j hj => Nat.lt_of_lt_of_le (h.xs j hj) hb.size, h.below.trans (hb.mono h.below.size)⟩
theorem TwoAt.al (h : TwoAt w wr q q2 X M1 M2) (o : Obj) : TwoAt w (wr.alloc o) q q2 (fun j => X j ∨ j = wr.heap.size) M1 M2 := by
  have h2 := h.to ((Below.refl _ wr).alloc (Nat.le_refl _) o)
  obtain ⟨F, F2, a, b, c, d⟩ := h.ex
  have hb := (Below.refl wr.heap.size wr).alloc (Nat.le_refl _) o
  refine ⟨⟨F, F2, a.below hb, b.below hb, fun j hj => ⟨(c j hj).1, ?_, (c j hj).2.2⟩, fun j hj => ⟨?_, (d j hj).2⟩⟩, fun j hj => ?_, h2.below⟩
  · rintro (e | e)
    · exact (c j hj).2.1 e
    · have := a.lt j hj; omega
  · rintro (e | e)
    · exact (d j hj).1 e
    · have := b.lt j hj; omega
  · rcases hj with e | e
    · exact h2.xs j e
    · simp; omega
theorem TwoAt.less (h : TwoAt w wr q q2 X M1 M2) {Y : Nat → Prop} (hY : ∀ j, Y j → X j) : TwoAt w wr q q2 Y M1 M2 := by
  obtain ⟨F, F2, a, b, c, d⟩ := h.ex
  exact ⟨⟨F, F2, a, b, fun j hj => ⟨(c j hj).1, fun e => (c j hj).2.1 (hY j e), (c j hj).2.2⟩, fun j hj => ⟨fun e => (d j hj).1 (hY j e), (d j hj).2⟩⟩, fun j hj => h.xs j (hY j hj), h.below⟩
/-- What is kept of the blocks X. -/
def Kept (X : Nat → Prop) (wr w' : World) : Prop := ∀ j, X j → w'.heap[j]? = wr.heap[j]?
theorem TwoAt.one {f : Nat} {args : Array Value} {r : Value} (h : TwoAt w wr q q2 X M1 M2) (C : ∀ F, HA wr q F 24 M1 → Calls Try.prog f args wr fun e w' => e = .returned r ∧ HStep wr w' q F 24 M') :
    Calls Try.prog f args wr fun e w' => e = .returned r ∧ TwoAt w w' q q2 X M' M2 ∧ Kept X wr w' := by
  obtain ⟨F, F2, a, b, c, d⟩ := h.ex
  refine (C F a).mono fun e w' hh => ⟨hh.1, ?_, ?_⟩
  · obtain ⟨F', h1, h2, h3⟩ := hh.2.ex
    refine ⟨⟨F', F2, h1, b.off h2 (fun j hj e => (c j e).1 hj), fun j hj => ?_, d⟩, fun j hj => Nat.lt_of_lt_of_le (h.xs j hj) h2.size, h.below.trans (h2.below (fun j hj => (c j hj).2.2) h.below.size)⟩
    rcases h3 j hj with e | e
    · exact c j e
    · exact ⟨fun k => by have := b.lt j k; omega, fun k => by have := h.xs j k; omega, by have := h.below.size; omega⟩
  · obtain ⟨F', h1, h2, h3⟩ := hh.2.ex
    exact fun j hj => h2.block j (h.xs j hj) (fun e => (c j e).2.1 hj)
theorem TwoAt.two {f : Nat} {args : Array Value} {r : Value} (h : TwoAt w wr q q2 X M1 M2) (C : ∀ F, HA wr q2 F 24 M2 → Calls Try.prog f args wr fun e w' => e = .returned r ∧ HStep wr w' q2 F 24 M') :
    Calls Try.prog f args wr fun e w' => e = .returned r ∧ TwoAt w w' q q2 X M1 M' ∧ Kept X wr w' := by
  obtain ⟨F, F2, a, b, c, d⟩ := h.ex
  refine (C F2 b).mono fun e w' hh => ⟨hh.1, ?_, ?_⟩
  · obtain ⟨F', h1, h2, h3⟩ := hh.2.ex
    refine ⟨⟨F, F', a.off h2 (fun j hj => (c j hj).1), h1, fun j hj => ⟨fun k => ?_, (c j hj).2⟩, fun j hj => ?_⟩, fun j hj => Nat.lt_of_lt_of_le (h.xs j hj) h2.size, h.below.trans (h2.below (fun j hj => (d j hj).2) h.below.size)⟩
    · rcases h3 j k with e | e
      · exact (c j hj).1 e
      · have := a.lt j hj; omega
    · rcases h3 j hj with e | e
      · exact d j e
      · exact ⟨fun k => by have := h.xs j k; omega, by have := h.below.size; omega⟩
  · obtain ⟨F', h1, h2, h3⟩ := hh.2.ex
    exact fun j hj => h2.block j (h.xs j hj) (fun e => (d j e).1 hj)
end
theorem box_al {w : World} {b : Nat} {x : Obj} (h : w.heap[b]? = some x) (o : Obj) : (w.alloc o).heap[b]? = some x := (Below.heap_alloc _ _ _ (Array.getElem?_eq_some_iff.1 h).1).trans h
theorem box_to {w w' : World} {b : Nat} {x : Obj} (h : w.heap[b]? = some x) (hb : Below w.heap.size w w') : w'.heap[b]? = some x := (hb.block _ (Array.getElem?_eq_some_iff.1 h).1).trans h
def k0 : Ky := (0, 0, 0)
/-- What Put, Change, Remove and Take do. -/
def putF (M : Mp) (p : Nat) (k : Ky) : Int × Mp := match M p with
  | none => (0, updM M p (some k))
  | some _ => (81, M)
def chgF (M : Mp) (p : Nat) (k : Ky) : Ky × Int × Mp := match M p with
  | none => (k0, 6, M)
  | some j => (j, 0, updM M p (some k))
def remF (M : Mp) (p : Nat) : Ky × Int × Mp := match M p with
  | none => (k0, 6, M)
  | some j => (j, 0, updM M p none)
def takF (M : Mp) : Nat × Ky × Int × Mp := match ordM 24 M with
  | [] => (0, k0, 6, M)
  | e :: _ => (e.2, e.1, 0, updM M e.2 none)
section
variable {w : World} {q : Nat} {F : Nat → Prop} {M : Mp}
theorem putF_calls (h : HA w q F 24 M) (p : Nat) (hp : p < 24) (k : Ky) :
    Calls Try.prog 12 #[.pointer (some ⟨q, 0, none⟩), .int .i64 (p : Int), .agg #[.int .i64 k.1, .int .i64 k.2.1, .int .i64 k.2.2]] w fun e w' => e = .returned (.int .i64 (putF M p k).1) ∧ HStep w w' q F 24 (putF M p k).2 := by
  unfold putF
  cases hM : M p with
  | none => exact put_ok h p hp hM k
  | some j => exact (put_there h p j hM k).mono fun e w' hh => ⟨hh.1, HStep.same h hh.2⟩
theorem chgF_calls (h : HA w q F 24 M) (p : Nat) (hp : p < 24) (k : Ky) :
    Calls Try.prog 16 #[.pointer (some ⟨q, 0, none⟩), .int .i64 (p : Int), .agg #[.int .i64 k.1, .int .i64 k.2.1, .int .i64 k.2.2]] w fun e w' => e = .returned (.tuple #[.agg #[.int .i64 (chgF M p k).1.1, .int .i64 (chgF M p k).1.2.1, .int .i64 (chgF M p k).1.2.2], .int .i64 (chgF M p k).2.1]) ∧ HStep w w' q F 24 (chgF M p k).2.2 := by
  unfold chgF
  cases hM : M p with
  | none => exact (change_no h (p : Int) k 6 (by decide) (finds_none p hp hM)).mono fun e w' hh => ⟨hh.1, HStep.same h hh.2⟩
  | some j => exact change_yes h p j hM k
theorem remF_calls (h : HA w q F 24 M) (p : Nat) (hp : p < 24) :
    Calls Try.prog 15 #[.pointer (some ⟨q, 0, none⟩), .int .i64 (p : Int)] w fun e w' => e = .returned (.tuple #[.agg #[.int .i64 (remF M p).1.1, .int .i64 (remF M p).1.2.1, .int .i64 (remF M p).1.2.2], .int .i64 (remF M p).2.1]) ∧ HStep w w' q F 24 (remF M p).2.2 := by
  unfold remF
  cases hM : M p with
  | none => exact (remove_no h (p : Int) 6 (by decide) (finds_none p hp hM)).mono fun e w' hh => ⟨hh.1, HStep.same h hh.2⟩
  | some j => exact remove_yes h p j hM
theorem takF_calls (h : HA w q F 24 M) :
    Calls Try.prog 14 #[.pointer (some ⟨q, 0, none⟩)] w fun e w' => e = .returned (.tuple #[.int .i64 ((takF M).1 : Int), .agg #[.int .i64 (takF M).2.1.1, .int .i64 (takF M).2.1.2.1, .int .i64 (takF M).2.1.2.2], .int .i64 (takF M).2.2.1]) ∧ HStep w w' q F 24 (takF M).2.2.2 := by
  unfold takF
  cases hM : ordM 24 M with
  | nil => exact (take_no h (by rw [hM]; rfl)).mono fun e w' hh => ⟨hh.1, HStep.same h hh.2⟩
  | cons x l => exact take_yes h x.1 x.2 (by rw [hM]; simp) (by rw [hM]; rfl)
end
/-- The places that were put in by i rounds, turned by t. -/
def visT (T : Nat → Bool) (t i : Nat) : Nat → Bool := fun p => T p && decide (∃ j, j < i ∧ (j * 7 + t) % 24 = p)
theorem vis_zero (T : Nat → Bool) (t : Nat) : visT T t 0 = fun _ => false := by
  funext p
  unfold visT
  simp
theorem vis_new (T : Nat → Bool) (t i : Nat) (hi : i < 24) : visT T t i ((i * 7 + t) % 24) = false := by
  unfold visT
  have : ¬ ∃ j, j < i ∧ (j * 7 + t) % 24 = (i * 7 + t) % 24 := fun ⟨j, h, e⟩ => by omega
  simp [this]
theorem vis_step (T : Nat → Bool) (t i : Nat) (h : T ((i * 7 + t) % 24) = true) : setF (visT T t i) ((i * 7 + t) % 24) true = visT T t (i + 1) := by
  funext p
  unfold setF visT
  by_cases c : p = (i * 7 + t) % 24
  · rw [if_pos c, c, h]
    have : ∃ j, j < i + 1 ∧ (j * 7 + t) % 24 = (i * 7 + t) % 24 := ⟨i, by omega, rfl⟩
    simp [this]
  · rw [if_neg c]
    congr 1
    refine decide_eq_decide.2 ⟨fun ⟨j, a, b⟩ => ⟨j, by omega, b⟩, fun ⟨j, a, b⟩ => ⟨j, ?_, b⟩⟩
    by_cases e : j = i
    · subst e; exact absurd b.symm c
    · omega
theorem vis_skip (T : Nat → Bool) (t i : Nat) (h : T ((i * 7 + t) % 24) = false) : visT T t i = visT T t (i + 1) := by
  funext p
  unfold visT
  by_cases c : p = (i * 7 + t) % 24
  · rw [c, h]; rfl
  · congr 1
    refine decide_eq_decide.2 ⟨fun ⟨j, a, b⟩ => ⟨j, by omega, b⟩, fun ⟨j, a, b⟩ => ⟨j, ?_, b⟩⟩
    by_cases e : j = i
    · subst e; exact absurd b.symm c
    · omega
theorem vis_all (T : Nat → Bool) (t : Nat) (hT : ∀ p, 24 ≤ p → T p = false) : visT T t 24 = T := by
  funext p
  unfold visT
  by_cases c : p < 24
  · have : ∃ j, j < 24 ∧ (j * 7 + t) % 24 = p := ⟨(7 * (p + 24 - t % 24)) % 24, by omega, by omega⟩
    simp [this]
  · rw [hT p (by omega)]; rfl
end Go.Proofs.Ytjnocijfjkbaiaa
