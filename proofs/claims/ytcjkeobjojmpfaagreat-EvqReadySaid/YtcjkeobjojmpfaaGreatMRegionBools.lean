import Derived.OrdersIn
import Derived.CallsIn
import Derived.Lib.Hide
import Derived.OwnWalkIn
/-
  A LAW for a region that draws its order, in whatever fence, within a round too: where the state behind some of its operations is told by which of them are done, each operation is walked once.
-/
namespace Go.Proofs.YtcjkeobjojmpfaaGreat
open Go Go.RowKit

/-- One more is done. -/
def upd (b : Nat → Bool) (i : Nat) : Nat → Bool := fun j => if j = i then true else b j
/-- What an operation waits for is done. -/
def waits (md : Region.Mode) (ops : Array Oper) (b : Nat → Bool) (i : Nat) : Bool := ((ops[i]?).map (·.after.all fun e => !Region.binds md e || b e.on)).getD false
def backward (ops : Array Oper) : Bool := (List.range ops.size).all fun i => ((ops[i]?).map (·.after.all fun e => decide (e.on < i))).getD true
theorem wpAnyIn_bools {F : Fence} {n : Nat} {P : Program} {md : Region.Mode} {ops : Array Oper} {Q : Exit → Act → World → Prop} (hbk : backward ops = true)
    (A : (Nat → Bool) → Act) (Wd : (Nat → Bool) → World)
    (hstep : ∀ (b : Nat → Bool) (i : Nat), i < ops.size → b i = false → (∀ j, j < ops.size → b j = true → waits md ops b j = true) → waits md ops b i = true → ∀ K : Act → World → Prop, K (A (upd b i)) (Wd (upd b i)) → wpOpIn F n P ops Q i K (A b) (Wd b))
    (hend : ∀ b : Nat → Bool, (∀ i, i < ops.size → b i = true) → Q .normal (A b) (Wd b)) :
    ∀ (fuel : Nat) (b : Nat → Bool), (∀ j, j < ops.size → b j = true → waits md ops b j = true) → ((List.range ops.size).countP fun i => !b i) ≤ fuel → wpAnyIn F n P md ops Q fuel (Array.ofFn fun i : Fin ops.size => b i) (A b) (Wd b) := by
  have hget : ∀ (b : Nat → Bool) (i : Nat) (d : Bool), i < ops.size → (Array.ofFn fun i : Fin ops.size => b i).getD i d = b i := by
    intro b i d hi
    simp [Array.getD_eq_getD_getElem?, hi]
  have hset : ∀ (b : Nat → Bool) (i : Nat), (Array.ofFn fun i : Fin ops.size => b i).setIfInBounds i true = Array.ofFn fun j : Fin ops.size => upd b i j := by
    intro b i
    apply Array.ext
    · simp
    · intro j h1 h2
      rw [Array.getElem_setIfInBounds (by simpa using h1)]
      by_cases e : i = j
      · subst e; simp [upd]
      · simp [e, upd, Ne.symm e]
  have hback : ∀ (i : Nat) (o : Oper), ops[i]? = some o → ∀ e ∈ o.after, e.on < i := by
    intro i o ho e he
    have hi : i < ops.size := (Array.getElem?_eq_some_iff.1 ho).1
    unfold backward at hbk
    have := List.all_eq_true.1 hbk i (List.mem_range.2 hi)
    rw [ho] at this
    simp only [Option.map_some, Option.getD_some] at this
    exact of_decide_eq_true (Array.all_eq_true_iff_forall_mem.1 this e he)
  -- what is ready
  have hrdy : ∀ (b : Nat → Bool) (i : Nat), i ∈ Region.ready md ops (Array.ofFn fun i : Fin ops.size => b i) ↔ i < ops.size ∧ b i = false ∧ waits md ops b i = true := by
    intro b i
    unfold Region.ready
    rw [List.mem_filter, List.mem_range]
    constructor
    · rintro ⟨hi, h⟩
      rw [Bool.and_eq_true, hget b i true hi] at h
      refine ⟨hi, by simpa using h.1, ?_⟩
      unfold waits
      have ho : ops[i]? = some ops[i] := Array.getElem?_eq_getElem hi
      have h2 := h.2
      rw [ho] at h2 ⊢
      simp only [Option.map_some, Option.getD_some] at h2 ⊢
      rw [Array.all_eq_true_iff_forall_mem] at h2 ⊢
      intro e he
      have := h2 e he
      rwa [hget b e.on false (Nat.lt_trans (hback i _ ho e he) hi)] at this
    · rintro ⟨hi, hb, h⟩
      refine ⟨hi, ?_⟩
      rw [Bool.and_eq_true, hget b i true hi]
      refine ⟨by simp [hb], ?_⟩
      unfold waits at h
      have ho : ops[i]? = some ops[i] := Array.getElem?_eq_getElem hi
      rw [ho] at h ⊢
      simp only [Option.map_some, Option.getD_some] at h ⊢
      rw [Array.all_eq_true_iff_forall_mem] at h ⊢
      intro e he
      have := h e he
      rwa [hget b e.on false (Nat.lt_trans (hback i _ ho e he) hi)]
  -- while one is not done, one is ready
  have hlive : ∀ (b : Nat → Bool) (k i : Nat), i ≤ k → i < ops.size → b i = false → ∃ j, j ∈ Region.ready md ops (Array.ofFn fun i : Fin ops.size => b i) := by
    intro b k
    induction k with
    | zero =>
      intro i hk hi hb
      refine ⟨i, (hrdy b i).2 ⟨hi, hb, ?_⟩⟩
      have ho : ops[i]? = some ops[i] := Array.getElem?_eq_getElem hi
      unfold waits
      rw [ho]
      simp only [Option.map_some, Option.getD_some]
      rw [Array.all_eq_true_iff_forall_mem]
      intro e he
      have := hback i _ ho e he
      omega
    | succ k ih =>
      intro i hk hi hb
      by_cases hw : waits md ops b i = true
      · exact ⟨i, (hrdy b i).2 ⟨hi, hb, hw⟩⟩
      · have ho : ops[i]? = some ops[i] := Array.getElem?_eq_getElem hi
        unfold waits at hw
        rw [ho] at hw
        simp only [Option.map_some, Option.getD_some] at hw
        rw [Array.all_eq_true_iff_forall_mem] at hw
        simp only [Classical.not_forall] at hw
        obtain ⟨e, he, hne⟩ := hw
        have hlt := hback i _ ho e he
        have hbe : b e.on = false := by
          cases h : b e.on with
          | false => rfl
          | true => exact absurd (by simp [h]) hne
        exact ih e.on (by omega) (by omega) hbe
  have hall : ∀ b : Nat → Bool, Region.ready md ops (Array.ofFn fun i : Fin ops.size => b i) = [] → ∀ i, i < ops.size → b i = true := by
    intro b h i hi
    cases hb : b i with
    | true => rfl
    | false =>
      obtain ⟨j, hj⟩ := hlive b i i (Nat.le_refl _) hi hb
      rw [h] at hj
      cases hj
  have hless : ∀ (b : Nat → Bool) (i : Nat), i < ops.size → b i = false → ((List.range ops.size).countP fun j => !upd b i j) < ((List.range ops.size).countP fun j => !b j) := by
    have cs : ∀ (p q : Nat → Bool) (l : List Nat), (∀ x ∈ l, p x = true → q x = true) → (∃ x ∈ l, p x = false ∧ q x = true) → l.countP p < l.countP q := by
      intro p q l
      induction l with
      | nil => rintro _ ⟨x, hx, _⟩; cases hx
      | cons a l ih =>
        intro h1 ⟨x, hx, e1, e2⟩
        have hle := List.countP_mono_left (l := l) (p := p) (q := q) (fun x hx => h1 x (by simp [hx]))
        rw [List.countP_cons, List.countP_cons]
        rcases List.mem_cons.1 hx with rfl | hx
        · rw [if_neg (by rw [e1]; decide), if_pos e2]; omega
        · have := ih (fun y hy => h1 y (by simp [hy])) ⟨x, hx, e1, e2⟩
          by_cases c : p a = true
          · rw [if_pos c, if_pos (h1 a (by simp) c)]; omega
          · rw [if_neg c]; omega
    intro b i hi hb
    refine cs _ _ _ (fun x _ hx => ?_) ⟨i, List.mem_range.2 hi, by simp [upd], by simp [hb]⟩
    unfold upd at hx
    by_cases e : x = i
    · simp [e] at hx
    · simpa [e] using hx
  have hup : ∀ (b : Nat → Bool) (i j : Nat), waits md ops b j = true → waits md ops (upd b i) j = true := by
    intro b i j h
    unfold waits at h ⊢
    cases ho : ops[j]? with
    | none => rw [ho] at h; cases h
    | some o =>
      rw [ho] at h
      simp only [Option.map_some, Option.getD_some] at h ⊢
      rw [Array.all_eq_true_iff_forall_mem] at h ⊢
      intro e he
      have := h e he
      rcases Bool.or_eq_true_iff.1 this with h1 | h1
      · simp [h1]
      · rw [Bool.or_eq_true]
        refine .inr ?_
        unfold upd
        split
        · rfl
        · exact h1
  intro fuel
  induction fuel with
  | zero =>
    intro b hcl hc
    have ht : ∀ i, i < ops.size → b i = true := by
      intro i hi
      have := List.countP_eq_zero.1 (Nat.le_zero.1 hc) i (List.mem_range.2 hi)
      simpa using this
    refine ⟨?_, hend b ht⟩
    cases hr : Region.ready md ops (Array.ofFn fun i : Fin ops.size => b i) with
    | nil => rfl
    | cons i r =>
      obtain ⟨hi, hb, _⟩ := (hrdy b i).1 (by rw [hr]; simp)
      rw [ht i hi] at hb
      cases hb
  | succ fuel ih =>
    intro b hcl hc
    refine ⟨fun hr => hend b (hall b hr), fun i hi => ?_⟩
    obtain ⟨h1, h2, h3⟩ := (hrdy b i).1 hi
    rw [hset b i]
    refine hstep b i h1 h2 hcl h3 _ (ih _ (fun j hj hbj => ?_) ?_)
    · by_cases e : j = i
      · subst e; exact hup b j j h3
      · exact hup b i j (hcl j hj (by unfold upd at hbj; rw [if_neg e] at hbj; exact hbj))
    have := hless b i h1 h2
    omega
theorem wpIn_region_bools {F : Fence} {n : Nat} {P : Program} {ops : Array Oper} {Q : Exit → Act → World → Prop} {id : Nat} {a : Act} {w : World} (hm : P.follows .mixedOrders = true) (hbk : backward ops = true)
    (A : (Nat → Bool) → Act) (Wd : (Nat → Bool) → World) (hA : A (fun _ => false) = a) (hW : Wd (fun _ => false) = w.drew)
    (hstep : ∀ (b : Nat → Bool) (i : Nat), i < ops.size → b i = false → (∀ j, j < ops.size → b j = true → waits .any ops b j = true) → waits .any ops b i = true → ∀ K : Act → World → Prop, K (A (upd b i)) (Wd (upd b i)) → wpOpIn F n P ops Q i K (A b) (Wd b))
    (hend : ∀ b : Nat → Bool, (∀ i, i < ops.size → b i = true) → Q .normal (A b) (Wd b)) : (Code.region id ops true).wpIn F n P Q a w := by
  refine wpIn_region_any hm ?_
  have h := wpAnyIn_bools (md := .any) hbk A Wd hstep hend ops.size (fun _ => false) (fun _ _ h => by cases h) (by refine Nat.le_trans (List.countP_le_length ..) (by simp))
  rw [hA, hW] at h
  have e : (Array.ofFn fun i : Fin ops.size => (fun _ => false) i.val) = Array.replicate ops.size false := by
    apply Array.ext
    · simp
    · intro j h1 h2; simp
  rw [← e]
  exact h
end Go.Proofs.YtcjkeobjojmpfaaGreat
