import Derived.Test.YtcjkeobjojmpfaaGreatMEvqP
/-
  PLAIN FACTS on lists of events: put in order one by one; events with different names. No program is named here.
-/
namespace Go.Proofs.YtcjkeobjojmpfaaGreat
open Go.RowKit

/-- Different names. -/
abbrev DistV (l : List Ev) : Prop := l.Pairwise fun a b => nmV a ≠ nmV b
def inOrd (l : List Ev) : List Ev := l.foldl (fun acc x => insV x acc) []
theorem foldl_ins : ∀ (l acc : List Ev), AscV acc → DistV l → (∀ x ∈ l, ∀ y ∈ acc, nmV x ≠ nmV y) → AscV (l.foldl (fun acc x => insV x acc) acc) ∧ (l.foldl (fun acc x => insV x acc) acc).Perm (l ++ acc)
  | [], acc, h, _, _ => ⟨h, List.Perm.refl _⟩
  | x :: l, acc, h, hd, hn => by
    obtain ⟨d1, d2⟩ := List.pairwise_cons.1 hd
    rw [List.foldl_cons]
    have hx : AscV (insV x acc) := insV_asc x acc h fun y hy e => hn x (by simp) y hy (show x.1.2 = y.1.2 by rw [e])
    obtain ⟨a, b⟩ := foldl_ins l (insV x acc) hx d2 fun z hz y hy => by
      rcases (insV_mem x acc y).1 hy with e | e
      · rw [e]; exact fun c => d1 z hz c.symm
      · exact hn z (List.mem_cons_of_mem _ hz) y e
    refine ⟨a, b.trans ?_⟩
    have e1 : (l ++ insV x acc).Perm (l ++ (x :: acc)) := (insV_perm x acc).append_left l
    exact e1.trans List.perm_middle
theorem inOrd_asc {l : List Ev} (h : DistV l) : AscV (inOrd l) := (foldl_ins l [] List.Pairwise.nil h (by simp)).1
theorem inOrd_perm {l : List Ev} (h : DistV l) : (inOrd l).Perm l := by
  have := (foldl_ins l [] List.Pairwise.nil h (by simp)).2
  rwa [List.append_nil] at this
theorem inOrd_snoc (l : List Ev) (x : Ev) : inOrd (l ++ [x]) = insV x (inOrd l) := by simp [inOrd]
theorem inOrd_append (l m : List Ev) : inOrd (l ++ m) = m.foldl (fun acc x => insV x acc) (inOrd l) := by simp [inOrd]
theorem foldl_ins_len : ∀ (l acc : List Ev), (l.foldl (fun acc x => insV x acc) acc).length = l.length + acc.length
  | [], acc => by simp
  | x :: l, acc => by rw [List.foldl_cons, foldl_ins_len, insV_len, List.length_cons]; omega
theorem inOrd_len (l : List Ev) : (inOrd l).length = l.length := by unfold inOrd; rw [foldl_ins_len]; simp
theorem foldl_ins_mem : ∀ (l acc : List Ev) (z : Ev), z ∈ l.foldl (fun acc x => insV x acc) acc ↔ z ∈ l ∨ z ∈ acc
  | [], acc, z => by simp
  | x :: l, acc, z => by
    rw [List.foldl_cons, foldl_ins_mem l, insV_mem, List.mem_cons]
    constructor
    · rintro (h | h | h)
      · exact .inl (.inr h)
      · exact .inl (.inl h)
      · exact .inr h
    · rintro ((h | h) | h)
      · exact .inr (.inl h)
      · exact .inl h
      · exact .inr (.inr h)
theorem inOrd_mem (l : List Ev) (z : Ev) : z ∈ inOrd l ↔ z ∈ l := by unfold inOrd; rw [foldl_ins_mem]; simp
/-- Whichever come first. -/
theorem inOrd_swap {a b : List Ev} (h : DistV (a ++ b)) : inOrd (b ++ a) = inOrd (a ++ b) := by
  have h2 : DistV (b ++ a) := by
    obtain ⟨h1, h2, h3⟩ := List.pairwise_append.1 h
    exact List.pairwise_append.2 ⟨h2, h1, fun x hx y hy e => h3 y hy x hx e.symm⟩
  refine ascV_unique _ _ (inOrd_asc h2) (inOrd_asc h) fun z => ?_
  rw [inOrd_mem, inOrd_mem, List.mem_append, List.mem_append]
  exact Or.comm
/-- Four small numbers. -/
abbrev Sv := Nat × Nat × Nat × Nat
def SvOk (x : Sv) : Prop := x.1 < 256 ∧ x.2.1 < 256 ∧ x.2.2.1 < 256 ∧ x.2.2.2 < 256
/-- An event of small numbers. -/
def madeV (x : Sv) : Ev := (((x.1 : Int) % 16, (x.2.1 : Int) % 5, (x.2.2.1 : Int) % 32), 1 + (x.2.2.2 : Int) % 16, (x.1 : Int) - (x.2.2.2 : Int))
theorem madeV_right (x : Sv) : RightV (madeV x) := by
  unfold RightV RightK madeV
  simp only
  omega
/-- How many events of a list have a name. -/
def cntN (l : List Ev) (s q : Int) : Nat := (l.filter fun x => decide (nmV x = (s, q))).length
/-- The events with different names, each the first of its name. -/
def evsN : List Ev → List Ev
  | [] => []
  | x :: l => x :: (evsN l).filter fun y => decide (nmV y ≠ nmV x)
def evsS (l : List Ev) : List Ev := l.foldl (fun out x => if out.any (fun y => decide (nmV y = nmV x)) then out else out ++ [x]) []
theorem evsS_snoc (l : List Ev) (x : Ev) : evsS (l ++ [x]) = if (evsS l).any (fun y => decide (nmV y = nmV x)) then evsS l else evsS l ++ [x] := by unfold evsS; rw [List.foldl_append]; rfl
theorem snocV {P : List Ev → Prop} (nil : P []) (snoc : ∀ l c, P l → P (l ++ [c])) (l : List Ev) : P l := snoc_ind nil snoc l
theorem evsS_sub (l : List Ev) : ∀ x ∈ evsS l, x ∈ l := by
  induction l using snocV with
  | nil => intro x h; exact h
  | snoc l c ih =>
    intro x h
    rw [evsS_snoc] at h
    split at h
    · exact List.mem_append.2 (.inl (ih x h))
    · rcases List.mem_append.1 h with e | e
      · exact List.mem_append.2 (.inl (ih x e))
      · exact List.mem_append.2 (.inr e)
theorem evsS_dist (l : List Ev) : DistV (evsS l) := by
  induction l using snocV with
  | nil => exact List.Pairwise.nil
  | snoc l c ih =>
    rw [evsS_snoc]
    split
    · exact ih
    · rename_i h
      refine List.pairwise_append.2 ⟨ih, List.pairwise_singleton _ _, fun x hx y hy => ?_⟩
      rw [List.mem_singleton.1 hy]
      intro e
      exact h (List.any_eq_true.2 ⟨x, hx, by simpa using e⟩)
theorem evsS_len (l : List Ev) : (evsS l).length ≤ l.length := by
  induction l using snocV with
  | nil => exact Nat.le_refl _
  | snoc l c ih =>
    rw [evsS_snoc]
    split
    · rw [List.length_append]; omega
    · rw [List.length_append, List.length_append]; simp; omega
theorem evsS_any (l : List Ev) (s q : Int) : (evsS l).any (fun y => decide (nmV y = (s, q))) = decide (cntN l s q ≠ 0) := by
  induction l using snocV with
  | nil => rfl
  | snoc l c ih =>
    have e : cntN (l ++ [c]) s q = cntN l s q + if nmV c = (s, q) then 1 else 0 := by
      unfold cntN
      rw [List.filter_append, List.length_append]
      congr 1
      by_cases h : nmV c = (s, q) <;> simp [h]
    rw [evsS_snoc, e]
    split
    · rename_i h
      rw [ih]
      by_cases hc : nmV c = (s, q)
      · rw [hc] at h
        rw [h] at ih
        have : cntN l s q ≠ 0 := by simpa using ih.symm
        simp [hc, this]
      · simp [hc]
    · rename_i h
      rw [List.any_append, ih]
      by_cases hc : nmV c = (s, q)
      · simp [hc]
      · simp [hc]
theorem dist_tail {x : Ev} {l : List Ev} (h : DistV (x :: l)) : (x :: l).filter (fun y => decide (nmV y ≠ nmV x)) = l := by
  obtain ⟨h1, _⟩ := List.pairwise_cons.1 h
  rw [List.filter_cons_of_neg (by simp)]
  exact List.filter_eq_self.2 fun y hy => by simpa using (h1 y hy).symm
theorem dist_filter_len : ∀ {L : List Ev} {x : Ev}, DistV L → x ∈ L → (L.filter fun y => decide (nmV y ≠ nmV x)).length + 1 = L.length
  | [], x, _, h => by cases h
  | y :: L, x, hd, h => by
    obtain ⟨h1, h2⟩ := List.pairwise_cons.1 hd
    by_cases e : nmV y = nmV x
    · have : (L.filter fun z => decide (nmV z ≠ nmV x)) = L := List.filter_eq_self.2 fun z hz => by simpa [← e] using (h1 z hz).symm
      rw [List.filter_cons_of_neg (by simp [e]), this, List.length_cons]
    · have hx : x ∈ L := by
        rcases List.mem_cons.1 h with c | c
        · exact absurd (by rw [c]) e
        · exact c
      rw [List.filter_cons_of_pos (by simpa using e), List.length_cons, List.length_cons, dist_filter_len h2 hx]
/-- A list without the events of those names. -/
def cutsV (L l : List Ev) : List Ev := l.foldl (fun acc x => acc.filter fun y => decide (nmV y ≠ nmV x)) L
theorem cutsV_snoc (L l : List Ev) (x : Ev) : cutsV L (l ++ [x]) = (cutsV L l).filter fun y => decide (nmV y ≠ nmV x) := by unfold cutsV; rw [List.foldl_append]; rfl
theorem cutsV_mem (L l : List Ev) (y : Ev) : y ∈ cutsV L l ↔ y ∈ L ∧ ∀ x ∈ l, nmV y ≠ nmV x := by
  induction l using snocV with
  | nil => simp [cutsV]
  | snoc l c ih =>
    rw [cutsV_snoc, List.mem_filter, ih, decide_eq_true_eq]
    constructor
    · rintro ⟨⟨h1, h2⟩, h3⟩
      refine ⟨h1, fun x hx => ?_⟩
      rcases List.mem_append.1 hx with e | e
      · exact h2 x e
      · rw [List.mem_singleton.1 e]; exact h3
    · rintro ⟨h1, h2⟩
      exact ⟨⟨h1, fun x hx => h2 x (List.mem_append.2 (.inl hx))⟩, h2 c (by simp)⟩
theorem cutsV_asc {L : List Ev} (h : AscV L) (l : List Ev) : AscV (cutsV L l) := by
  induction l using snocV with
  | nil => exact h
  | snoc l c ih => rw [cutsV_snoc]; exact ih.filter _
theorem cutsV_one (L : List Ev) (x : Ev) : cutsV L [x] = L.filter fun y => decide (nmV y ≠ nmV x) := rfl
end Go.Proofs.YtcjkeobjojmpfaaGreat
