/-
  PLAIN FACTS about queues of events: events by their places, their names, and the list of all of them in order. No program is named here.
-/
import Derived.Test.YtecbpohkbniadaaGreatHeapP
import Derived.Test.YtecbpohkbniadaaGreatSlotsP
namespace Go.Proofs.YtecbpohkbniadaaGreat
open Go.RowKit

/-- An event: its key, for whom it is, its value. -/
abbrev Ev := Ky × Int × Int
def vV (x : Ev) : Value := .agg #[.int .i64 x.1.1, .int .i64 x.1.2.1, .int .i64 x.1.2.2, .int .i64 x.2.1, .int .i64 x.2.2]
def encV (x : Ev) : List Value := [.int .i64 x.1.1, .int .i64 x.1.2.1, .int .i64 x.1.2.2, .int .i64 x.2.1, .int .i64 x.2.2]
def RightV (x : Ev) : Prop := RightK x.1 ∧ 1 ≤ x.2.1 ∧ x.2.1 ≤ 16
instance (x : Ev) : Decidable (RightV x) := by unfold RightV; infer_instance
/-- The name of an event. -/
abbrev nmV (x : Ev) : Int × Int := x.1.2
def LtV (a b : Ev) : Prop := LessK a.1 b.1
instance (a b : Ev) : Decidable (LtV a b) := by unfold LtV; infer_instance
theorem ltV_trans {a b c : Ev} (h : LtV a b) (k : LtV b c) : LtV a c := less_trans h k
/-- In the order of the keys. -/
abbrev AscV (l : List Ev) : Prop := l.Pairwise LtV
theorem ascV_nodup {l : List Ev} (h : AscV l) : l.Nodup := List.Pairwise.imp (R := LtV) (S := fun a b => a ≠ b) (fun {a b} hab (e : a = b) => less_irrefl a.1 (by subst e; exact hab)) h
theorem ascV_unique : ∀ l m : List Ev, AscV l → AscV m → (∀ x, x ∈ l ↔ x ∈ m) → l = m
  | [], [], _, _, _ => rfl
  | [], y :: m, _, _, h => by have := (h y).2 (by simp); simp at this
  | x :: l, [], _, _, h => by have := (h x).1 (by simp); simp at this
  | x :: l, y :: m, hl, hm, h => by
    obtain ⟨l1, l2⟩ := List.pairwise_cons.1 hl
    obtain ⟨m1, m2⟩ := List.pairwise_cons.1 hm
    have hxy : x = y := by
      have hx := (h x).1 (by simp)
      have hy := (h y).2 (by simp)
      rcases List.mem_cons.1 hx with e | e
      · exact e
      · rcases List.mem_cons.1 hy with e2 | e2
        · exact e2.symm
        · exact absurd (ltV_trans (l1 y e2) (m1 x e)) (less_irrefl _)
    subst hxy
    have nx1 : x ∉ l := fun e => less_irrefl _ (l1 x e)
    have nx2 : x ∉ m := fun e => less_irrefl _ (m1 x e)
    rw [ascV_unique l m l2 m2 fun z => ?_]
    constructor
    · intro hz
      rcases List.mem_cons.1 ((h z).1 (List.mem_cons_of_mem _ hz)) with e | e
      · subst e; exact absurd hz nx1
      · exact e
    · intro hz
      rcases List.mem_cons.1 ((h z).2 (List.mem_cons_of_mem _ hz)) with e | e
      · subst e; exact absurd hz nx2
      · exact e
/-- An event put in its place. -/
def insV (x : Ev) : List Ev → List Ev
  | [] => [x]
  | y :: l => if LtV y x then y :: insV x l else x :: y :: l
theorem insV_perm (x : Ev) : ∀ l, (insV x l).Perm (x :: l)
  | [] => List.Perm.refl _
  | y :: l => by
    unfold insV
    split
    · exact ((insV_perm x l).cons y).trans (List.Perm.swap x y l)
    · exact List.Perm.refl _
theorem insV_mem (x : Ev) (l : List Ev) (z : Ev) : z ∈ insV x l ↔ z = x ∨ z ∈ l := by rw [(insV_perm x l).mem_iff, List.mem_cons]
theorem insV_len (x : Ev) (l : List Ev) : (insV x l).length = l.length + 1 := (insV_perm x l).length_eq
theorem insV_asc (x : Ev) : ∀ l, AscV l → (∀ y ∈ l, y.1 ≠ x.1) → AscV (insV x l)
  | [], _, _ => List.pairwise_singleton _ _
  | y :: l, h, hn => by
    obtain ⟨h1, h2⟩ := List.pairwise_cons.1 h
    unfold insV
    split
    · rename_i hy
      refine List.pairwise_cons.2 ⟨fun z hz => ?_, insV_asc x l h2 fun z hz => hn z (List.mem_cons_of_mem _ hz)⟩
      rcases (insV_mem x l z).1 hz with e | e
      · rw [e]; exact hy
      · exact h1 z e
    · rename_i hy
      have hxy : LtV x y := by
        rcases less_tri x.1 y.1 with e | e | e
        · exact e
        · exact absurd e.symm (hn y (by simp))
        · exact absurd e hy
      refine List.pairwise_cons.2 ⟨fun z hz => ?_, h⟩
      rcases List.mem_cons.1 hz with e | e
      · rw [e]; exact hxy
      · exact ltV_trans hxy (h1 z e)

/-- WHAT HOLDS BETWEEN THE PARTS OF A QUEUE: the events by their places, the heap's map, the table of places, the names. U is as often as any place was taken at most. -/
structure QS (cap U : Nat) (ev : Nat → Ev) (M : Mp) (S : Tb) (f : Int → Int → Option (Nat × Nat)) : Prop where
  ok : TOk cap 4294967296 S
  keys : ∀ p, M p = if p < cap ∧ S.tk p = true then some (ev p).1 else none
  names : ∀ s q p l, f s q = some (p, l) ↔ p < cap ∧ S.tk p = true ∧ nmV (ev p) = (s, q) ∧ l = S.life p
  right : ∀ p, p < cap → S.tk p = true → RightV (ev p)
  lives : ∀ p, S.life p ≤ U
/-- The list of a queue. -/
def lsQ (cap : Nat) (ev : Nat → Ev) (M : Mp) : List Ev := (ordM cap M).map fun e => ev e.2
section
variable {cap U : Nat} {ev : Nat → Ev} {M : Mp} {S : Tb} {f : Int → Int → Option (Nat × Nat)}
theorem QS.uniq (h : QS cap U ev M S f) {p p' : Nat} (hp : p < cap) (ht : S.tk p = true) (hp' : p' < cap) (ht' : S.tk p' = true) (e : nmV (ev p) = nmV (ev p')) : p = p' := by
  have h1 := (h.names _ _ p (S.life p)).2 ⟨hp, ht, rfl, rfl⟩
  have h2 := (h.names _ _ p' (S.life p')).2 ⟨hp', ht', rfl, rfl⟩
  have e1 : (ev p).1.2.1 = (ev p').1.2.1 := congrArg Prod.fst e
  have e2 : (ev p).1.2.2 = (ev p').1.2.2 := congrArg Prod.snd e
  rw [e1, e2] at h1
  rw [h1] at h2
  exact congrArg Prod.fst (Option.some.inj h2)
theorem QS.ord_mem (h : QS cap U ev M S f) (e : En) : e ∈ ordM cap M ↔ e.2 < cap ∧ S.tk e.2 = true ∧ e.1 = (ev e.2).1 := by
  obtain ⟨k, p⟩ := e
  rw [ordM_mem, h.keys p]
  constructor
  · rintro ⟨h1, h2⟩
    split at h2
    · rename_i c
      exact ⟨h1, c.2, (Option.some.inj h2).symm⟩
    · cases h2
  · rintro ⟨h1, h2, h3⟩
    refine ⟨h1, ?_⟩
    rw [if_pos ⟨h1, h2⟩]
    exact congrArg some h3.symm
theorem QS.mem (h : QS cap U ev M S f) (x : Ev) : x ∈ lsQ cap ev M ↔ ∃ p, p < cap ∧ S.tk p = true ∧ ev p = x := by
  unfold lsQ
  rw [List.mem_map]
  constructor
  · rintro ⟨e, he, rfl⟩
    obtain ⟨h1, h2, _⟩ := (h.ord_mem e).1 he
    exact ⟨e.2, h1, h2, rfl⟩
  · rintro ⟨p, h1, h2, rfl⟩
    exact ⟨((ev p).1, p), (h.ord_mem _).2 ⟨h1, h2, rfl⟩, rfl⟩
theorem pairwise_en {l : List En} {R : En → En → Prop} (h : ∀ i j, i < j → j < l.length → R (en l i) (en l j)) : l.Pairwise R := by
  rw [List.pairwise_iff_getElem]
  intro i j hi hj hij
  have h1 := en_get hi
  have h2 := en_get hj
  rw [List.getElem?_eq_getElem hi] at h1
  rw [List.getElem?_eq_getElem hj] at h2
  rw [Option.some.inj h1, Option.some.inj h2]
  exact h i j hij hj
theorem ordM_pair (cap : Nat) (M : Mp) : (ordM cap M).Pairwise LtE := pairwise_en (ordM_asc cap M)
theorem QS.asc (h : QS cap U ev M S f) : AscV (lsQ cap ev M) := by
  unfold lsQ
  refine List.pairwise_map.2 ?_
  refine (ordM_pair cap M).imp_of_mem ?_
  intro a b ha hb hab
  obtain ⟨a1, a2, a3⟩ := (h.ord_mem a).1 ha
  obtain ⟨b1, b2, b3⟩ := (h.ord_mem b).1 hb
  show LessK (ev a.2).1 (ev b.2).1
  rw [← a3, ← b3]
  rcases hab with e | ⟨e, e2⟩
  · exact e
  · have := h.uniq a1 a2 b1 b2 (show (ev a.2).1.2 = (ev b.2).1.2 by rw [← a3, ← b3, e])
    omega
theorem QS.len (h : QS cap U ev M S f) : (lsQ cap ev M).length = cnt cap S.tk := by
  unfold lsQ cnt
  rw [List.length_map]
  have e1 : ((ordM cap M).map Prod.snd).length = (ordM cap M).length := List.length_map ..
  have n1 : ((ordM cap M).map Prod.snd).Nodup := by
    refine List.pairwise_map.2 ((ordM_pair cap M).imp_of_mem ?_)
    intro a b ha hb hab e
    obtain ⟨_, _, a3⟩ := (h.ord_mem a).1 ha
    obtain ⟨_, _, b3⟩ := (h.ord_mem b).1 hb
    have : a = b := Prod.ext (by rw [a3, b3, e]) e
    subst this
    exact ltE_irrefl _ hab
  rw [← e1]
  refine (List.Perm.length_eq ?_)
  refine (List.perm_ext_iff_of_nodup n1 (pl_nodup _ _)).2 fun p => ?_
  rw [List.mem_map, pl_mem]
  constructor
  · rintro ⟨e, he, rfl⟩
    obtain ⟨h1, h2, _⟩ := (h.ord_mem e).1 he
    exact ⟨h1, h2⟩
  · rintro ⟨h1, h2⟩
    exact ⟨((ev p).1, p), (h.ord_mem _).2 ⟨h1, h2, rfl⟩, rfl⟩
/-- Where there is room, a place is free. -/
theorem QS.room (h : QS cap U ev M S f) (hU : U < 4294967296) (hl : (lsQ cap ev M).length < cap) : ∃ p r, S.free = p :: r := by
  have hs := h.ok.sum
  have hw : cnt cap (wornF 4294967296 S) = 0 := cnt_none _ _ fun p hp => by
    unfold wornF
    have := h.lives p
    simp
    intro _
    omega
  rw [h.len] at hl
  cases hf : S.free with
  | nil => rw [hf, hw] at hs; simp at hs; omega
  | cons p r => exact ⟨p, r, rfl⟩
theorem QS.new (cap : Nat) (ev : Nat → Ev) : QS cap 0 ev (fun _ => none) (newT cap) (fun _ _ => none) :=
  ⟨TOk.new cap (by omega), fun p => by simp [newT], fun s q p l => by simp [newT], fun p _ h => by simp [newT] at h, fun p => Nat.le_refl _⟩
def setV (ev : Nat → Ev) (p : Nat) (x : Ev) : Nat → Ev := fun q => if q = p then x else ev q
def nmS (f : Int → Int → Option (Nat × Nat)) (s q : Int) (v : Option (Nat × Nat)) : Int → Int → Option (Nat × Nat) := fun a b => if a = s ∧ b = q then v else f a b
/-- An event put in. -/
theorem QS.put (h : QS cap U ev M S f) {p : Nat} {r : List Nat} (hf : S.free = p :: r) (x : Ev) (hx : RightV x) (hn : f x.1.2.1 x.1.2.2 = none) :
    QS cap (U + 1) (setV ev p x) (updM M p (some x.1)) (takeT S p r) (nmS f x.1.2.1 x.1.2.2 (some (p, S.life p + 1))) := by
  obtain ⟨hp, ht, _, _⟩ := h.ok.head hf
  refine ⟨h.ok.take hf, fun q => ?_, fun s q p' l => ?_, fun q hq hk => ?_, fun q => ?_⟩
  · unfold updM setV takeT
    by_cases e : q = p
    · subst e; simp [hp]
    · simp only [if_neg e]; exact h.keys q
  · unfold nmS setV takeT
    by_cases e : s = x.1.2.1 ∧ q = x.1.2.2
    · obtain ⟨rfl, rfl⟩ := e
      simp only [and_self, if_true]
      constructor
      · intro c
        obtain ⟨rfl, rfl⟩ := Prod.mk.inj (Option.some.inj c)
        simp [hp, nmV]
      · rintro ⟨c1, c2, c3, c4⟩
        by_cases e : p' = p
        · subst e; simp at c4; rw [c4]
        · simp only [if_neg e] at c2 c3 c4
          have := (h.names x.1.2.1 x.1.2.2 p' l).2 ⟨c1, c2, c3, c4⟩
          rw [hn] at this; cases this
    · simp only [if_neg e]
      by_cases e2 : p' = p
      · subst e2
        simp only [if_true]
        constructor
        · intro c
          have := (h.names _ _ _ _).1 c
          rw [ht] at this
          exact absurd this.2.1 (by simp)
        · rintro ⟨_, _, c3, _⟩
          exact absurd ⟨(congrArg Prod.fst c3).symm, (congrArg Prod.snd c3).symm⟩ e
      · simp only [if_neg e2]
        exact h.names s q p' l
  · unfold setV
    by_cases e : q = p
    · rw [if_pos e]; exact hx
    · rw [if_neg e]
      refine h.right q hq ?_
      simpa [takeT, e] using hk
  · show (if q = p then S.life p + 1 else S.life q) ≤ U + 1
    have := h.lives q
    have := h.lives p
    split <;> omega
theorem QS.put_ls (h : QS cap U ev M S f) {p : Nat} {r : List Nat} (hf : S.free = p :: r) (x : Ev) (hx : RightV x) (hn : f x.1.2.1 x.1.2.2 = none) :
    lsQ cap (setV ev p x) (updM M p (some x.1)) = insV x (lsQ cap ev M) := by
  have h2 := h.put hf x hx hn
  obtain ⟨hp, ht, _, _⟩ := h.ok.head hf
  have hne : ∀ y ∈ lsQ cap ev M, y.1 ≠ x.1 := fun y hy e => by
    obtain ⟨p', c1, c2, rfl⟩ := (h.mem y).1 hy
    have := (h.names _ _ p' _).2 ⟨c1, c2, rfl, rfl⟩
    rw [e, hn] at this
    cases this
  refine ascV_unique _ _ h2.asc (insV_asc x _ h.asc hne) fun z => ?_
  rw [h2.mem, insV_mem, h.mem]
  constructor
  · rintro ⟨q, c1, c2, rfl⟩
    by_cases e : q = p
    · left; simp [setV, e]
    · right
      refine ⟨q, c1, by simpa [takeT, e] using c2, by simp [setV, e]⟩
  · rintro (rfl | ⟨q, c1, c2, rfl⟩)
    · exact ⟨p, hp, by simp [takeT], by simp [setV]⟩
    · have e : q ≠ p := fun e => by subst e; rw [ht] at c2; cases c2
      exact ⟨q, c1, by simpa [takeT, e] using c2, by simp [setV, e]⟩
/-- An event cut out. -/
theorem QS.cut (h : QS cap U ev M S f) {p : Nat} (hp : p < cap) (ht : S.tk p = true) :
    QS cap U ev (updM M p none) (giveT 4294967296 S p) (nmS f (ev p).1.2.1 (ev p).1.2.2 none) := by
  refine ⟨h.ok.give hp ht, fun q => ?_, fun s q p' l => ?_, fun q hq hk => ?_, h.lives⟩
  · unfold updM giveT
    by_cases e : q = p
    · subst e; simp
    · simp only [if_neg e]; exact h.keys q
  · unfold nmS giveT
    by_cases e : s = (ev p).1.2.1 ∧ q = (ev p).1.2.2
    · obtain ⟨rfl, rfl⟩ := e
      simp only [and_self, if_true]
      constructor
      · intro c; cases c
      · rintro ⟨c1, c2, c3, c4⟩
        by_cases e : p' = p
        · simp [e] at c2
        · simp only [if_neg e] at c2
          exact absurd (h.uniq c1 c2 hp ht c3) e
    · simp only [if_neg e]
      by_cases e2 : p' = p
      · subst e2
        constructor
        · intro c
          have := (h.names _ _ _ _).1 c
          exact absurd ⟨(congrArg Prod.fst this.2.2.1).symm, (congrArg Prod.snd this.2.2.1).symm⟩ e
        · rintro ⟨_, c, _⟩
          simp at c
      · simp only [if_neg e2]
        exact h.names s q p' l
  · refine h.right q hq ?_
    have hk2 : (if q = p then false else S.tk q) = true := hk
    by_cases e : q = p
    · simp [e] at hk2
    · simpa [e] using hk2
theorem QS.cut_ls (h : QS cap U ev M S f) {p : Nat} (hp : p < cap) (ht : S.tk p = true) :
    lsQ cap ev (updM M p none) = (lsQ cap ev M).filter fun y => decide (nmV y ≠ nmV (ev p)) := by
  have h2 := h.cut hp ht
  refine ascV_unique _ _ h2.asc (h.asc.filter _) fun z => ?_
  rw [h2.mem, List.mem_filter, h.mem, decide_eq_true_eq]
  constructor
  · rintro ⟨q, c1, c2, rfl⟩
    have c2 : (if q = p then false else S.tk q) = true := c2
    by_cases e : q = p
    · simp [e] at c2
    · rw [if_neg e] at c2
      exact ⟨⟨q, c1, c2, rfl⟩, fun c => e (h.uniq c1 c2 hp ht c)⟩
  · rintro ⟨⟨q, c1, c2, rfl⟩, c3⟩
    have e : q ≠ p := fun e => c3 (by rw [e])
    exact ⟨q, c1, (show (if q = p then false else S.tk q) = true by rw [if_neg e]; exact c2), rfl⟩
theorem QS.none_iff (h : QS cap U ev M S f) (s q : Int) : f s q = none ↔ ∀ y ∈ lsQ cap ev M, nmV y ≠ (s, q) := by
  constructor
  · intro hn y hy e
    obtain ⟨p, c1, c2, rfl⟩ := (h.mem y).1 hy
    have := (h.names s q p _).2 ⟨c1, c2, e, rfl⟩
    rw [hn] at this; cases this
  · intro hy
    cases hf : f s q with
    | none => rfl
    | some r =>
      obtain ⟨p, l⟩ := r
      obtain ⟨c1, c2, c3, _⟩ := (h.names s q p l).1 hf
      exact absurd c3 (hy _ ((h.mem _).2 ⟨p, c1, c2, rfl⟩))
end
end Go.Proofs.YtecbpohkbniadaaGreat
