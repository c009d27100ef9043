/-
  PLAIN: what Clear leaves.
-/
import Derived.Test.YtaeppclimafikaaSlotsP
namespace Go.Proofs.Ytaeppclimafikaa

/-- The places of l given back, one behind the other. -/
def clrT (k : Nat) (S : Tb) (l : List Nat) : Tb := l.foldl (giveT k) S
theorem clr_cons (k : Nat) (S : Tb) (p : Nat) (l : List Nat) : clrT k S (p :: l) = clrT k (giveT k S p) l := rfl
theorem clr_snoc (k : Nat) (S : Tb) (l : List Nat) (p : Nat) : clrT k S (l ++ [p]) = giveT k (clrT k S l) p := by unfold clrT; rw [List.foldl_append]; rfl
theorem clr_life (k : Nat) : ∀ (l : List Nat) (S : Tb), (clrT k S l).life = S.life
  | [], _ => rfl
  | p :: l, S => by rw [clr_cons, clr_life k l]; rfl
theorem clr_tk (k : Nat) : ∀ (l : List Nat) (S : Tb) (q : Nat), (clrT k S l).tk q = if q ∈ l then false else S.tk q
  | [], _, _ => by simp [clrT]
  | p :: l, S, q => by
    rw [clr_cons, clr_tk k l]
    show (if q ∈ l then false else if q = p then false else S.tk q) = _
    by_cases h : q ∈ l
    · simp [h]
    · by_cases e : q = p
      · simp [e]
      · simp [h, e]
theorem clr_free (k : Nat) : ∀ (l : List Nat) (S : Tb), (clrT k S l).free = (l.filter fun p => !decide (S.life p = k)).reverse ++ S.free
  | [], _ => rfl
  | p :: l, S => by
    rw [clr_cons, clr_free k l]
    show (l.filter fun p => !decide (S.life p = k)).reverse ++ (if S.life p = k then S.free else p :: S.free) = _
    by_cases e : S.life p = k
    · rw [if_pos e, List.filter_cons_of_neg (by simp [e])]
    · rw [if_neg e, List.filter_cons_of_pos (by simp [e]), List.reverse_cons, List.append_assoc]; rfl
theorem clr_ok {n k : Nat} : ∀ (l : List Nat) (S : Tb), TOk n k S → l.Nodup → (∀ p ∈ l, p < n ∧ S.tk p = true) → TOk n k (clrT k S l)
  | [], _, h, _, _ => h
  | p :: l, S, h, hn, hl => by
    rw [clr_cons]
    have h1 := hl p List.mem_cons_self
    refine clr_ok l _ (h.give h1.1 h1.2) (List.nodup_cons.1 hn).2 fun q hq => ?_
    have h2 := hl q (List.mem_cons_of_mem _ hq)
    refine ⟨h2.1, ?_⟩
    show (if q = p then false else S.tk q) = true
    rw [if_neg (fun e : q = p => (List.nodup_cons.1 hn).1 (by rw [← e]; exact hq))]
    exact h2.2
theorem take_snoc (l : List Nat) (j : Nat) (h : j < l.length) : l.take (j + 1) = l.take j ++ [fq l j] := by
  rw [List.take_add_one, List.getElem?_eq_getElem h]
  unfold fq
  rw [List.getD_eq_getElem?_getD, List.getElem?_eq_getElem h]
  rfl
theorem nodup_take {l : List Nat} (hn : l.Nodup) {j : Nat} (h : j < l.length) : fq l j ∉ l.take j := by
  intro hm
  have e : l = l.take j ++ (fq l j :: l.drop (j + 1)) := by
    have := drop_get h
    show l = l.take j ++ (l.getD j 0 :: l.drop (j + 1))
    rw [← this, List.take_append_drop]
  rw [e] at hn
  have := (List.nodup_append.1 hn).2.2 _ hm (fq l j) List.mem_cons_self
  exact this rfl
theorem fq_mem {l : List Nat} {j : Nat} (h : j < l.length) : fq l j ∈ l := by
  unfold fq
  rw [List.getD_eq_getElem?_getD, List.getElem?_eq_getElem h]
  exact List.getElem_mem h
/-- What Take does. -/
def takeF (S : Tb) : (Nat × Nat) × Nat × Tb := match S.free with
  | [] => ((0, 0), 4, S)
  | p :: r => ((p, S.life p + 1), 0, takeT S p r)
theorem takeF_nil {S : Tb} (h : S.free = []) : takeF S = ((0, 0), 4, S) := by unfold takeF; rw [h]
theorem takeF_cons {S : Tb} {p : Nat} {r : List Nat} (h : S.free = p :: r) : takeF S = ((p, S.life p + 1), 0, takeT S p r) := by unfold takeF; rw [h]
/-- What step does. -/
def stepF (n k : Nat) (S : Tb) (x : Nat) : (Nat × Nat) × Bool × Nat × Tb :=
  if x % 2 = 0 ∨ cnt n S.tk = 0 then ((takeF S).1, true, (takeF S).2.1, (takeF S).2.2)
  else ((fq (pl n S.tk) (x / 2 % cnt n S.tk), S.life (fq (pl n S.tk) (x / 2 % cnt n S.tk))), false, 0, giveT k S (fq (pl n S.tk) (x / 2 % cnt n S.tk)))
theorem stepF_take {n k : Nat} {S : Tb} {x : Nat} (h : x % 2 = 0 ∨ cnt n S.tk = 0) : stepF n k S x = ((takeF S).1, true, (takeF S).2.1, (takeF S).2.2) := by unfold stepF; rw [if_pos h]
theorem stepF_give {n k : Nat} {S : Tb} {x : Nat} (h : ¬ (x % 2 = 0 ∨ cnt n S.tk = 0)) : stepF n k S x = ((fq (pl n S.tk) (x / 2 % cnt n S.tk), S.life (fq (pl n S.tk) (x / 2 % cnt n S.tk))), false, 0, giveT k S (fq (pl n S.tk) (x / 2 % cnt n S.tk))) := by unfold stepF; rw [if_neg h]
theorem live_place {n : Nat} {S : Tb} (x : Nat) (h : ¬ cnt n S.tk = 0) : fq (pl n S.tk) (x % cnt n S.tk) < n ∧ S.tk (fq (pl n S.tk) (x % cnt n S.tk)) = true :=
  pl_mem.1 (fq_mem (show x % cnt n S.tk < (pl n S.tk).length from Nat.mod_lt _ (by omega)))
end Go.Proofs.Ytaeppclimafikaa
