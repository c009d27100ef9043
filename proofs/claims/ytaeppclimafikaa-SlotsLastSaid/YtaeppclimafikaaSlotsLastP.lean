/-
  PLAIN: the stack of what was given back, and the places that were never taken.
-/
import Derived.Test.YtaeppclimafikaaSlotsQ
namespace Go.Proofs.Ytaeppclimafikaa

structure LastOk (n k : Nat) (S : Tb) (bk : List (Nat × Nat)) (fr : Nat) : Prop where
  free : S.free = (bk.reverse.map fun e => e.1) ++ (List.range n).drop fr
  life : ∀ e ∈ bk, S.life e.1 = e.2
  fresh : fr ≤ n ∧ ∀ p, fr ≤ p → p < n → S.life p = 0
theorem LastOk.new (n k : Nat) : LastOk n k (newT n) [] 0 := ⟨rfl, fun e h => (by cases h), Nat.zero_le _, fun _ _ _ => rfl⟩
theorem LastOk.worn {n k : Nat} {S : Tb} {bk : List (Nat × Nat)} {fr : Nat} (h : LastOk n k S bk fr) {p : Nat} (hp : S.life p = k) : LastOk n k (giveT k S p) bk fr :=
  ⟨by show (if S.life p = k then S.free else p :: S.free) = _; rw [if_pos hp]; exact h.free, h.life, h.fresh⟩
theorem LastOk.back {n k : Nat} {S : Tb} {bk : List (Nat × Nat)} {fr : Nat} (h : LastOk n k S bk fr) {p : Nat} (hp : ¬ S.life p = k) : LastOk n k (giveT k S p) (bk ++ [(p, S.life p)]) fr := by
  refine ⟨?_, fun e he => ?_, h.fresh⟩
  · show (if S.life p = k then S.free else p :: S.free) = _
    rw [if_neg hp, h.free, List.reverse_append]
    rfl
  · rcases List.mem_append.1 he with he | he
    · exact h.life e he
    · simp at he; rw [he]; rfl
theorem mem_drop_range {n fr p : Nat} : p ∈ (List.range n).drop fr ↔ fr ≤ p ∧ p < n := by
  constructor
  · intro h
    obtain ⟨i, hi, e⟩ := List.getElem_of_mem h
    simp at hi e
    omega
  · rintro ⟨h1, h2⟩
    refine List.mem_of_getElem? (i := p - fr) ?_
    rw [List.getElem?_drop, show fr + (p - fr) = p by omega, List.getElem?_range h2]
/-- The last one given back comes first. -/
theorem LastOk.top {n k : Nat} {S : Tb} {bk : List (Nat × Nat)} {e : Nat × Nat} {fr : Nat} (h : LastOk n k S (bk ++ [e]) fr) (ho : TOk n k S) : S.free = e.1 :: ((bk.reverse.map fun e => e.1) ++ (List.range n).drop fr) ∧ S.life e.1 = e.2 ∧ LastOk n k (takeT S e.1 ((bk.reverse.map fun e => e.1) ++ (List.range n).drop fr)) bk fr := by
  have hf := h.free
  rw [List.reverse_append] at hf
  have hf2 : S.free = e.1 :: ((bk.reverse.map fun e => e.1) ++ (List.range n).drop fr) := hf
  have hn := ho.nodup
  rw [hf2] at hn
  have hne := (List.nodup_cons.1 hn).1
  refine ⟨hf2, h.life e (by simp), rfl, fun x hx => ?_, h.fresh.1, fun p h1 h2 => ?_⟩
  · show (if x.1 = e.1 then S.life e.1 + 1 else S.life x.1) = x.2
    rw [if_neg (fun c => hne (by rw [← c]; exact List.mem_append_left _ (List.mem_map.2 ⟨x, List.mem_reverse.2 hx, rfl⟩)))]
    exact h.life x (List.mem_append_left _ hx)
  · show (if p = e.1 then S.life e.1 + 1 else S.life p) = 0
    rw [if_neg (fun c => hne (by rw [← c]; exact List.mem_append_right _ (mem_drop_range.2 ⟨h1, h2⟩)))]
    exact h.fresh.2 p h1 h2
theorem LastOk.next {n k : Nat} {S : Tb} {fr : Nat} (h : LastOk n k S [] fr) (hlt : fr < n) : S.free = fr :: (List.range n).drop (fr + 1) ∧ S.life fr = 0 ∧ LastOk n k (takeT S fr ((List.range n).drop (fr + 1))) [] (fr + 1) := by
  have hf : S.free = (List.range n).drop fr := h.free
  have hd : (List.range n).drop fr = fr :: (List.range n).drop (fr + 1) := by
    rw [List.drop_eq_getElem_cons (by simpa using hlt)]
    simp
  refine ⟨hf.trans hd, h.fresh.2 fr (Nat.le_refl _) hlt, rfl, fun e he => (by cases he), hlt, fun p h1 h2 => ?_⟩
  show (if p = fr then S.life fr + 1 else S.life p) = 0
  rw [if_neg (by omega)]
  exact h.fresh.2 p (by omega) h2
theorem LastOk.full {n k : Nat} {S : Tb} {bk : List (Nat × Nat)} {fr : Nat} (h : LastOk n k S bk fr) (hf : S.free = []) : bk = [] ∧ fr = n := by
  have := h.free
  rw [hf] at this
  have h2 := List.append_eq_nil_iff.1 this.symm
  constructor
  · simpa using h2.1
  · have := List.drop_eq_nil_iff.1 h2.2
    have h3 := h.fresh.1
    simp at this
    omega
def rfs (l : List (Nat × Nat)) : List (Int × Int) := l.map fun (e : Nat × Nat) => ((e.1 : Int), (e.2 : Int))
theorem rfs_len (l : List (Nat × Nat)) : (rfs l).length = l.length := by simp [rfs]
theorem rfs_snoc (l : List (Nat × Nat)) (e : Nat × Nat) : rfs (l ++ [e]) = rfs l ++ [((e.1 : Int), (e.2 : Int))] := by simp [rfs]
theorem snoc_or (l : List (Nat × Nat)) : l = [] ∨ ∃ l' e, l = l' ++ [e] := by
  rcases List.eq_nil_or_concat l with h | ⟨a, b, h⟩
  · exact .inl h
  · exact .inr ⟨a, b, by simpa using h⟩
end Go.Proofs.Ytaeppclimafikaa
