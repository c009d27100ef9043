/-
  PLAIN: the frames of bodies, their beginnings, and what is behind them.
-/
import Derived.Test.YteaeedhhdnkldaaEqualM
import Derived.Test.YteaeedhhdnkldaaPlain03
namespace Go.Proofs.Yteaeedhhdnkldaa
open Go.RowKit Pl

theorem frm_two {n : Nat} (h1 : 246 < n) (h2 : n ≤ 255) : form n = [247, n] := by
  have hd : digs n = [n] := by
    unfold digs
    have e : n / 256 = 0 := by omega
    simp [dg, e, show n ≠ 0 by omega]
    omega
  unfold form
  rw [if_neg (by omega), hd]
  rfl
theorem frm_three {n : Nat} (h1 : 255 < n) (h2 : n ≤ 16384) : form n = [248, n / 256, n % 256] := by
  have hd : digs n = [n / 256, n % 256] := by
    unfold digs
    have e : n / 256 / 256 = 0 := by omega
    simp [dg, e, show n ≠ 0 by omega, show n / 256 ≠ 0 by omega]
    omega
  unfold form
  rw [if_neg (by omega), hd]
  rfl
theorem frm_all (n : Nat) (h : n ≤ 16384) : (n ≤ 246 ∧ form n = [n]) ∨ (246 < n ∧ n ≤ 255 ∧ form n = [247, n]) ∨ (255 < n ∧ form n = [248, n / 256, n % 256]) := by
  by_cases h1 : n ≤ 246
  · exact .inl ⟨h1, by unfold form; rw [if_pos h1]⟩
  by_cases h2 : n ≤ 255
  · exact .inr (.inl ⟨by omega, h2, frm_two (by omega) h2⟩)
  · exact .inr (.inr ⟨by omega, frm_three (by omega) h⟩)
theorem fr1_AllB {m : List Nat} (h : AllB m) : AllB (fr1 m) := (form_allB _).append h
theorem fr1_length (m : List Nat) : (fr1 m).length = (form m.length).length + m.length := by unfold fr1; rw [List.length_append]
/-- A frame, whatever follows. -/
theorem bnd_fr (m r : List Nat) (h : m.length ≤ 16384) : bnd (fr1 m ++ r) = some ((form m.length).length, (fr1 m).length) := by
  rw [fr1_length]
  unfold fr1
  rcases frm_all m.length h with ⟨h1, e⟩ | ⟨h1, h2, e⟩ | ⟨h1, e⟩ <;> rw [e]
  · simp [bnd, h1]
  · simp [bnd, show ¬ m.length < 247 by omega]
  · have h3 : m.length / 256 ≠ 0 := by omega
    have h4 : ¬ 16384 < 256 * (m.length / 256) + m.length % 256 := by omega
    simp only [List.cons_append, List.nil_append, bnd, List.length_cons, List.length_nil]
    rw [if_neg (by omega), if_neg (by omega), if_pos (by trivial), if_neg (by omega)]
    simp only [Option.some.injEq, Prod.mk.injEq, true_and]
    omega
theorem fr_read (m r : List Nat) (h : m.length ≤ 16384) : ferr (fr1 m ++ r) = 0 ∧ fsize (fr1 m ++ r) = (fr1 m).length ∧ fbody (fr1 m ++ r) = m := by
  have hb := bnd_fr m r h
  have hl : ¬ (fr1 m ++ r).length < (fr1 m).length := by rw [List.length_append]; omega
  refine ⟨?_, ?_, ?_⟩
  · unfold ferr; rw [hb]; exact if_neg hl
  · unfold fsize; rw [hb]; exact if_neg hl
  · unfold fbody
    rw [hb]
    show (if _ then _ else _) = _
    rw [if_neg hl, fr1_length]
    unfold fr1
    rw [List.append_assoc, List.drop_left, show (form m.length).length + m.length - (form m.length).length = m.length by omega, List.take_left]
/-- The frames of bodies, read, with something behind that is no whole frame. -/
theorem frA_join (L : List (List Nat)) (hL : ∀ l ∈ L, l.length ≤ 16384) : ∀ (a : Nat) (r : List Nat), ferr r ≠ 0 → (frA a (joinF L ++ r)).map (·.2) = L ∧ ((frA a (joinF L ++ r)).getLast?.map (·.1)).getD a = a + (joinF L).length := by
  induction L with
  | nil => intro a r hr; simp only [joinF, List.flatMap_nil, List.nil_append]; rw [frA_end a hr]; exact ⟨rfl, rfl⟩
  | cons m L ih =>
    intro a r hr
    have e : joinF (m :: L) ++ r = fr1 m ++ (joinF L ++ r) := by simp [joinF]
    obtain ⟨h1, h2, h3⟩ := fr_read m (joinF L ++ r) (hL m (by simp))
    obtain ⟨i1, i2⟩ := ih (fun l hl => hL l (by simp [hl])) (a + (fr1 m).length) r hr
    rw [e, frA_step a h1, h2, h3, List.drop_left]
    refine ⟨by simp [i1], ?_⟩
    have e2 : (joinF (m :: L)).length = (fr1 m).length + (joinF L).length := by simp [joinF]
    rw [e2, List.getLast?_cons]
    cases hg : (frA (a + (fr1 m).length) (joinF L ++ r)).getLast? with
    | none => rw [hg] at i2; simp at i2 ⊢; omega
    | some p => rw [hg] at i2; simp at i2 ⊢; omega
theorem spl_join (L : List (List Nat)) (hL : ∀ l ∈ L, l.length ≤ 16384) (r : List Nat) (hr : ferr r ≠ 0) : splB (joinF L ++ r) = L ∧ splS (joinF L ++ r) = (joinF L).length ∧ splE (joinF L ++ r) = if r.length = 0 then 0 else ferr r := by
  obtain ⟨h1, h2⟩ := frA_join L hL 0 r hr
  have hS : splS (joinF L ++ r) = (joinF L).length := by unfold splS lastE frq; rw [h2]; omega
  refine ⟨by unfold splB frq; exact h1, hS, ?_⟩
  unfold splE
  rw [hS, List.length_append, List.drop_left]
  by_cases h : r.length = 0
  · rw [if_pos h, if_pos (by omega)]
  · rw [if_neg h, if_neg (by omega)]
theorem spl_joined (L : List (List Nat)) (hL : ∀ l ∈ L, l.length ≤ 16384) : splB (joinF L) = L ∧ splS (joinF L) = (joinF L).length ∧ splE (joinF L) = 0 := by
  have := spl_join L hL [] (by rw [ferr_nil]; decide)
  simpa using this
theorem joinF_AllB {L : List (List Nat)} (h : ∀ l ∈ L, AllB l) : AllB (joinF L) := by
  intro d hd
  simp only [joinF, List.mem_flatMap] at hd
  obtain ⟨l, hl, hd⟩ := hd
  exact fr1_AllB (h l hl) d hd
theorem joinF_le {L : List (List Nat)} {c : Nat} (h : ∀ l ∈ L, l.length ≤ c) : (joinF L).length ≤ L.length * (c + 9) := by
  induction L with
  | nil => simp [joinF]
  | cons m L ih =>
    have h1 := h m (by simp)
    have h2 := ih (fun l hl => h l (by simp [hl]))
    have h3 := (form_length m.length).2
    have e2 : (joinF (m :: L)).length = (fr1 m).length + (joinF L).length := by simp [joinF]
    rw [e2, fr1_length, List.length_cons, Nat.succ_mul]
    omega
theorem joinV_ok {L : List (List Nat)} (h : ∀ l ∈ L, l.length ≤ 16384) : joinV L = (joinF L, -1, 0) := by
  have ht : ∀ (L : List (List Nat)), (∀ l ∈ L, l.length ≤ 16384) → ∀ k, tooL k L = none := by
    intro L
    induction L with
    | nil => intro _ k; rfl
    | cons m L ih => intro h k; simp only [tooL]; rw [if_neg (by have := h m (by simp); omega)]; exact ih (fun l hl => h l (by simp [hl])) _
  unfold joinV
  rw [ht L h 0]

/-- A beginning of a frame needs something, and no more than is missing. -/
theorem bnd_begin (m : List Nat) (h : m.length ≤ 16384) (k : Nat) (hk : k < (fr1 m).length) : ∃ f t, bnd ((fr1 m).take k) = some (f, t) ∧ k < t ∧ t ≤ (fr1 m).length := by
  rw [fr1_length] at hk ⊢
  unfold fr1
  rcases frm_all m.length h with ⟨h1, e⟩ | ⟨h1, h2, e⟩ | ⟨h1, e⟩ <;> rw [e] at hk ⊢ <;> simp only [List.length_cons, List.length_nil] at hk ⊢
  · match k, hk with
    | 0, _ => exact ⟨1, 1, rfl, by omega, by omega⟩
    | k + 1, hk => exact ⟨1, 1 + m.length, by simp [bnd, h1], by omega, by omega⟩
  · match k, hk with
    | 0, _ => exact ⟨1, 1, rfl, by omega, by omega⟩
    | 1, _ => exact ⟨2, 249, by simp [bnd], by omega, by omega⟩
    | k + 2, hk => exact ⟨2, 2 + m.length, by simp [bnd, show ¬ m.length < 247 by omega], by omega, by omega⟩
  · have h3 : m.length / 256 ≠ 0 := by omega
    match k, hk with
    | 0, _ => exact ⟨1, 1, rfl, by omega, by omega⟩
    | 1, _ => exact ⟨3, 259, by simp [bnd], by omega, by omega⟩
    | 2, _ =>
      refine ⟨3, 3 + 256 * (m.length / 256), ?_, by omega, by omega⟩
      show bnd [248, m.length / 256] = _
      simp only [bnd]
      rw [if_neg (by omega), if_neg (by omega), if_pos (by trivial), if_neg (by omega)]
    | k + 3, hk =>
      refine ⟨3, 3 + (256 * (m.length / 256) + m.length % 256), ?_, by omega, by omega⟩
      show bnd (248 :: m.length / 256 :: m.length % 256 :: m.take k) = _
      simp only [bnd]
      rw [if_neg (by omega), if_neg (by omega), if_pos (by trivial), if_neg (by omega)]
/-- What follows makes a frame no shorter. -/
theorem bnd_mono {p q : List Nat} {f t f' t' : Nat} (h : bnd p = some (f, t)) (h' : bnd (p ++ q) = some (f', t')) : t ≤ t' := by
  match p, h, h' with
  | [], h, h' =>
    simp only [bnd, Option.some.injEq, Prod.mk.injEq] at h
    have := bnd_pos h'
    omega
  | d :: p, h, h' =>
    simp only [bnd, List.cons_append] at h h'
    by_cases h1 : d ≤ 246
    · rw [if_pos h1] at h h'; simp at h h'; omega
    rw [if_neg h1] at h h'
    by_cases h2 : d = 247
    · rw [if_pos h2] at h h'
      match p, h, h' with
      | [], h, h' =>
        match q, h' with
        | [], h' => simp at h h'; omega
        | x :: q, h' =>
          simp only [List.nil_append] at h'
          split at h'
          · cases h'
          · simp at h h'; omega
      | x :: p, h, h' =>
        simp only [List.cons_append] at h h'
        split at h
        · cases h
        · rename_i hx; rw [if_neg hx] at h'; simp at h h'; omega
    rw [if_neg h2] at h h'
    by_cases h3 : d = 248
    · rw [if_pos h3] at h h'
      match p, h, h' with
      | [], h, h' =>
        match q, h' with
        | [], h' => simp at h h'; omega
        | [x], h' =>
          simp only [List.nil_append] at h'
          split at h'
          · cases h'
          · simp at h h'; omega
        | x :: y :: q, h' =>
          simp only [List.nil_append] at h'
          split at h'
          · cases h'
          · simp at h h'; omega
      | [x], h, h' =>
        simp only [] at h
        split at h
        · cases h
        · match q, h' with
          | [], h' =>
            simp only [List.append_nil] at h'
            split at h'
            · cases h'
            · simp at h h'; omega
          | y :: q, h' =>
            simp only [List.cons_append, List.nil_append] at h'
            split at h'
            · cases h'
            · simp at h h'; omega
      | x :: y :: p, h, h' =>
        simp only [List.cons_append] at h h'
        split at h
        · cases h
        · rename_i hx; rw [if_neg hx] at h'; simp at h h'; omega
    · rw [if_neg h3] at h; cases h
/-- With less than it needs a beginning is no frame, whatever follows. -/
theorem ferr_less {p q : List Nat} {f t : Nat} (h : bnd p = some (f, t)) (hq : p.length + q.length < t) : ferr (p ++ q) ≠ 0 := by
  unfold ferr
  cases hb : bnd (p ++ q) with
  | none => simp
  | some x =>
    obtain ⟨f', t'⟩ := x
    have := bnd_mono h hb
    show (if _ then _ else _) ≠ 0
    rw [if_pos (by rw [List.length_append]; omega)]
    decide
/-- The law's own bytes that make a frame of a beginning. -/
def leastL (p : List Nat) (n : Nat) : List Nat := if p = [247] then 247 :: List.replicate (n - 1) 0 else if p = [248] then 1 :: List.replicate (n - 1) 0 else List.replicate n 0
theorem leastL_length (p : List Nat) (n : Nat) (h : 1 ≤ n) : (leastL p n).length = n := by
  unfold leastL
  split
  · simp; omega
  · split
    · simp; omega
    · simp
theorem bnd_least {p : List Nat} {f t : Nat} (h : bnd p = some (f, t)) (hlt : p.length < t) : bnd (p ++ leastL p (t - p.length)) = some (f, t) := by
  match p, h, hlt with
  | [], h, _ =>
    simp only [bnd, Option.some.injEq, Prod.mk.injEq] at h
    obtain ⟨rfl, rfl⟩ := h
    rfl
  | d :: p, h, hlt =>
    by_cases h1 : d ≤ 246
    · have e : ∀ r, bnd (d :: r) = some (1, 1 + d) := fun r => by simp [bnd, h1]
      rw [e] at h
      rw [List.cons_append, e]
      exact h
    by_cases h2 : d = 247
    · subst h2
      match p, h, hlt with
      | [], h, _ =>
        have e : (some (2, 249) : Option (Nat × Nat)) = some (f, t) := h
        simp only [Option.some.injEq, Prod.mk.injEq] at e
        obtain ⟨rfl, rfl⟩ := e
        unfold leastL
        rw [if_pos rfl]
        rfl
      | x :: p, h, hlt =>
        have e : ∀ r, bnd (247 :: x :: r) = if x < 247 then none else some (2, 2 + x) := fun r => by simp [bnd]
        rw [e] at h
        rw [List.cons_append, List.cons_append, e]
        exact h
    by_cases h3 : d = 248
    · subst h3
      match p, h, hlt with
      | [], h, _ =>
        have e : (some (3, 259) : Option (Nat × Nat)) = some (f, t) := h
        simp only [Option.some.injEq, Prod.mk.injEq] at e
        obtain ⟨rfl, rfl⟩ := e
        unfold leastL
        rw [if_neg (by decide), if_pos rfl]
        rfl
      | [x], h, hlt =>
        have e : (if x = 0 ∨ 64 < x then none else some (3, 3 + 256 * x) : Option (Nat × Nat)) = some (f, t) := h
        by_cases hx : x = 0 ∨ 64 < x
        · rw [if_pos hx] at e; cases e
        rw [if_neg hx] at e
        simp only [Option.some.injEq, Prod.mk.injEq] at e
        obtain ⟨rfl, rfl⟩ := e
        have el : leastL [248, x] (3 + 256 * x - [248, x].length) = 0 :: List.replicate (256 * x) 0 := by
          unfold leastL
          rw [if_neg (by simp), if_neg (by simp), show 3 + 256 * x - [248, x].length = 256 * x + 1 by simp; omega, List.replicate_succ]
        rw [el]
        simp only [List.cons_append, List.nil_append, bnd]
        rw [if_neg (by omega), if_neg (by omega), if_pos (by trivial), if_neg (by omega)]
        rfl
      | x :: y :: p, h, hlt =>
        have e : ∀ r, bnd (248 :: x :: y :: r) = if x = 0 ∨ 16384 < 256 * x + y then none else some (3, 3 + (256 * x + y)) := fun r => by simp [bnd]
        rw [e] at h
        rw [List.cons_append, List.cons_append, List.cons_append, e]
        exact h
    · have : bnd (d :: p) = none := by simp [bnd, h1, h2, h3]
      rw [this] at h
      cases h
theorem ferr_least {p : List Nat} {f t : Nat} (h : bnd p = some (f, t)) (hlt : p.length < t) : ferr (p ++ leastL p (t - p.length)) = 0 ∧ fsize (p ++ leastL p (t - p.length)) = t := by
  have hb := bnd_least h hlt
  have hl : ¬ (p ++ leastL p (t - p.length)).length < t := by rw [List.length_append, leastL_length _ _ (by omega)]; omega
  exact ⟨by unfold ferr; rw [hb]; exact if_neg hl, by unfold fsize; rw [hb]; exact if_neg hl⟩
end Go.Proofs.Yteaeedhhdnkldaa
