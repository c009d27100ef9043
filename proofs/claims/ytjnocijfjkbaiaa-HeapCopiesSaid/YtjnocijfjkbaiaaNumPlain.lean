/-
  PLAIN: numbers and their forms as lists of numbers below 256: digits in base 256, forms, what is read of bytes, lists of forms, folds. No program is named here.
-/
import Derived.WalkKit
namespace Go.Proofs.Ytjnocijfjkbaiaa.Pl

/-- At most k digits of x in base 256, the highest first. -/
def dg : Nat → Nat → List Nat
  | 0, _ => []
  | k + 1, x => if x = 0 then [] else dg k (x / 256) ++ [x % 256]
def digs (x : Nat) : List Nat := dg 8 x
def val (l : List Nat) : Nat := l.foldl (fun a d => a * 256 + d) 0
def form (x : Nat) : List Nat := if x ≤ 246 then [x] else (246 + (digs x).length) :: digs x
def AllB (l : List Nat) : Prop := ∀ d ∈ l, d < 256

theorem AllB.nil : AllB [] := fun _ h => by cases h
theorem AllB.append {a b : List Nat} (ha : AllB a) (hb : AllB b) : AllB (a ++ b) := fun d hd => by
  rcases List.mem_append.1 hd with h | h
  · exact ha d h
  · exact hb d h
theorem AllB.cons {d : Nat} {l : List Nat} (h : d < 256) (hl : AllB l) : AllB (d :: l) := fun x hx => by
  rcases List.mem_cons.1 hx with e | e
  · omega
  · exact hl x e
theorem AllB.take {l : List Nat} (h : AllB l) (k : Nat) : AllB (l.take k) := fun d hd => h d (List.mem_of_mem_take hd)
theorem AllB.drop {l : List Nat} (h : AllB l) (k : Nat) : AllB (l.drop k) := fun d hd => h d (List.mem_of_mem_drop hd)
theorem AllB.getD {l : List Nat} (h : AllB l) (i : Nat) : l.getD i 0 < 256 := by
  rw [List.getD_eq_getElem?_getD]
  cases hi : l[i]? with
  | none => simp
  | some d => exact h d (List.mem_of_getElem? hi)

theorem dg_length (k : Nat) : ∀ x, (dg k x).length ≤ k := by
  induction k with
  | zero => intro x; simp [dg]
  | succ k ih => intro x; unfold dg; split
                 · simp
                 · have := ih (x / 256); simp; omega
theorem dg_allB (k : Nat) : ∀ x, AllB (dg k x) := by
  induction k with
  | zero => intro x; exact AllB.nil
  | succ k ih => intro x; unfold dg; split
                 · exact AllB.nil
                 · exact (ih _).append (AllB.cons (by omega) AllB.nil)
theorem digs_length (x : Nat) : (digs x).length ≤ 8 := dg_length 8 x
theorem digs_allB (x : Nat) : AllB (digs x) := dg_allB 8 x

theorem val_nil : val [] = 0 := rfl
theorem val_snoc (l : List Nat) (d : Nat) : val (l ++ [d]) = val l * 256 + d := by simp [val, List.foldl_append]
theorem foldl_val (l : List Nat) : ∀ a, l.foldl (fun a d => a * 256 + d) a = a * 256 ^ l.length + val l := by
  induction l with
  | nil => intro a; simp [val]
  | cons d l ih =>
    intro a
    simp only [List.foldl_cons, List.length_cons, val]
    rw [ih, ih (0 * 256 + d)]
    rw [Nat.pow_succ, Nat.add_mul]
    have : a * 256 * 256 ^ l.length = a * (256 ^ l.length * 256) := by rw [Nat.mul_assoc, Nat.mul_comm 256]
    simp only [Nat.zero_mul, Nat.zero_add]
    omega
theorem val_cons (d : Nat) (l : List Nat) : val (d :: l) = d * 256 ^ l.length + val l := by
  show l.foldl _ (0 * 256 + d) = _
  rw [foldl_val]; simp
theorem val_lt (l : List Nat) (h : AllB l) : val l < 256 ^ l.length := by
  induction l with
  | nil => simp [val]
  | cons d l ih =>
    rw [val_cons]
    have h1 := ih (fun x hx => h x (by simp [hx]))
    have h2 := h d (by simp)
    have h3 : d * 256 ^ l.length + 256 ^ l.length ≤ 256 * 256 ^ l.length := by
      rw [← Nat.succ_mul]; exact Nat.mul_le_mul_right _ h2
    simp only [List.length_cons, Nat.pow_succ]
    omega

theorem val_dg (k : Nat) : ∀ x, x < 256 ^ k → val (dg k x) = x := by
  induction k with
  | zero => intro x h; simp at h; subst h; rfl
  | succ k ih =>
    intro x h
    unfold dg
    split
    · rename_i h0; subst h0; rfl
    · rw [val_snoc, ih (x / 256) (by rw [Nat.pow_succ] at h; omega)]; omega
theorem val_digs (x : Nat) (h : x < 18446744073709551616) : val (digs x) = x := val_dg 8 x (by simpa using h)

theorem dg_cons (k : Nat) : ∀ x, x ≠ 0 → x < 256 ^ k → ∃ d r, dg k x = d :: r ∧ d ≠ 0 := by
  induction k with
  | zero => intro x h0 h; simp at h; omega
  | succ k ih =>
    intro x h0 h
    unfold dg
    rw [if_neg h0]
    by_cases hx : x / 256 = 0
    · have : dg k (x / 256) = [] := by rw [hx]; cases k <;> simp [dg]
      rw [this]
      exact ⟨x % 256, [], rfl, by omega⟩
    · obtain ⟨d, r, e, hd⟩ := ih (x / 256) hx (by rw [Nat.pow_succ] at h; omega)
      exact ⟨d, r ++ [x % 256], by rw [e]; rfl, hd⟩

theorem val_pos (d : Nat) (r : List Nat) (h : d ≠ 0) : val (d :: r) ≠ 0 := by
  rw [val_cons]
  have : 1 ≤ 256 ^ r.length := Nat.one_le_pow _ _ (by omega)
  have : 1 * 1 ≤ d * 256 ^ r.length := Nat.mul_le_mul (by omega) this
  omega

theorem dg_val (k : Nat) : ∀ l : List Nat, AllB l → l.length ≤ k → l.head? ≠ some 0 → dg k (val l) = l := by
  induction k with
  | zero => intro l _ h _; have : l = [] := List.eq_nil_of_length_eq_zero (by omega); subst this; rfl
  | succ k ih =>
    intro l hb hl hh
    rcases List.eq_nil_or_concat l with rfl | ⟨m, d, hmd⟩
    · rfl
    · rw [List.concat_eq_append] at hmd; subst hmd
      have hd : d < 256 := hb d (by simp)
      have hm : AllB m := fun x hx => hb x (by simp [hx])
      have hlm : m.length ≤ k := by simp at hl; omega
      have hne : val (m ++ [d]) ≠ 0 := by
        cases m with
        | nil => simp at hh; rw [List.nil_append, val_cons]; simpa [val] using hh
        | cons e r => simp at hh; exact val_pos e _ hh
      have hmh : m.head? ≠ some 0 := by
        cases m with
        | nil => simp
        | cons e r => simpa using hh
      unfold dg
      rw [if_neg hne, val_snoc]
      have e1 : (val m * 256 + d) / 256 = val m := by omega
      have e2 : (val m * 256 + d) % 256 = d := by omega
      rw [e1, e2, ih m hm hlm hmh]

/-! What is read of bytes: (number, size, error). -/
/-- Are these the digits of a form? -/
def numOk (d : List Nat) : Bool := !(d.head? == some 0) && !(d.length == 1 && decide (d.getD 0 0 ≤ 246))
def rd (l : List Nat) : Nat × Nat × Nat :=
  if l.length = 0 then (0, 0, 10) else
  if 9 ≤ l.getD 0 0 - 246 then (0, 0, 11) else
  if l.length ≤ l.getD 0 0 - 246 then (0, 0, 10) else
  if l.getD 0 0 - 246 = 0 then (l.getD 0 0, 1, 0) else
  if numOk ((l.drop 1).take (l.getD 0 0 - 246)) then (val ((l.drop 1).take (l.getD 0 0 - 246)), 1 + (l.getD 0 0 - 246), 0) else (0, 0, 11)

theorem digs_ne {x : Nat} (h0 : 246 < x) (h : x < 18446744073709551616) : ∃ d r, digs x = d :: r ∧ d ≠ 0 := dg_cons 8 x (by omega) (by simpa using h)
theorem form_length (x : Nat) : 1 ≤ (form x).length ∧ (form x).length ≤ 9 := by
  unfold form; have := digs_length x
  split <;> simp; omega
theorem form_allB (x : Nat) : AllB (form x) := by
  unfold form; have := digs_length x
  split
  · exact AllB.cons (by omega) AllB.nil
  · exact AllB.cons (by omega) (digs_allB x)

theorem numOk_digs {x : Nat} (h0 : 246 < x) (h : x < 18446744073709551616) : numOk (digs x) = true := by
  obtain ⟨d, r, e, hd⟩ := digs_ne h0 h
  have hv := val_digs x h
  unfold numOk
  rw [e] at hv ⊢
  simp [hd]
  by_cases hr : r = []
  · subst hr
    simp [val] at hv
    omega
  · exact .inl hr

theorem rd_form (x : Nat) (h : x < 18446744073709551616) (rest : List Nat) : rd (form x ++ rest) = (x, (form x).length, 0) := by
  unfold form
  have hl := digs_length x
  split
  · rename_i hx
    unfold rd
    have e : x - 246 = 0 := by omega
    simp [e]
  · rename_i hx
    have hne := digs_ne (x := x) (by omega) h
    have hpos : 1 ≤ (digs x).length := by obtain ⟨d, r, e, _⟩ := hne; rw [e]; simp
    unfold rd
    have e1 : 246 + (digs x).length - 246 = (digs x).length := by omega
    simp [e1]
    rw [if_neg (by omega), if_neg (by omega), if_neg (by intro h0; rw [h0] at hpos; simp at hpos), if_pos (numOk_digs (by omega) h), val_digs x h]
    simp; omega

/-- What is read is a form, and stands at the beginning. -/
theorem rd_right {l : List Nat} {x n : Nat} (hb : AllB l) (h : rd l = (x, n, 0)) : l.take n = form x ∧ n = (form x).length ∧ n ≤ l.length ∧ x < 18446744073709551616 := by
  unfold rd at h
  split at h
  · simp at h
  rename_i hl
  split at h
  · simp at h
  rename_i hc
  split at h
  · simp at h
  rename_i hr
  have hg := hb.getD 0
  split at h
  · rename_i h0
    simp at h
    obtain ⟨rfl, rfl⟩ := h
    have : l.getD 0 0 ≤ 246 := by omega
    cases l with
    | nil => simp at hl
    | cons c r =>
      simp at this ⊢
      have : c < 256 := hb c (by simp)
      simp [form, *]; omega
  rename_i h0
  split at h
  · rename_i hok
    simp only [Prod.mk.injEq, and_true] at h
    obtain ⟨hx, hn⟩ := h
    cases l with
    | nil => simp at hl
    | cons c r =>
      have hgc : (c :: r).getD 0 0 = c := rfl
      rw [hgc] at hc hr h0 hok hx hn hg
      simp only [List.drop_one, List.tail_cons, List.length_cons] at hr hok hx
      have hd : AllB (r.take (c - 246)) := fun z hz => hb z (by simp [List.mem_of_mem_take hz])
      have hlen : (r.take (c - 246)).length = c - 246 := by simp; omega
      have hhead : (r.take (c - 246)).head? ≠ some 0 := by
        unfold numOk at hok; simp at hok; intro e; exact hok.1 e
      have hdig : digs x = r.take (c - 246) := by
        rw [← hx]; exact dg_val 8 _ hd (by omega) hhead
      have hxlt : x < 18446744073709551616 := by
        have := val_lt _ hd
        rw [hx, hlen] at this
        have h2 : 256 ^ (c - 246) ≤ 256 ^ 8 := Nat.pow_le_pow_right (by omega) (by omega)
        have h3 : (256 : Nat) ^ 8 = 18446744073709551616 := by rfl
        omega
      have hx246 : 246 < x := by
        match hm : r.take (c - 246), hlen, hok with
        | [], hlen, _ => simp at hlen; omega
        | [d], _, hok =>
          rw [hm] at hx; simp [numOk] at hok; simp [val] at hx; omega
        | d :: e :: t, _, hok =>
          rw [hm, val_cons] at hx
          simp [numOk] at hok
          have h1 : 256 ^ 1 ≤ 256 ^ (e :: t).length := Nat.pow_le_pow_right (by omega) (by simp)
          have h3 : 1 * 256 ^ 1 ≤ d * 256 ^ (e :: t).length := Nat.mul_le_mul (by omega) h1
          simp at h3 hx; omega
      have hform : form x = c :: r.take (c - 246) := by
        unfold form; have e : 246 + (c - 246) = c := by omega
        rw [if_neg (by omega), hdig, hlen, e]
      refine ⟨?_, ?_, ?_, hxlt⟩
      · rw [hform, ← hn, Nat.add_comm, List.take_succ_cons]
      · rw [hform, List.length_cons, hlen]; omega
      · simp; omega
  · simp at h
end Go.Proofs.Ytjnocijfjkbaiaa.Pl
