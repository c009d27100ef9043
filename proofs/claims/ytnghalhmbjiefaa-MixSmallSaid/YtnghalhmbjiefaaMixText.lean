/-
  PLAIN FACTS on texts of numbers: base 32 digits, their order, and how they are read back.
-/
import Derived.Test.YtnghalhmbjiefaaMixPlain
namespace Go.Proofs.Ytnghalhmbjiefaa

def chr32 (d : Nat) : UInt8 := UInt8.ofNat (if d < 10 then 48 + d else 87 + d)
/-- The digit of a byte, or 32. -/
def dig32 (c : UInt8) : Nat := if 48 ≤ c.toNat ∧ c.toNat ≤ 57 then c.toNat - 48 else if 97 ≤ c.toNat ∧ c.toNat ≤ 118 then c.toNat - 87 else 32
theorem dig_chr : ∀ d, d < 32 → dig32 (chr32 d) = d := by decide
theorem chr_dig (c : UInt8) (h : dig32 c < 32) : chr32 (dig32 c) = c := by
  have all : ∀ n, n < 256 → dig32 (UInt8.ofNat n) < 32 → chr32 (dig32 (UInt8.ofNat n)) = UInt8.ofNat n := by decide +kernel
  have e : UInt8.ofNat c.toNat = c := by simp
  have := all c.toNat (UInt8.toNat_lt c)
  rw [e] at this
  exact this h
theorem snoc_ind {α : Type} {P : List α → Prop} (h0 : P []) (hs : ∀ l d, P l → P (l ++ [d])) (l : List α) : P l := by
  rw [← List.reverse_reverse l]
  induction l.reverse with
  | nil => exact h0
  | cons d r ih => rw [List.reverse_cons]; exact hs _ _ ih
theorem chr_lt : ∀ d, d < 32 → ∀ e, e < 32 → decide (chr32 d < chr32 e) = decide (d < e) := by decide +kernel
theorem chr_eq : ∀ d, d < 32 → ∀ e, e < 32 → (chr32 d == chr32 e) = (d == e) := by decide +kernel
/-- The k lowest digits. -/
def d32s : Nat → Nat → List Nat
  | 0, _ => []
  | k + 1, x => d32s k (x / 32) ++ [x % 32]
theorem d32s_length (k x : Nat) : (d32s k x).length = k := by
  induction k generalizing x with
  | zero => rfl
  | succ k ih => simp [d32s, ih]
theorem d32s_small (k x : Nat) : ∀ d ∈ d32s k x, d < 32 := by
  induction k generalizing x with
  | zero => simp [d32s]
  | succ k ih =>
    intro d h
    simp only [d32s, List.mem_append, List.mem_singleton] at h
    rcases h with h | h
    · exact ih _ d h
    · omega
/-- The k lowest digits are one more behind the digits of what is left. -/
theorem d32s_front (k x : Nat) : d32s (k + 1) x = (x / 32 ^ k % 32) :: d32s k x := by
  induction k generalizing x with
  | zero => simp [d32s]
  | succ k ih =>
    show d32s (k + 1) (x / 32) ++ [x % 32] = _
    rw [ih]
    show (x / 32 / 32 ^ k % 32) :: d32s k (x / 32) ++ [x % 32] = (x / 32 ^ (k + 1) % 32) :: (d32s k (x / 32) ++ [x % 32])
    rw [Nat.div_div_eq_div_mul, Nat.pow_succ, Nat.mul_comm 32]
    rfl
def num32 (l : List Nat) : Nat := l.foldl (fun a d => a * 32 + d) 0
theorem num32_snoc (l : List Nat) (d : Nat) : num32 (l ++ [d]) = num32 l * 32 + d := by simp [num32]
theorem num32_digs (k x : Nat) : num32 (d32s k x) = x % 32 ^ k := by
  induction k generalizing x with
  | zero => simp [d32s, num32, Nat.mod_one]
  | succ k ih =>
    rw [d32s, num32_snoc, ih, Nat.pow_succ, Nat.mul_comm (32 ^ k) 32, Nat.mod_mul]
    omega
theorem d32s_num32 (l : List Nat) (h : ∀ d ∈ l, d < 32) : d32s l.length (num32 l) = l := by
  revert h
  refine snoc_ind (P := fun l => (∀ d ∈ l, d < 32) → d32s l.length (num32 l) = l) (fun _ => rfl) ?_ l
  · intro l d ih h
    have hd : d < 32 := h d (by simp)
    rw [List.length_append, List.length_singleton, num32_snoc, d32s]
    rw [show (num32 l * 32 + d) / 32 = num32 l by omega, show (num32 l * 32 + d) % 32 = d by omega, ih (fun e he => h e (by simp [he]))]
theorem num32_lt (l : List Nat) (h : ∀ d ∈ l, d < 32) : num32 l < 32 ^ l.length := by
  revert h
  refine snoc_ind (P := fun l => (∀ d ∈ l, d < 32) → num32 l < 32 ^ l.length) (fun _ => by simp [num32]) ?_ l
  · intro l d ih h
    have hd : d < 32 := h d (by simp)
    have := ih (fun e he => h e (by simp [he]))
    rw [List.length_append, List.length_singleton, num32_snoc, Nat.pow_succ]
    omega
/-- The text of a number. -/
def textN (x : Nat) : List UInt8 := (d32s 13 x).map chr32
theorem textN_length (x : Nat) : (textN x).length = 13 := by simp [textN, d32s_length]

/-! The order. -/
theorem less_snoc : ∀ (a b : List UInt8) (p q : UInt8), a.length = b.length → Op.bytesLess (a ++ [p]) (b ++ [q]) = (Op.bytesLess a b || (a == b && decide (p < q)))
  | [], [], p, q, _ => by simp [Op.bytesLess]
  | x :: a, y :: b, p, q, h => by
    have ih := less_snoc a b p q (by simpa using h)
    simp only [List.cons_append, Op.bytesLess, ih, List.cons_beq_cons]
    by_cases h1 : x < y
    · simp [h1]
    · by_cases h2 : x = y
      · subst h2; simp
      · have : (x == y) = false := beq_eq_false_iff_ne.2 h2
        simp [h1, this]
  | [], _ :: _, _, _, h => by simp at h
  | _ :: _, [], _, _, h => by simp at h
theorem d32s_eq (k x y : Nat) : ((d32s k x).map chr32 == (d32s k y).map chr32) = decide (x % 32 ^ k = y % 32 ^ k) := by
  by_cases h : x % 32 ^ k = y % 32 ^ k
  · have : d32s k x = d32s k y := by
      have h1 := d32s_num32 (d32s k x) (d32s_small k x)
      have h2 := d32s_num32 (d32s k y) (d32s_small k y)
      rw [d32s_length, num32_digs] at h1 h2
      rw [← h1, ← h2, h]
    simp [this, h]
  · rw [decide_eq_false h, beq_eq_false_iff_ne]
    intro e
    apply h
    rw [← num32_digs, ← num32_digs]
    congr 1
    have := congrArg (List.map dig32) e
    rw [List.map_map, List.map_map] at this
    have id : ∀ l : List Nat, (∀ d ∈ l, d < 32) → l.map (dig32 ∘ chr32) = l := fun l hl => by
      conv => rhs; rw [← List.map_id l]
      exact List.map_congr_left (fun d hd => dig_chr d (hl d hd))
    rw [id _ (d32s_small k x), id _ (d32s_small k y)] at this
    exact this
theorem d32s_less (k x y : Nat) : Op.bytesLess ((d32s k x).map chr32) ((d32s k y).map chr32) = decide (x % 32 ^ k < y % 32 ^ k) := by
  induction k generalizing x y with
  | zero => simp [d32s, Op.bytesLess, Nat.mod_one]
  | succ k ih =>
    simp only [d32s, List.map_append, List.map_cons, List.map_nil]
    rw [less_snoc _ _ _ _ (by simp [d32s_length]), ih, d32s_eq, chr_lt _ (Nat.mod_lt _ (by omega)) _ (Nat.mod_lt _ (by omega))]
    rw [Nat.pow_succ, Nat.mul_comm (32 ^ k) 32, Nat.mod_mul, Nat.mod_mul]
    have hx := Nat.mod_lt x (show 0 < 32 by omega)
    have hy := Nat.mod_lt y (show 0 < 32 by omega)
    generalize x / 32 % 32 ^ k = a
    generalize y / 32 % 32 ^ k = b
    generalize x % 32 = c at *
    generalize y % 32 = d at *
    by_cases h1 : a < b
    · have : c + 32 * a < d + 32 * b := by omega
      simp [h1, this]
    · by_cases h2 : a = b
      · subst h2; simp
      · have : ¬ c + 32 * a < d + 32 * b := by omega
        simp [h1, h2, this]
theorem big32 {x : Nat} (h : x < 18446744073709551616) : x % 32 ^ 13 = x := Nat.mod_eq_of_lt (by omega)
theorem textN_less (x y : Nat) (hx : x < 18446744073709551616) (hy : y < 18446744073709551616) : Op.bytesLess (textN x) (textN y) = decide (x < y) := by
  unfold textN; rw [d32s_less, big32 hx, big32 hy]
theorem textN_eq (x y : Nat) (hx : x < 18446744073709551616) (hy : y < 18446744073709551616) : (textN x == textN y) = decide (x = y) := by
  unfold textN; rw [d32s_eq, big32 hx, big32 hy]

/-! Reading. -/
/-- What is read of a string: none if it is no text of a number. -/
def readN (s : List UInt8) : Option Nat :=
  if s.length = 13 ∧ (∀ c ∈ s, dig32 c < 32) ∧ dig32 (s.headD 0) ≤ 15 then some (num32 (s.map dig32)) else none
theorem readN_text (x : Nat) (h : x < 18446744073709551616) : readN (textN x) = some x := by
  unfold readN
  have hm : (textN x).map dig32 = d32s 13 x := by
    unfold textN
    rw [List.map_map]
    conv => rhs; rw [← List.map_id (d32s 13 x)]
    exact List.map_congr_left (fun d hd => dig_chr d (d32s_small _ _ d hd))
  have h1 : ∀ c ∈ textN x, dig32 c < 32 := by
    intro c hc
    unfold textN at hc
    obtain ⟨d, hd, rfl⟩ := List.mem_map.1 hc
    have := d32s_small _ _ d hd
    rw [dig_chr d this]; exact this
  have h2 : dig32 ((textN x).headD 0) ≤ 15 := by
    unfold textN
    rw [d32s_front]
    show dig32 (chr32 (x / 32 ^ 12 % 32)) ≤ 15
    rw [dig_chr _ (Nat.mod_lt _ (by omega))]
    omega
  rw [if_pos ⟨textN_length x, h1, h2⟩, hm, num32_digs, big32 h]
theorem readN_some {s : List UInt8} {x : Nat} (h : readN s = some x) : x < 18446744073709551616 ∧ textN x = s := by
  unfold readN at h
  split at h
  · rename_i hc
    obtain ⟨h1, h2, h3⟩ := hc
    simp only [Option.some.injEq] at h
    subst h
    have hs : ∀ d ∈ s.map dig32, d < 32 := by
      intro d hd
      obtain ⟨c, hc, rfl⟩ := List.mem_map.1 hd
      exact h2 c hc
    refine ⟨?_, ?_⟩
    · match s, h1 with
      | c :: t, h1 =>
        have ht := num32_lt (t.map dig32) (fun d hd => hs d (by simp at hd ⊢; exact .inr hd))
        have hl : (t.map dig32).length = 12 := by simpa using h1
        rw [hl] at ht
        have hf : ∀ (l : List Nat) (a : Nat), l.foldl (fun a d => a * 32 + d) a = a * 32 ^ l.length + num32 l := by
          intro l
          refine snoc_ind (P := fun l => ∀ a : Nat, l.foldl (fun a d => a * 32 + d) a = a * 32 ^ l.length + num32 l) (fun a => by simp [num32]) ?_ l
          · intro l d ih a
            rw [List.foldl_append, ih, num32_snoc, List.length_append, List.length_singleton, Nat.pow_succ]
            simp only [List.foldl_cons, List.foldl_nil]
            rw [Nat.add_mul, Nat.mul_assoc]
            omega
        show (List.map dig32 (c :: t)).foldl (fun a d => a * 32 + d) 0 < _
        rw [List.map_cons, List.foldl_cons, hf, hl]
        have : dig32 c ≤ 15 := h3
        omega
    · unfold textN
      have := d32s_num32 (s.map dig32) hs
      rw [List.length_map, h1] at this
      rw [this, List.map_map]
      conv => rhs; rw [← List.map_id s]
      exact List.map_congr_left (fun c hc => chr_dig c (h2 c hc))
  · exact absurd h (by simp)
end Go.Proofs.Ytnghalhmbjiefaa
