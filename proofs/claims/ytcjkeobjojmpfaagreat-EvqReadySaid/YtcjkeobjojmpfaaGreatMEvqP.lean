import Derived.WalkKit
import Derived.Lib.Hide
import Derived.Lib.ItoaMem
import Derived.Lib.Bytealg
section
/-
  PLAIN FACTS about keys: their order, their bytes, their texts, and what is cut of a string. No program is named here.
-/
namespace Go.Proofs.YtcjkeobjojmpfaaGreat
open Go.RowKit

theorem snoc_ind {α : Type} {P : List α → Prop} (nil : P []) (snoc : ∀ l c, P l → P (l ++ [c])) (l : List α) : P l := by
  have : ∀ r : List α, P r.reverse := by
    intro r
    induction r with
    | nil => exact nil
    | cons c r ih => rw [List.reverse_cons]; exact snoc _ _ ih
  have := this l.reverse
  rwa [List.reverse_reverse] at this
/-- A key: its time, its source, its number. -/
abbrev Ky := Int × Int × Int
abbrev ky (t s q : Int) : Ky := (t, s, q)
def vK (k : Ky) : Value := .agg #[.int .i64 k.1, .int .i64 k.2.1, .int .i64 k.2.2]
def encK (k : Ky) : List Value := [.int .i64 k.1, .int .i64 k.2.1, .int .i64 k.2.2]
def RightK (k : Ky) : Prop := (0 ≤ k.1 ∧ k.1 ≤ 281474976710656) ∧ (0 ≤ k.2.1 ∧ k.2.1 ≤ 16) ∧ (0 ≤ k.2.2 ∧ k.2.2 ≤ 4294967295)
instance (k : Ky) : Decidable (RightK k) := by unfold RightK; infer_instance
def LessK (a b : Ky) : Prop := a.1 < b.1 ∨ (a.1 = b.1 ∧ (a.2.1 < b.2.1 ∨ (a.2.1 = b.2.1 ∧ a.2.2 < b.2.2)))
instance (a b : Ky) : Decidable (LessK a b) := by unfold LessK; infer_instance
/-- How two keys compare, and by which field they differ first. -/
def cfK (a b : Ky) : Int := if LessK a b then -1 else if LessK b a then 1 else 0
def byK (a b : Ky) : Int := if a.1 ≠ b.1 then 1 else if a.2.1 ≠ b.2.1 then 2 else if a.2.2 ≠ b.2.2 then 3 else 0
theorem ky_ext {a b : Ky} (h1 : a.1 = b.1) (h2 : a.2.1 = b.2.1) (h3 : a.2.2 = b.2.2) : a = b := Prod.ext h1 (Prod.ext h2 h3)
theorem less_irrefl (a : Ky) : ¬ LessK a a := by unfold LessK; omega
theorem less_trans {a b c : Ky} (h : LessK a b) (k : LessK b c) : LessK a c := by unfold LessK at *; omega
theorem less_asymm {a b : Ky} (h : LessK a b) : ¬ LessK b a := by unfold LessK at *; omega
theorem less_tri (a b : Ky) : LessK a b ∨ a = b ∨ LessK b a := by
  by_cases h : a = b
  · exact .inr (.inl h)
  · by_cases h1 : LessK a b
    · exact .inl h1
    · by_cases h2 : LessK b a
      · exact .inr (.inr h2)
      · refine absurd (ky_ext ?_ ?_ ?_) h <;> unfold LessK at h1 h2 <;> omega
theorem cfK_less {a b : Ky} : cfK a b = -1 ↔ LessK a b := by
  unfold cfK
  by_cases h : LessK a b
  · simp [h]
  · by_cases h2 : LessK b a <;> simp [h, h2]
theorem cfK_neg {a b : Ky} : cfK a b < 0 ↔ LessK a b := by
  unfold cfK
  by_cases h : LessK a b
  · simp [h]
  · by_cases h2 : LessK b a <;> simp [h, h2]
theorem cfK_pos {a b : Ky} : 0 < cfK a b ↔ LessK b a := by
  unfold cfK
  by_cases h : LessK a b
  · simp [h, less_asymm h]
  · by_cases h2 : LessK b a <;> simp [h, h2]
theorem cfK_zero {a b : Ky} : cfK a b = 0 ↔ a = b := by
  unfold cfK
  rcases less_tri a b with h | h | h
  · simp only [h, if_true]
    exact ⟨fun e => by omega, fun e => by subst e; exact absurd h (less_irrefl a)⟩
  · subst h; simp [less_irrefl a]
  · simp only [h, less_asymm h, if_true, if_false]
    exact ⟨fun e => by omega, fun e => by subst e; exact absurd h (less_irrefl a)⟩
theorem cfK_anti (a b : Ky) : cfK b a = - cfK a b := by
  rcases less_tri a b with h | h | h
  · have := less_asymm h; unfold cfK; simp [h, this]
  · subst h; unfold cfK; simp [less_irrefl a]
  · have := less_asymm h; unfold cfK; simp [h, this]
theorem cfK_self (a : Ky) : cfK a a = 0 := cfK_zero.2 rfl
theorem cfK_vals (a b : Ky) : cfK a b = -1 ∨ cfK a b = 0 ∨ cfK a b = 1 := by
  unfold cfK
  by_cases h : LessK a b
  · simp [h]
  · by_cases h2 : LessK b a <;> simp [h, h2]
theorem cfK_gt {a b : Ky} (h : LessK b a) : cfK a b = 1 := by
  have := cfK_anti b a
  rw [cfK_less.2 h] at this
  omega
theorem cfK_first {a b : Ky} (h : a.1 ≠ b.1) : cfK a b = if a.1 < b.1 then -1 else if b.1 < a.1 then 1 else 0 := by
  by_cases h1 : a.1 < b.1
  · rw [cfK_less.2 (show LessK a b from .inl h1), if_pos h1]
  · have h2 : b.1 < a.1 := by omega
    rw [cfK_gt (show LessK b a from .inl h2), if_neg h1, if_pos h2]
theorem cfK_second {a b : Ky} (h : a.1 = b.1) (h2 : a.2.1 ≠ b.2.1) : cfK a b = if a.2.1 < b.2.1 then -1 else if b.2.1 < a.2.1 then 1 else 0 := by
  by_cases h1 : a.2.1 < b.2.1
  · rw [cfK_less.2 (show LessK a b from .inr ⟨h, .inl h1⟩), if_pos h1]
  · have h3 : b.2.1 < a.2.1 := by omega
    rw [cfK_gt (show LessK b a from .inr ⟨h.symm, .inl h3⟩), if_neg h1, if_pos h3]
theorem cfK_third {a b : Ky} (h : a.1 = b.1) (h2 : a.2.1 = b.2.1) : cfK a b = if a.2.2 < b.2.2 then -1 else if b.2.2 < a.2.2 then 1 else 0 := by
  by_cases h1 : a.2.2 < b.2.2
  · rw [cfK_less.2 (show LessK a b from .inr ⟨h, .inr ⟨h2, h1⟩⟩), if_pos h1]
  · rw [if_neg h1]
    by_cases h3 : b.2.2 < a.2.2
    · rw [cfK_gt (show LessK b a from .inr ⟨h.symm, .inr ⟨h2.symm, h3⟩⟩), if_pos h3]
    · rw [cfK_zero.2 (ky_ext h h2 (by omega)), if_neg h3]

/-! ### Bytes -/
/-- The n last bytes of a number, the highest first. -/
def beL (n x : Nat) : List UInt8 := (List.range n).map fun i => UInt8.ofNat (x / 256 ^ (n - 1 - i) % 256)
def numL (l : List UInt8) : Nat := l.foldl (fun a c => a * 256 + c.toNat) 0
theorem beL_length (n x : Nat) : (beL n x).length = n := by simp [beL]
theorem beL_succ (n x : Nat) : beL (n + 1) x = beL n (x / 256) ++ [UInt8.ofNat (x % 256)] := by
  unfold beL
  rw [List.range_succ, List.map_append]
  congr 1
  · refine List.map_congr_left fun i hi => ?_
    have hi := List.mem_range.1 hi
    rw [show n + 1 - 1 - i = (n - 1 - i) + 1 by omega, Nat.pow_succ, Nat.mul_comm, ← Nat.div_div_eq_div_mul]
  · simp
theorem numL_snoc (l : List UInt8) (c : UInt8) : numL (l ++ [c]) = numL l * 256 + c.toNat := by simp [numL]
theorem numL_lt (l : List UInt8) : numL l < 256 ^ l.length := by
  induction l using snoc_ind with
  | nil => simp [numL]
  | snoc l c ih =>
    rw [numL_snoc, List.length_append, List.length_singleton, Nat.pow_succ]
    have := c.toNat_lt
    omega
theorem numL_be (n x : Nat) : numL (beL n x) = x % 256 ^ n := by
  induction n generalizing x with
  | zero => simp [numL, beL, Nat.mod_one]
  | succ n ih =>
    rw [beL_succ, numL_snoc, ih, Nat.pow_succ, Nat.mul_comm (256 ^ n), Nat.mod_mul]
    have : (UInt8.ofNat (x % 256)).toNat = x % 256 := by simp
    rw [this]
    omega
theorem be_numL (l : List UInt8) : beL l.length (numL l) = l := by
  induction l using snoc_ind with
  | nil => rfl
  | snoc l c ih =>
    have hc := c.toNat_lt
    rw [List.length_append, List.length_singleton, beL_succ, numL_snoc, show (numL l * 256 + c.toNat) / 256 = numL l by omega, show (numL l * 256 + c.toNat) % 256 = c.toNat by omega, ih]
    simp
/-- The bytes of a key. -/
def bytesK (k : Ky) : List UInt8 := beL 7 k.1.toNat ++ beL 1 k.2.1.toNat ++ beL 4 k.2.2.toNat
theorem bytesK_length (k : Ky) : (bytesK k).length = 12 := by simp [bytesK, beL_length]
/-- The key of bytes, right or not. -/
def keyB (l : List UInt8) : Ky := ((numL (l.take 7) : Int), (numL ((l.drop 7).take 1) : Int), (numL (l.drop 8) : Int))
theorem keyB_bytes {k : Ky} (h : RightK k) : keyB (bytesK k) = k := by
  unfold RightK at h
  have e1 : (bytesK k).take 7 = beL 7 k.1.toNat := by
    unfold bytesK; rw [List.append_assoc, List.take_append_of_le_length (by simp [beL_length]), List.take_of_length_le (by simp [beL_length])]
  have e2 : (bytesK k).drop 7 = beL 1 k.2.1.toNat ++ beL 4 k.2.2.toNat := by
    unfold bytesK; rw [List.append_assoc, List.drop_append_of_le_length (by simp [beL_length]), List.drop_of_length_le (by simp [beL_length])]; rfl
  have e3 : (bytesK k).drop 8 = beL 4 k.2.2.toNat := by
    have : (bytesK k).drop 8 = ((bytesK k).drop 7).drop 1 := by rw [List.drop_drop]
    rw [this, e2, List.drop_append_of_le_length (by simp [beL_length]), List.drop_of_length_le (by simp [beL_length])]; rfl
  have e4 : (beL 1 k.2.1.toNat ++ beL 4 k.2.2.toNat).take 1 = beL 1 k.2.1.toNat := by
    rw [List.take_append_of_le_length (by simp [beL_length]), List.take_of_length_le (by simp [beL_length])]
  unfold keyB
  rw [e1, e2, e3, e4, numL_be, numL_be, numL_be]
  refine ky_ext ?_ ?_ ?_ <;> simp only <;> omega
theorem bytes_keyB {l : List UInt8} (h : l.length = 12) : bytesK (keyB l) = l := by
  have e1 := be_numL (l.take 7)
  have e2 := be_numL ((l.drop 7).take 1)
  have e3 := be_numL (l.drop 8)
  rw [show (l.take 7).length = 7 by simp; omega] at e1
  rw [show ((l.drop 7).take 1).length = 1 by simp; omega] at e2
  rw [show (l.drop 8).length = 4 by simp; omega] at e3
  unfold bytesK keyB
  simp only [Int.toNat_natCast]
  rw [e1, e2, e3, List.append_assoc, show l.drop 8 = (l.drop 7).drop 1 by rw [List.drop_drop], List.take_append_drop, List.take_append_drop]
theorem keyB_least (l : List UInt8) : 0 ≤ (keyB l).1 ∧ 0 ≤ (keyB l).2.1 ∧ 0 ≤ (keyB l).2.2 := by
  unfold keyB; exact ⟨by simp, by simp, by simp⟩

/-! ### Texts -/
open Go.Lib (decDigits)
def digit (c : UInt8) : Bool := decide (48 ≤ c.toNat ∧ c.toNat ≤ 57)
def decV (l : List UInt8) : Nat := l.foldl (fun a c => a * 10 + (c.toNat - 48)) 0
theorem decV_snoc (l : List UInt8) (c : UInt8) : decV (l ++ [c]) = decV l * 10 + (c.toNat - 48) := by simp [decV]
theorem dec_small {u : Nat} (h : u < 10) : decDigits u = [UInt8.ofNat (48 + u)] := by rw [decDigits, dif_pos h]
theorem dec_big {u : Nat} (h : ¬ u < 10) : decDigits u = decDigits (u / 10) ++ [UInt8.ofNat (48 + u % 10)] := by rw [decDigits, dif_neg h]
theorem dec_digit (u : Nat) : ∀ c ∈ decDigits u, digit c = true := by
  induction u using Nat.strongRecOn with
  | _ u ih =>
    by_cases h : u < 10
    · rw [dec_small h]
      intro c hc
      rw [List.mem_singleton.1 hc]
      unfold digit
      rw [decide_eq_true_iff, UInt8.toNat_ofNat']
      omega
    · rw [dec_big h]
      intro c hc
      rcases List.mem_append.1 hc with hc | hc
      · exact ih (u / 10) (by omega) c hc
      · rw [List.mem_singleton.1 hc]
        unfold digit
        rw [decide_eq_true_iff, UInt8.toNat_ofNat']
        omega
theorem decV_dec (u : Nat) : decV (decDigits u) = u := by
  induction u using Nat.strongRecOn with
  | _ u ih =>
    by_cases h : u < 10
    · rw [dec_small h]
      simp only [decV, List.foldl_cons, List.foldl_nil, UInt8.toNat_ofNat']
      omega
    · rw [dec_big h, decV_snoc, ih (u / 10) (by omega), UInt8.toNat_ofNat']
      omega
theorem dec_inj {u v : Nat} (h : decDigits u = decDigits v) : u = v := by rw [← decV_dec u, h, decV_dec]
theorem dec_ne_nil (u : Nat) : decDigits u ≠ [] := by
  by_cases h : u < 10
  · rw [dec_small h]; simp
  · rw [dec_big h]; simp
theorem dec_head (u : Nat) (h : 0 < u) : (decDigits u).headD 0 ≠ 48 := by
  induction u using Nat.strongRecOn with
  | _ u ih =>
    by_cases h1 : u < 10
    · rw [dec_small h1]
      simp only [List.headD_cons]
      intro e
      have := congrArg UInt8.toNat e
      rw [UInt8.toNat_ofNat'] at this
      have h48 : (48 : UInt8).toNat = 48 := rfl
      omega
    · rw [dec_big h1]
      have := ih (u / 10) (by omega) (by omega)
      cases hd : decDigits (u / 10) with
      | nil => exact absurd hd (dec_ne_nil _)
      | cons a l => rw [hd] at this; exact this
/-- A number's text: it begins as one does. -/
def begunL (l : List UInt8) : Bool := decide (l = [48]) || (decide (l ≠ []) && decide (l.headD 0 ≠ 48))
theorem begun_dec (u : Nat) : begunL (decDigits u) = true := by
  unfold begunL
  by_cases h : u = 0
  · subst h
    rw [dec_small (by omega)]; rfl
  · rw [decide_eq_true (dec_ne_nil u), decide_eq_true (dec_head u (by omega))]; simp
theorem decV_pos {l : List UInt8} (hd : ∀ c ∈ l, digit c = true) (h0 : l ≠ []) (h : l.headD 0 ≠ 48) : 0 < decV l := by
  induction l using snoc_ind with
  | nil => exact absurd rfl h0
  | snoc l c ih =>
    rw [decV_snoc]
    by_cases hl : l = []
    · subst hl
      have h1 := hd c (by simp)
      unfold digit at h1
      have h1 := of_decide_eq_true h1
      simp only [List.nil_append, List.headD_cons] at h
      have : c.toNat ≠ 48 := fun e => h (UInt8.toNat_inj.1 e)
      omega
    · have := ih (fun x hx => hd x (by simp [hx])) hl (by cases l with
        | nil => exact absurd rfl hl
        | cons a r => exact h)
      omega
/-- What begins as a number, and has digits alone, is the text of its number. -/
theorem dec_decV {l : List UInt8} (hd : ∀ c ∈ l, digit c = true) (hb : begunL l = true) : decDigits (decV l) = l := by
  have key : ∀ l : List UInt8, (∀ c ∈ l, digit c = true) → l ≠ [] → l.headD 0 ≠ 48 → decDigits (decV l) = l := by
    intro l
    induction l using snoc_ind with
    | nil => intro _ h0 _; exact absurd rfl h0
    | snoc l c ih =>
      intro hd _ h
      have h1 := hd c (by simp)
      unfold digit at h1
      have h1 := of_decide_eq_true h1
      have hc : UInt8.ofNat (48 + (c.toNat - 48)) = c := by
        rw [show 48 + (c.toNat - 48) = c.toNat by omega]; simp
      rw [decV_snoc]
      by_cases hl : l = []
      · subst hl
        rw [show decV [] * 10 + (c.toNat - 48) = c.toNat - 48 by simp [decV], dec_small (by omega), hc]; rfl
      · have hh : l.headD 0 ≠ 48 := by
          cases l with
          | nil => exact absurd rfl hl
          | cons a r => exact h
        have hdl : ∀ x ∈ l, digit x = true := fun x hx => hd x (by simp [hx])
        have hp := decV_pos hdl hl hh
        rw [dec_big (by omega), show (decV l * 10 + (c.toNat - 48)) / 10 = decV l by omega, show (decV l * 10 + (c.toNat - 48)) % 10 = c.toNat - 48 by omega, ih hdl hl hh, hc]
  unfold begunL at hb
  rcases Bool.or_eq_true_iff.1 hb with h | h
  · rw [of_decide_eq_true h]
    rw [show decV [48] = 0 by rfl, dec_small (by omega)]; rfl
  · obtain ⟨h1, h2⟩ := Bool.and_eq_true_iff.1 h
    exact key l hd (of_decide_eq_true h1) (of_decide_eq_true h2)
theorem decV_mono (l r : List UInt8) : decV l ≤ decV (l ++ r) := by
  induction r using snoc_ind with
  | nil => simp
  | snoc r c ih => rw [← List.append_assoc, decV_snoc]; omega
/-- The text of a key. -/
def textK (k : Ky) : List UInt8 := decDigits k.1.toNat ++ [64] ++ decDigits k.2.1.toNat ++ [35] ++ decDigits k.2.2.toNat
/-- What is cut of a string at the first c. -/
def cutC (c : UInt8) : List UInt8 → List UInt8 × List UInt8 × Bool
  | [] => ([], [], false)
  | x :: l => if x == c then ([], l, true) else (x :: (cutC c l).1, (cutC c l).2.1, (cutC c l).2.2)
theorem cutC_index (c : UInt8) (l : List UInt8) : (Lib.indexByte l c = -1 ∧ cutC c l = (l, [], false)) ∨ ∃ i : Nat, Lib.indexByte l c = (i : Int) ∧ i < l.length ∧ cutC c l = (l.take i, l.drop (i + 1), true) := by
  induction l with
  | nil => exact .inl ⟨rfl, rfl⟩
  | cons x l ih =>
    unfold Lib.indexByte cutC
    by_cases h : (x == c) = true
    · rw [if_pos h, if_pos h]
      exact .inr ⟨0, rfl, by simp, by simp⟩
    · rw [if_neg h, if_neg h]
      rcases ih with ⟨e, e2⟩ | ⟨i, e, hi, e2⟩
      · rw [if_pos (by rw [e]; rfl), e2]
        exact .inl ⟨rfl, rfl⟩
      · rw [if_neg (by rw [e]; simp), e, e2]
        exact .inr ⟨i + 1, by omega, by simp; omega, by simp⟩
theorem cutC_le (c : UInt8) (l : List UInt8) : (cutC c l).1.length ≤ l.length ∧ (cutC c l).2.1.length ≤ l.length := by
  rcases cutC_index c l with ⟨_, e⟩ | ⟨i, _, hi, e⟩ <;> rw [e]
  · exact ⟨Nat.le_refl _, Nat.zero_le _⟩
  · simp only [List.length_take, List.length_drop]
    exact ⟨by omega, by omega⟩
theorem cutC_found (c : UInt8) (a b : List UInt8) (h : ∀ x ∈ a, x ≠ c) : cutC c (a ++ c :: b) = (a, b, true) := by
  induction a with
  | nil => simp [cutC]
  | cons x a ih =>
    have hx : ¬ (x == c) = true := by simpa using h x (by simp)
    rw [List.cons_append, cutC, if_neg hx, ih fun y hy => h y (by simp [hy])]
theorem cutC_join (c : UInt8) (l : List UInt8) : (cutC c l).2.2 = false ∧ (cutC c l).2.1 = [] ∧ (cutC c l).1 = l ∨ (cutC c l).2.2 = true ∧ l = (cutC c l).1 ++ c :: (cutC c l).2.1 := by
  induction l with
  | nil => exact .inl ⟨rfl, rfl, rfl⟩
  | cons x l ih =>
    unfold cutC
    by_cases h : (x == c) = true
    · rw [if_pos h]
      have := eq_of_beq h
      subst this
      exact .inr ⟨rfl, rfl⟩
    · rw [if_neg h]
      rcases ih with ⟨h1, h2, h3⟩ | ⟨h1, h2⟩
      · exact .inl ⟨h1, h2, by simp [h3]⟩
      · exact .inr ⟨h1, by rw [List.cons_append, ← h2]⟩
theorem digit_ne {c : UInt8} (h : digit c = true) : c ≠ 64 ∧ c ≠ 35 := by
  unfold digit at h
  have h := of_decide_eq_true h
  have h64 : (64 : UInt8).toNat = 64 := rfl
  have h35 : (35 : UInt8).toNat = 35 := rfl
  exact ⟨fun e => by subst e; omega, fun e => by subst e; omega⟩
/-- The three texts of a string. -/
def piecesL (s : List UInt8) : List UInt8 × List UInt8 × List UInt8 := ((cutC 64 s).1, (cutC 35 (cutC 64 s).2.1).1, (cutC 35 (cutC 64 s).2.1).2.1)
theorem pieces_text (k : Ky) : piecesL (textK k) = (decDigits k.1.toNat, decDigits k.2.1.toNat, decDigits k.2.2.toNat) := by
  have e1 : cutC 64 (textK k) = (decDigits k.1.toNat, decDigits k.2.1.toNat ++ [35] ++ decDigits k.2.2.toNat, true) := by
    rw [← cutC_found 64 _ _ (fun x hx => (digit_ne (dec_digit _ x hx)).1)]
    congr 1
    simp [textK]
  have e2 : cutC 35 (decDigits k.2.1.toNat ++ [35] ++ decDigits k.2.2.toNat) = (decDigits k.2.1.toNat, decDigits k.2.2.toNat, true) := by
    rw [← cutC_found 35 _ _ (fun x hx => (digit_ne (dec_digit _ x hx)).2)]
    congr 1
    simp
  unfold piecesL
  rw [e1]
  simp only
  rw [e2]
theorem text_inj {a b : Ky} (ha : RightK a) (hb : RightK b) (h : textK a = textK b) : a = b := by
  have e := pieces_text a
  rw [h, pieces_text b] at e
  simp only [Prod.mk.injEq] at e
  obtain ⟨e1, e2, e3⟩ := e
  have e1 := dec_inj e1
  have e2 := dec_inj e2
  have e3 := dec_inj e3
  unfold RightK at ha hb
  refine ky_ext ?_ ?_ ?_ <;> omega
/-- A string whose three texts are those of numbers is the text of a key. -/
theorem text_pieces (s : List UInt8) (h : begunL (piecesL s).2.2 = true) : s = (piecesL s).1 ++ [64] ++ (piecesL s).2.1 ++ [35] ++ (piecesL s).2.2 := by
  unfold piecesL at *
  have hb : ¬ begunL [] = true := by decide
  rcases cutC_join 64 s with ⟨h1, h2, h3⟩ | ⟨h1, h2⟩
  · exfalso
    rw [h2] at h
    exact hb h
  · rcases cutC_join 35 (cutC 64 s).2.1 with ⟨g1, g2, g3⟩ | ⟨g1, g2⟩
    · exfalso
      rw [g2] at h
      exact hb h
    · conv => lhs; rw [h2, g2]
      simp
/-- One text of a number: it begins as one does, has digits alone, and is at most so great. -/
def numOk (l : List UInt8) (most : Nat) : Prop := begunL l = true ∧ (∀ c ∈ l, digit c = true) ∧ decV l ≤ most
def textOk (s : List UInt8) : Prop := numOk (piecesL s).1 281474976710656 ∧ numOk (piecesL s).2.1 16 ∧ numOk (piecesL s).2.2 4294967295
def keyT (s : List UInt8) : Ky := ((decV (piecesL s).1 : Int), (decV (piecesL s).2.1 : Int), (decV (piecesL s).2.2 : Int))
theorem textOk_key {s : List UInt8} (h : textOk s) : RightK (keyT s) ∧ textK (keyT s) = s := by
  obtain ⟨⟨a1, a2, a3⟩, ⟨b1, b2, b3⟩, ⟨c1, c2, c3⟩⟩ := h
  refine ⟨?_, ?_⟩
  · unfold RightK keyT; simp only; omega
  · conv => rhs; rw [text_pieces s c1]
    unfold textK keyT
    simp only [Int.toNat_natCast]
    rw [dec_decV a2 a1, dec_decV b2 b1, dec_decV c2 c1]
theorem textOk_text {k : Ky} (h : RightK k) : textOk (textK k) ∧ keyT (textK k) = k := by
  unfold textOk keyT
  rw [pieces_text]
  simp only [numOk, decV_dec]
  unfold RightK at h
  refine ⟨⟨⟨begun_dec _, dec_digit _, by omega⟩, ⟨begun_dec _, dec_digit _, by omega⟩, ⟨begun_dec _, dec_digit _, by omega⟩⟩, ky_ext ?_ ?_ ?_⟩ <;> simp only <;> omega
theorem no_text {s : List UInt8} (h : ¬ textOk s) {k : Ky} (hk : RightK k) : textK k ≠ s := fun e => h (e ▸ (textOk_text hk).1)
end Go.Proofs.YtcjkeobjojmpfaaGreat
end

section
/-
  PLAIN FACTS about trees of entries: how one rises and sinks, what a swap does to the places' indexes, and the list of all entries in order. No program is named here.
-/
namespace Go.Proofs.YtcjkeobjojmpfaaGreat
open Go.RowKit

/-- An entry: its key, and its place. -/
abbrev En := Ky × Nat
def LtE (a b : En) : Prop := LessK a.1 b.1 ∨ (a.1 = b.1 ∧ a.2 < b.2)
instance (a b : En) : Decidable (LtE a b) := by unfold LtE; infer_instance
def cfE (a b : En) : Int := if LtE a b then -1 else if LtE b a then 1 else 0
theorem ltE_irrefl (a : En) : ¬ LtE a a := by
  rintro (h | h)
  · exact less_irrefl _ h
  · omega
theorem ltE_trans {a b c : En} (h : LtE a b) (k : LtE b c) : LtE a c := by
  rcases h with h | ⟨h, h'⟩ <;> rcases k with k | ⟨k, k'⟩
  · exact .inl (less_trans h k)
  · exact .inl (by rw [← k]; exact h)
  · exact .inl (by rw [h]; exact k)
  · exact .inr ⟨h.trans k, by omega⟩
theorem ltE_asymm {a b : En} (h : LtE a b) : ¬ LtE b a := fun k => ltE_irrefl a (ltE_trans h k)
theorem ltE_tri (a b : En) : LtE a b ∨ a = b ∨ LtE b a := by
  rcases less_tri a.1 b.1 with h | h | h
  · exact .inl (.inl h)
  · rcases Nat.lt_trichotomy a.2 b.2 with k | k | k
    · exact .inl (.inr ⟨h, k⟩)
    · exact .inr (.inl (Prod.ext h k))
    · exact .inr (.inr (.inr ⟨h.symm, k⟩))
  · exact .inr (.inr (.inl h))
/-- a does not come behind b. -/
def LeE (a b : En) : Prop := ¬ LtE b a
theorem leE_refl (a : En) : LeE a a := ltE_irrefl a
theorem leE_of_lt {a b : En} (h : LtE a b) : LeE a b := ltE_asymm h
theorem leE_trans {a b c : En} (h : LeE a b) (k : LeE b c) : LeE a c := by
  intro q
  rcases ltE_tri a b with e | e | e
  · exact k (ltE_trans q e)
  · subst e; exact k q
  · exact h e
theorem leE_lt {a b c : En} (h : LeE a b) (k : LtE b c) : LtE a c := by
  rcases ltE_tri a b with e | e | e
  · exact ltE_trans e k
  · subst e; exact k
  · exact absurd e h
theorem lt_or_le (a b : En) : LtE a b ∨ LeE b a := by
  by_cases h : LtE a b
  · exact .inl h
  · exact .inr h
theorem cfE_neg {a b : En} : cfE a b < 0 ↔ LtE a b := by
  unfold cfE
  by_cases h : LtE a b
  · simp [h]
  · by_cases k : LtE b a <;> simp [h, k]
theorem cfE_lt {a b : En} (h : LtE a b) : cfE a b = -1 := by unfold cfE; rw [if_pos h]
theorem cfE_ge {a b : En} (h : LeE b a) : 0 ≤ cfE a b := by
  have : ¬ cfE a b < 0 := fun k => h (cfE_neg.1 k)
  omega

/-- The entry at an index. -/
def en (t : List En) (i : Nat) : En := t.getD i ((0, 0, 0), 0)
theorem en_get {t : List En} {i : Nat} (h : i < t.length) : t[i]? = some (en t i) := by
  unfold en; rw [List.getD_eq_getElem?_getD, List.getElem?_eq_getElem h]; rfl
theorem en_mem {t : List En} {i : Nat} (h : i < t.length) : en t i ∈ t := List.mem_of_getElem? (en_get h)
theorem mem_en {t : List En} {x : En} (h : x ∈ t) : ∃ i, i < t.length ∧ en t i = x := by
  obtain ⟨i, hi, e⟩ := List.getElem_of_mem h
  exact ⟨i, hi, by unfold en; rw [List.getD_eq_getElem?_getD, List.getElem?_eq_getElem hi, e]; rfl⟩
theorem en_ext {t u : List En} (hl : t.length = u.length) (h : ∀ i, i < t.length → en t i = en u i) : t = u := by
  apply List.ext_getElem?
  intro i
  by_cases hi : i < t.length
  · rw [en_get hi, en_get (by omega), h i hi]
  · rw [List.getElem?_eq_none (by omega), List.getElem?_eq_none (by omega)]
theorem en_set (t : List En) (i : Nat) (x : En) (j : Nat) (h : i < t.length) : en (t.set i x) j = if j = i then x else en t j := by
  unfold en
  rw [List.getD_eq_getElem?_getD, List.getD_eq_getElem?_getD, List.getElem?_set]
  by_cases e : i = j
  · rw [if_pos e, if_pos e.symm]; subst e; simp [h]
  · rw [if_neg e, if_neg (fun q => e q.symm)]
theorem en_append (t : List En) (x : En) (j : Nat) : en (t ++ [x]) j = if j < t.length then en t j else if j = t.length then x else ((0, 0, 0), 0) := by
  unfold en
  rw [List.getD_eq_getElem?_getD, List.getD_eq_getElem?_getD, List.getElem?_append]
  split
  · rfl
  · split
    · rename_i h h2; subst h2; simp
    · rename_i h h2
      rw [List.getElem?_eq_none (by simp; omega)]; rfl
theorem en_take (t : List En) (n j : Nat) (h : j < n) : en (t.take n) j = en t j := by
  unfold en
  rw [List.getD_eq_getElem?_getD, List.getD_eq_getElem?_getD, List.getElem?_take_of_lt h]
/-- Two entries swapped. -/
def swE (t : List En) (i j : Nat) : List En := (t.set i (en t j)).set j (en t i)
theorem swE_len (t : List En) (i j : Nat) : (swE t i j).length = t.length := by simp [swE]
theorem en_sw (t : List En) {i j : Nat} (hi : i < t.length) (hj : j < t.length) (k : Nat) : en (swE t i j) k = if k = j then en t i else if k = i then en t j else en t k := by
  unfold swE
  rw [en_set _ _ _ _ (by simpa using hj), en_set _ _ _ _ hi]
theorem swE_mem {t : List En} {i j : Nat} (hi : i < t.length) (hj : j < t.length) (x : En) : x ∈ swE t i j ↔ x ∈ t := by
  constructor
  · intro h
    obtain ⟨k, hk, e⟩ := mem_en h
    rw [en_sw t hi hj] at e
    rw [swE_len] at hk
    split at e
    · exact e ▸ en_mem hi
    · split at e
      · exact e ▸ en_mem hj
      · exact e ▸ en_mem hk
  · intro h
    obtain ⟨k, hk, e⟩ := mem_en h
    by_cases h1 : k = i
    · have : en (swE t i j) j = x := by rw [en_sw t hi hj, if_pos rfl, ← h1, e]
      exact this ▸ en_mem (by rw [swE_len]; exact hj)
    · by_cases h2 : k = j
      · have : en (swE t i j) i = x := by
          rw [en_sw t hi hj]
          by_cases h3 : i = j
          · omega
          · rw [if_neg h3, if_pos rfl, ← h2, e]
        exact this ▸ en_mem (by rw [swE_len]; exact hi)
      · have : en (swE t i j) k = x := by rw [en_sw t hi hj, if_neg h2, if_neg h1, e]
        exact this ▸ en_mem (by rw [swE_len]; exact hk)

/-- THE TREE IS ONE. -/
def HOrd (t : List En) : Prop := ∀ j, 1 ≤ j → j < t.length → LeE (en t ((j - 1) / 4)) (en t j)
/-- The tree is one but for the entry at i, up and down. -/
def Exc (t : List En) (i : Nat) : Prop :=
  (∀ j, 1 ≤ j → j < t.length → j ≠ i → (j - 1) / 4 ≠ i → LeE (en t ((j - 1) / 4)) (en t j)) ∧
  (∀ j, 1 ≤ j → j < t.length → (j - 1) / 4 = i → 1 ≤ i → LeE (en t ((i - 1) / 4)) (en t j))
/-- An entry rises, from i0; it is at i. -/
def Rises (t : List En) (i0 i : Nat) : Prop :=
  i ≤ i0 ∧ i0 < t.length ∧
  (∀ j, 1 ≤ j → j < t.length → j ≠ i → (j - 1) / 4 ≠ i0 → LeE (en t ((j - 1) / 4)) (en t j)) ∧
  (∀ j, 1 ≤ j → j < t.length → (j - 1) / 4 = i → 1 ≤ i → LeE (en t ((i - 1) / 4)) (en t j)) ∧
  (i = i0 ∨ ∀ j, 1 ≤ j → j < t.length → (j - 1) / 4 = i0 → LeE (en t i0) (en t j))
/-- An entry sinks; it is at i. -/
def Sinks (t : List En) (i : Nat) : Prop :=
  (∀ j, 1 ≤ j → j < t.length → (j - 1) / 4 ≠ i → LeE (en t ((j - 1) / 4)) (en t j)) ∧
  (∀ j, 1 ≤ j → j < t.length → (j - 1) / 4 = i → 1 ≤ i → LeE (en t ((i - 1) / 4)) (en t j))
theorem Exc.rises {t : List En} {i : Nat} (h : Exc t i) (hi : i < t.length) : Rises t i i :=
  ⟨Nat.le_refl _, hi, fun j h1 h2 h3 h4 => h.1 j h1 h2 h3 h4, h.2, .inl rfl⟩
theorem HOrd.exc {t : List En} (h : HOrd t) (i : Nat) (x : En) (hi : i < t.length) : Exc (t.set i x) i := by
  constructor
  · intro j h1 h2 h3 h4
    rw [List.length_set] at h2
    rw [en_set _ _ _ _ hi, en_set _ _ _ _ hi, if_neg h4, if_neg h3]
    exact h j h1 h2
  · intro j h1 h2 h3 h4
    rw [List.length_set] at h2
    rw [en_set _ _ _ _ hi, en_set _ _ _ _ hi, if_neg (by omega), if_neg (by omega)]
    have a := h i h4 hi
    have b := h j h1 h2
    rw [h3] at b
    exact leE_trans a b
theorem HOrd.put {t : List En} (h : HOrd t) (x : En) : Rises (t ++ [x]) t.length t.length := by
  refine ⟨Nat.le_refl _, by simp, ?_, ?_, .inl rfl⟩
  · intro j h1 h2 h3 h4
    simp at h2
    rw [en_append, en_append, if_pos (by omega), if_pos (by omega)]
    exact h j h1 (by omega)
  · intro j h1 h2 h3 h4
    simp at h2
    omega
theorem Rises.step {t : List En} {i0 i : Nat} (h : Rises t i0 i) (hi : 1 ≤ i) (hlt : LtE (en t i) (en t ((i - 1) / 4))) : Rises (swE t i ((i - 1) / 4)) i0 ((i - 1) / 4) := by
  obtain ⟨h1, h2, ha, hb, hc⟩ := h
  have hp : (i - 1) / 4 < i := by omega
  have hil : i < t.length := by omega
  have hpl : (i - 1) / 4 < t.length := by omega
  generalize hpe : (i - 1) / 4 = p at *
  refine ⟨by omega, by rw [swE_len]; exact h2, ?_, ?_, ?_⟩
  · intro j j1 j2 j3 j4
    rw [swE_len] at j2
    rw [en_sw t hil hpl, en_sw t hil hpl]
    by_cases e1 : j = i
    · subst e1
      rw [hpe, if_pos rfl, if_neg (by omega), if_pos rfl]
      exact leE_of_lt hlt
    · rw [if_neg j3, if_neg e1]
      by_cases e2 : (j - 1) / 4 = i
      · rw [e2, if_neg (by omega), if_pos rfl]
        exact hb j j1 j2 e2 hi
      · by_cases e3 : (j - 1) / 4 = p
        · rw [if_pos e3]
          have := ha j j1 j2 e1 j4
          rw [e3] at this
          exact leE_trans (leE_of_lt hlt) this
        · rw [if_neg e3, if_neg e2]
          exact ha j j1 j2 e1 j4
  · intro j j1 j2 j3 j4
    rw [swE_len] at j2
    rw [en_sw t hil hpl, en_sw t hil hpl, if_neg (by omega), if_neg (by omega), if_neg (by omega)]
    have hup := ha p j4 hpl (by omega) (by omega)
    by_cases e1 : j = i
    · rw [if_pos e1]; exact hup
    · rw [if_neg e1]
      have := ha j j1 j2 e1 (by omega)
      rw [j3] at this
      exact leE_trans hup this
  · refine .inr fun j j1 j2 j3 => ?_
    rw [swE_len] at j2
    rw [en_sw t hil hpl, en_sw t hil hpl, if_neg (by omega), if_neg (show ¬ j = p by omega), if_neg (show ¬ j = i by omega)]
    by_cases e : i0 = i
    · rw [if_pos e]
      exact hb j j1 j2 (by omega) hi
    · rw [if_neg e]
      rcases hc with hc | hc
      · omega
      · exact hc j j1 j2 j3
theorem Rises.ends {t : List En} {i0 i : Nat} (h : Rises t i0 i) (hs : i = 0 ∨ LeE (en t ((i - 1) / 4)) (en t i)) : Sinks t i0 := by
  obtain ⟨h1, h2, ha, hb, hc⟩ := h
  have hall : ∀ j, 1 ≤ j → j < t.length → (j - 1) / 4 ≠ i0 → LeE (en t ((j - 1) / 4)) (en t j) := by
    intro j j1 j2 j3
    by_cases e : j = i
    · subst e
      rcases hs with hs | hs
      · omega
      · exact hs
    · exact ha j j1 j2 e j3
  refine ⟨hall, fun j j1 j2 j3 j4 => ?_⟩
  rcases hc with hc | hc
  · subst hc; exact hb j j1 j2 j3 j4
  · exact leE_trans (hall i0 j4 h2 (by omega)) (hc j j1 j2 j3)
theorem Sinks.last {t : List En} {i : Nat} (h : Sinks t i) (hi : t.length ≤ 4 * i + 1) : HOrd t := fun j j1 j2 => h.1 j j1 j2 (by omega)
/-- The first one of those below i that were looked at, up to the index m. -/
def First (t : List En) (i m f : Nat) : Prop := (f = i ∨ (4 * i + 1 ≤ f ∧ f < m)) ∧ LeE (en t f) (en t i) ∧ ∀ j, 4 * i + 1 ≤ j → j < m → LeE (en t f) (en t j)
theorem First.begins (t : List En) (i : Nat) : First t i (4 * i + 1) i := ⟨.inl rfl, leE_refl _, fun j h1 h2 => by omega⟩
theorem First.lesser {t : List En} {i m f : Nat} (h : First t i m f) (hm : 4 * i + 1 ≤ m) (hlt : LtE (en t m) (en t f)) : First t i (m + 1) m :=
  ⟨.inr ⟨hm, by omega⟩, leE_of_lt (by rcases lt_or_le (en t m) (en t i) with k | k; exact k; exact absurd (leE_trans h.2.1 k) (fun q => q hlt)), fun j h1 h2 => by
    by_cases e : j = m
    · subst e; exact leE_refl _
    · exact leE_trans (leE_of_lt hlt) (h.2.2 j h1 (by omega))⟩
theorem First.stays {t : List En} {i m f : Nat} (h : First t i m f) (hge : LeE (en t f) (en t m)) : First t i (m + 1) f :=
  ⟨by rcases h.1 with k | k; exact .inl k; exact .inr ⟨k.1, by omega⟩, h.2.1, fun j h1 h2 => by
    by_cases e : j = m
    · subst e; exact hge
    · exact h.2.2 j h1 (by omega)⟩
theorem Sinks.ends {t : List En} {i m : Nat} (h : Sinks t i) (hf : First t i m i) (hm : 4 * i + 5 ≤ m ∨ t.length ≤ m) : HOrd t := fun j j1 j2 => by
  by_cases e : (j - 1) / 4 = i
  · rw [e]; exact hf.2.2 j (by omega) (by omega)
  · exact h.1 j j1 j2 e
theorem Sinks.step {t : List En} {i m f : Nat} (h : Sinks t i) (hi : i < t.length) (hf : First t i m f) (hne : f ≠ i) (hm : m ≤ 4 * i + 5 ∧ m ≤ t.length) (hm2 : m = 4 * i + 5 ∨ m = t.length) : Sinks (swE t i f) f := by
  obtain ⟨ha, hb⟩ := h
  obtain ⟨hr, hle, hall⟩ := hf
  have hrr : 4 * i + 1 ≤ f ∧ f < m := by rcases hr with e | e; exact absurd e hne; exact e
  have hfl : f < t.length := by omega
  constructor
  · intro j j1 j2 j3
    rw [swE_len] at j2
    rw [en_sw t hi hfl, en_sw t hi hfl, if_neg j3]
    by_cases e1 : (j - 1) / 4 = i
    · rw [if_pos e1]
      by_cases e2 : j = f
      · rw [if_pos e2]; exact hle
      · rw [if_neg e2, if_neg (by omega)]
        exact hall j (by omega) (by omega)
    · rw [if_neg e1]
      by_cases e2 : j = f
      · omega
      · rw [if_neg e2]
        by_cases e3 : j = i
        · rw [if_pos e3]
          subst e3
          exact hb f (by omega) hfl (by omega) j1
        · rw [if_neg e3]; exact ha j j1 j2 e1
  · intro j j1 j2 j3 j4
    rw [swE_len] at j2
    rw [en_sw t hi hfl, en_sw t hi hfl, if_neg (by omega), if_pos (by omega), if_neg (by omega), if_neg (by omega)]
    have := ha j j1 j2 (by omega)
    rw [j3] at this
    exact this

/-- THE INDEXES OF THE PLACES. -/
def Agr (n : Nat) (t : List En) (ix : Nat → Int) : Prop :=
  (∀ i, i < t.length → (en t i).2 < n ∧ ix (en t i).2 = i) ∧ ∀ p, p < n → ix p = -1 ∨ ∃ i, i < t.length ∧ ix p = i ∧ (en t i).2 = p
theorem Agr.inj {n : Nat} {t : List En} {ix : Nat → Int} (h : Agr n t ix) {i j : Nat} (hi : i < t.length) (hj : j < t.length) (e : (en t i).2 = (en t j).2) : i = j := by
  have a := (h.1 i hi).2
  have b := (h.1 j hj).2
  rw [e] at a
  omega
theorem Agr.sw {n : Nat} {t : List En} {ix ix' : Nat → Int} (h : Agr n t ix) {i j : Nat} (hi : i < t.length) (hj : j < t.length)
    (hx : ∀ p, ix' p = if p = (en t j).2 then (i : Int) else if p = (en t i).2 then (j : Int) else ix p) : Agr n (swE t i j) ix' := by
  have hinj := @Agr.inj n t ix h
  constructor
  · intro k hk
    rw [swE_len] at hk
    rw [en_sw t hi hj]
    by_cases e1 : k = j
    · rw [if_pos e1, hx]
      refine ⟨(h.1 i hi).1, ?_⟩
      by_cases e2 : (en t i).2 = (en t j).2
      · rw [if_pos e2]; have := hinj hi hj e2; omega
      · rw [if_neg e2, if_pos rfl]; omega
    · rw [if_neg e1]
      by_cases e2 : k = i
      · rw [if_pos e2, hx, if_pos rfl]; exact ⟨(h.1 j hj).1, by omega⟩
      · rw [if_neg e2, hx, if_neg (fun q => e1 (hinj hk hj q)), if_neg (fun q => e2 (hinj hk hi q))]
        exact h.1 k hk
  · intro p hp
    rw [hx]
    by_cases e1 : p = (en t j).2
    · rw [if_pos e1]
      refine .inr ⟨i, by rw [swE_len]; exact hi, rfl, ?_⟩
      rw [en_sw t hi hj]
      by_cases e2 : i = j
      · rw [if_pos e2, e2]; exact e1.symm
      · rw [if_neg e2, if_pos rfl]; exact e1.symm
    · rw [if_neg e1]
      by_cases e2 : p = (en t i).2
      · rw [if_pos e2]
        exact .inr ⟨j, by rw [swE_len]; exact hj, rfl, by rw [en_sw t hi hj, if_pos rfl]; exact e2.symm⟩
      · rw [if_neg e2]
        rcases h.2 p hp with q | ⟨k, k1, k2, k3⟩
        · exact .inl q
        · refine .inr ⟨k, by rw [swE_len]; exact k1, k2, ?_⟩
          rw [en_sw t hi hj, if_neg (fun q => e1 (by rw [← k3, q])), if_neg (fun q => e2 (by rw [← k3, q]))]
          exact k3
/-- Another key at an index. -/
theorem Agr.change {n : Nat} {t : List En} {ix : Nat → Int} (h : Agr n t ix) {i : Nat} (hi : i < t.length) (k : Ky) : Agr n (t.set i (k, (en t i).2)) ix := by
  have e : ∀ j, (en (t.set i (k, (en t i).2)) j).2 = (en t j).2 := fun j => by
    rw [en_set _ _ _ _ hi]
    by_cases q : j = i
    · rw [if_pos q, q]
    · rw [if_neg q]
  constructor
  · intro j hj
    rw [List.length_set] at hj
    rw [e]
    exact h.1 j hj
  · intro p hp
    rcases h.2 p hp with q | ⟨j, j1, j2, j3⟩
    · exact .inl q
    · exact .inr ⟨j, by rw [List.length_set]; exact j1, j2, by rw [e]; exact j3⟩
theorem Agr.put {n : Nat} {t : List En} {ix ix' : Nat → Int} (h : Agr n t ix) {p : Nat} (hp : p < n) (ha : ix p = -1) (k : Ky) (hx : ∀ q, ix' q = if q = p then (t.length : Int) else ix q) : Agr n (t ++ [(k, p)]) ix' := by
  have e : ∀ j, j < t.length → en (t ++ [(k, p)]) j = en t j := fun j hj => by rw [en_append, if_pos hj]
  have e2 : en (t ++ [(k, p)]) t.length = (k, p) := by rw [en_append, if_neg (by omega), if_pos rfl]
  constructor
  · intro j hj
    simp at hj
    by_cases q : j = t.length
    · rw [q, e2, hx, if_pos rfl]; exact ⟨hp, rfl⟩
    · rw [e j (by omega), hx]
      have := h.1 j (by omega)
      refine ⟨this.1, ?_⟩
      by_cases q2 : (en t j).2 = p
      · rw [q2] at this; omega
      · rw [if_neg q2]; exact this.2
  · intro q hq
    rw [hx]
    by_cases c : q = p
    · rw [if_pos c]
      exact .inr ⟨t.length, by simp, rfl, by rw [e2]; exact c.symm⟩
    · rw [if_neg c]
      rcases h.2 q hq with d | ⟨j, j1, j2, j3⟩
      · exact .inl d
      · exact .inr ⟨j, by simp; omega, j2, by rw [e j j1]; exact j3⟩
/-- The last one taken away. -/
theorem Agr.drop {n : Nat} {t : List En} {ix ix' : Nat → Int} (h : Agr n t ix) (m : Nat) (hm : t.length = m + 1) (hx : ∀ q, ix' q = if q = (en t m).2 then -1 else ix q) : Agr n (t.take m) ix' := by
  have hl : (t.take m).length = m := by rw [List.length_take]; omega
  constructor
  · intro j hj
    rw [hl] at hj
    rw [en_take _ _ _ hj, hx]
    have := h.1 j (by omega)
    refine ⟨this.1, ?_⟩
    rw [if_neg (fun q => by have := h.inj (by omega) (by omega) q; omega)]
    exact this.2
  · intro q hq
    rw [hx]
    by_cases c : q = (en t m).2
    · rw [if_pos c]; exact .inl rfl
    · rw [if_neg c]
      rcases h.2 q hq with d | ⟨j, j1, j2, j3⟩
      · exact .inl d
      · refine .inr ⟨j, ?_, j2, ?_⟩
        · rw [hl]
          by_cases c2 : j = m
          · subst c2; exact absurd j3.symm c
          · omega
        · by_cases c2 : j = m
          · subst c2; exact absurd j3.symm c
          · rw [en_take _ _ _ (by omega)]; exact j3

/-- WHAT IS THERE: the key of each place. -/
abbrev Mp := Nat → Option Ky
def Has (t : List En) (M : Mp) : Prop := ∀ p k, M p = some k ↔ (k, p) ∈ t
def updM (M : Mp) (p : Nat) (v : Option Ky) : Mp := fun q => if q = p then v else M q
theorem Has.at {n : Nat} {t : List En} {ix : Nat → Int} {M : Mp} (h : Has t M) (ha : Agr n t ix) {p : Nat} (hp : p < n) : (ix p = -1 ∧ M p = none) ∨ ∃ i, i < t.length ∧ ix p = i ∧ en t i = ((en t i).1, p) ∧ M p = some (en t i).1 := by
  rcases ha.2 p hp with q | ⟨i, i1, i2, i3⟩
  · refine .inl ⟨q, ?_⟩
    cases hm : M p with
    | none => rfl
    | some k =>
      obtain ⟨i, i1, i2⟩ := mem_en ((h p k).1 hm)
      have := (ha.1 i i1).2
      rw [i2] at this
      have : ix p = i := this
      omega
  · refine .inr ⟨i, i1, i2, by rw [← i3], (h p _).2 ?_⟩
    have := en_mem i1
    rwa [show en t i = ((en t i).1, p) by rw [← i3]] at this
theorem Has.off {n : Nat} {t : List En} {ix : Nat → Int} {M : Mp} (h : Has t M) (ha : Agr n t ix) {p : Nat} (hp : n ≤ p) : M p = none := by
  cases hm : M p with
  | none => rfl
  | some k =>
    obtain ⟨i, i1, i2⟩ := mem_en ((h p k).1 hm)
    have := (ha.1 i i1).1
    rw [i2] at this
    have : p < n := this
    omega
theorem Has.mem {t u : List En} {M : Mp} (h : Has t M) (e : ∀ x, x ∈ u ↔ x ∈ t) : Has u M := fun p k => (h p k).trans (e _).symm
theorem Has.put {n : Nat} {t : List En} {ix : Nat → Int} {M : Mp} (h : Has t M) (ha : Agr n t ix) {p : Nat} (hp : p < n) (hx : ix p = -1) (k : Ky) : Has (t ++ [(k, p)]) (updM M p (some k)) := by
  intro q j
  rw [List.mem_append, List.mem_singleton]
  unfold updM
  by_cases c : q = p
  · rw [if_pos c]
    constructor
    · intro e; exact .inr (by rw [c]; simpa using e.symm)
    · rintro (e | e)
      · have := (h q j).2 e
        rw [c] at this
        rcases h.at ha hp with ⟨_, b⟩ | ⟨i, _, b, _⟩
        · rw [b] at this; cases this
        · omega
      · cases e; rfl
  · rw [if_neg c]
    constructor
    · intro e; exact .inl ((h q j).1 e)
    · rintro (e | e)
      · exact (h q j).2 e
      · cases e; exact absurd rfl c
theorem Has.change {n : Nat} {t : List En} {ix : Nat → Int} {M : Mp} (h : Has t M) (ha : Agr n t ix) {i : Nat} (hi : i < t.length) (k : Ky) : Has (t.set i (k, (en t i).2)) (updM M (en t i).2 (some k)) := by
  intro q j
  unfold updM
  constructor
  · intro e
    by_cases c : q = (en t i).2
    · rw [if_pos c] at e
      have : en (t.set i (k, (en t i).2)) i = (j, q) := by rw [en_set _ _ _ _ hi, if_pos rfl, c]; simpa using e
      exact this ▸ en_mem (by simpa using hi)
    · rw [if_neg c] at e
      obtain ⟨m, m1, m2⟩ := mem_en ((h q j).1 e)
      have : en (t.set i (k, (en t i).2)) m = (j, q) := by
        rw [en_set _ _ _ _ hi, if_neg (fun z => c (by rw [← z, m2])), m2]
      exact this ▸ en_mem (by simpa using m1)
  · intro e
    obtain ⟨m, m1, m2⟩ := mem_en e
    rw [List.length_set] at m1
    rw [en_set _ _ _ _ hi] at m2
    by_cases c : m = i
    · rw [if_pos c] at m2
      cases m2
      rw [if_pos rfl]
    · rw [if_neg c] at m2
      rw [if_neg (fun z => c (ha.inj m1 hi (by rw [m2]; exact z)))]
      exact (h q j).2 (m2 ▸ en_mem m1)
theorem Has.drop {n : Nat} {t : List En} {ix : Nat → Int} {M : Mp} (h : Has t M) (ha : Agr n t ix) (m : Nat) (hm : t.length = m + 1) : Has (t.take m) (updM M (en t m).2 none) := by
  intro q j
  unfold updM
  have hl : (t.take m).length = m := by rw [List.length_take]; omega
  constructor
  · intro e
    by_cases c : q = (en t m).2
    · rw [if_pos c] at e; cases e
    · rw [if_neg c] at e
      obtain ⟨i, i1, i2⟩ := mem_en ((h q j).1 e)
      have hi : i < m := by
        by_cases z : i = m
        · subst z; rw [i2] at c; exact absurd rfl c
        · omega
      have : en (t.take m) i = (j, q) := by rw [en_take _ _ _ hi, i2]
      exact this ▸ en_mem (by omega)
  · intro e
    obtain ⟨i, i1, i2⟩ := mem_en e
    rw [hl] at i1
    rw [en_take _ _ _ i1] at i2
    rw [if_neg (fun z => by have := ha.inj (show i < t.length by omega) (show m < t.length by omega) (by rw [i2]; exact z); omega)]
    exact (h q j).2 (i2 ▸ en_mem (by omega))
/-- The entry at the top comes before all. -/
theorem HOrd.least {t : List En} (h : HOrd t) : ∀ n i, i ≤ n → i < t.length → LeE (en t 0) (en t i) := by
  intro n
  induction n with
  | zero => intro i h1 _; rw [show i = 0 by omega]; exact leE_refl _
  | succ n ih =>
    intro i h1 h2
    by_cases e : i = 0
    · rw [e]; exact leE_refl _
    · exact leE_trans (ih ((i - 1) / 4) (by omega) (by omega)) (h i (by omega) h2)

/-- ALL ENTRIES IN ORDER. -/
def AscE (l : List En) : Prop := ∀ i j, i < j → j < l.length → LtE (en l i) (en l j)
theorem ascE_tail {x : En} {l : List En} (h : AscE (x :: l)) : AscE l ∧ ∀ y ∈ l, LtE x y :=
  ⟨fun i j h1 h2 => h (i + 1) (j + 1) (by omega) (by simpa using h2), fun y hy => by
    obtain ⟨i, i1, i2⟩ := mem_en hy
    have : LtE (en (x :: l) 0) (en (x :: l) (i + 1)) := h 0 (i + 1) (by omega) (by simpa using i1)
    rw [← i2]; exact this⟩
theorem ascE_cons {x : En} {l : List En} (h : AscE l) (hx : ∀ y ∈ l, LtE x y) : AscE (x :: l) := by
  intro i j h1 h2
  cases j with
  | zero => omega
  | succ j =>
    have hj : j < l.length := by simpa using h2
    cases i with
    | zero => exact hx _ (en_mem hj)
    | succ i => exact h i j (by omega) hj
theorem ascE_unique : ∀ l m : List En, AscE l → AscE m → (∀ x, x ∈ l ↔ x ∈ m) → l = m
  | [], [], _, _, _ => rfl
  | [], y :: m, _, _, h => absurd ((h y).2 (by simp)) (by simp)
  | x :: l, [], _, _, h => absurd ((h x).1 (by simp)) (by simp)
  | x :: l, y :: m, hl, hm, h => by
    obtain ⟨hl1, hl2⟩ := ascE_tail hl
    obtain ⟨hm1, hm2⟩ := ascE_tail hm
    have e : x = y := by
      rcases List.mem_cons.1 ((h x).1 (by simp)) with a | a
      · exact a
      · rcases List.mem_cons.1 ((h y).2 (by simp)) with b | b
        · exact b.symm
        · exact absurd (hl2 y b) (ltE_asymm (hm2 x a))
    subst e
    rw [ascE_unique l m hl1 hm1 fun z => ?_]
    constructor
    · intro hz
      rcases List.mem_cons.1 ((h z).1 (List.mem_cons_of_mem _ hz)) with a | a
      · exact absurd (hl2 z hz) (by rw [a]; exact ltE_irrefl _)
      · exact a
    · intro hz
      rcases List.mem_cons.1 ((h z).2 (List.mem_cons_of_mem _ hz)) with a | a
      · exact absurd (hm2 z hz) (by rw [a]; exact ltE_irrefl _)
      · exact a
def insE (x : En) : List En → List En
  | [] => [x]
  | y :: l => if LtE x y then x :: y :: l else if x = y then y :: l else y :: insE x l
theorem insE_mem (x : En) : ∀ (l : List En) (z : En), z ∈ insE x l ↔ z = x ∨ z ∈ l
  | [], z => by simp [insE]
  | y :: l, z => by
    unfold insE
    split
    · simp
    · split
      · rename_i h; subst h; simp
      · simp only [List.mem_cons, insE_mem x l z]
        constructor
        · rintro (h | h | h)
          · exact .inr (.inl h)
          · exact .inl h
          · exact .inr (.inr h)
        · rintro (h | h | h)
          · exact .inr (.inl h)
          · exact .inl h
          · exact .inr (.inr h)
theorem insE_asc (x : En) : ∀ l : List En, AscE l → AscE (insE x l)
  | [], _ => fun i j h1 h2 => by simp [insE] at h2; omega
  | y :: l, h => by
    obtain ⟨h1, h2⟩ := ascE_tail h
    unfold insE
    split
    · rename_i c
      refine ascE_cons h fun z hz => ?_
      rcases List.mem_cons.1 hz with rfl | hz
      · exact c
      · exact ltE_trans c (h2 z hz)
    · split
      · exact h
      · rename_i c d
        refine ascE_cons (insE_asc x l h1) fun z hz => ?_
        rcases (insE_mem x l z).1 hz with rfl | hz
        · rcases ltE_tri z y with e | e | e
          · exact absurd e c
          · exact absurd e d
          · exact e
        · exact h2 z hz
/-- The entries of the places below n, in order. -/
def ordM (n : Nat) (M : Mp) : List En := ((List.range n).filterMap fun p => (M p).map fun k => (k, p)).foldr insE []
theorem foldr_mem : ∀ (l : List En) (z : En), z ∈ l.foldr insE [] ↔ z ∈ l
  | [], z => Iff.rfl
  | x :: l, z => by rw [List.foldr_cons, insE_mem, foldr_mem l z, List.mem_cons]
theorem foldr_asc : ∀ l : List En, AscE (l.foldr insE [])
  | [] => fun i j _ h => absurd h (by simp)
  | x :: l => insE_asc x _ (foldr_asc l)
theorem ordM_asc (n : Nat) (M : Mp) : AscE (ordM n M) := foldr_asc _
theorem ordM_mem (n : Nat) (M : Mp) (k : Ky) (p : Nat) : (k, p) ∈ ordM n M ↔ p < n ∧ M p = some k := by
  unfold ordM
  rw [foldr_mem, List.mem_filterMap]
  constructor
  · rintro ⟨q, hq, e⟩
    rw [List.mem_range] at hq
    cases hm : M q with
    | none => rw [hm] at e; cases e
    | some j => rw [hm] at e; simp at e; obtain ⟨rfl, rfl⟩ := e; exact ⟨hq, hm⟩
  · rintro ⟨h1, h2⟩
    exact ⟨p, List.mem_range.2 h1, by rw [h2]; rfl⟩
theorem ordM_is {n : Nat} {t l : List En} {ix : Nat → Int} {M : Mp} (h : Has t M) (ha : Agr n t ix) (h1 : AscE l) (h2 : ∀ x, x ∈ l ↔ x ∈ t) : l = ordM n M :=
  ascE_unique _ _ h1 (ordM_asc n M) fun ⟨k, p⟩ => by
    rw [h2, ordM_mem, ← h p k]
    constructor
    · intro e
      refine ⟨?_, e⟩
      by_cases c : p < n
      · exact c
      · rw [h.off ha (by omega)] at e; cases e
    · exact fun e => e.2
theorem ordM_congr {n : Nat} {M N : Mp} (h : ∀ p, p < n → M p = N p) : ordM n M = ordM n N :=
  ascE_unique _ _ (ordM_asc n M) (ordM_asc n N) fun ⟨k, p⟩ => by
    rw [ordM_mem, ordM_mem]
    constructor
    · rintro ⟨a, b⟩; exact ⟨a, (h p a) ▸ b⟩
    · rintro ⟨a, b⟩; exact ⟨a, (h p a).symm ▸ b⟩
theorem nodup_len : ∀ (l m : List En), (∀ i j, i < j → j < l.length → en l i ≠ en l j) → (∀ i j, i < j → j < m.length → en m i ≠ en m j) → (∀ x, x ∈ l ↔ x ∈ m) → l.length = m.length := by
  intro l m h1 h2 h
  have nd : ∀ l : List En, (∀ i j, i < j → j < l.length → en l i ≠ en l j) → l.Nodup := fun l hl => by
    unfold List.Nodup
    rw [List.pairwise_iff_getElem]
    intro i j hi hj hij
    have := hl i j hij hj
    unfold en at this
    rw [List.getD_eq_getElem?_getD, List.getD_eq_getElem?_getD, List.getElem?_eq_getElem hi, List.getElem?_eq_getElem hj] at this
    exact this
  exact (List.perm_ext_iff_of_nodup (nd l h1) (nd m h2)).2 h |>.length_eq
theorem ordM_len {n : Nat} {t : List En} {ix : Nat → Int} {M : Mp} (h : Has t M) (ha : Agr n t ix) : (ordM n M).length = t.length :=
  nodup_len _ _ (fun i j h1 h2 e => by have := ordM_asc n M i j h1 h2; rw [e] at this; exact ltE_irrefl _ this) (fun i j h1 h2 e => by have := ha.inj (show i < t.length by omega) h2 (by rw [e]); omega) fun ⟨k, p⟩ => by
    rw [ordM_mem, h p k]
    constructor
    · exact fun e => e.2
    · intro e
      obtain ⟨i, i1, i2⟩ := mem_en e
      have := (ha.1 i i1).1
      rw [i2] at this
      exact ⟨this, e⟩
end Go.Proofs.YtcjkeobjojmpfaaGreat
end

section
/-
  TABLES OF PLACES, in plain numbers: the life of each place, which are taken, the free ones in their order.
-/
namespace Go.Proofs.YtcjkeobjojmpfaaGreat

/-- The numbers below n with f. -/
def pl (n : Nat) (f : Nat → Bool) : List Nat := (List.range n).filter f
def cnt (n : Nat) (f : Nat → Bool) : Nat := (pl n f).length
theorem pl_succ (n : Nat) (f : Nat → Bool) : pl (n + 1) f = if f n = true then pl n f ++ [n] else pl n f := by
  unfold pl
  rw [List.range_succ, List.filter_append]
  by_cases h : f n = true <;> simp [h]
theorem cnt_succ (n : Nat) (f : Nat → Bool) : cnt (n + 1) f = cnt n f + if f n = true then 1 else 0 := by
  unfold cnt
  rw [pl_succ]
  by_cases h : f n = true <;> simp [h]
theorem cnt_zero (f : Nat → Bool) : cnt 0 f = 0 := rfl
theorem pl_mem {n : Nat} {f : Nat → Bool} {p : Nat} : p ∈ pl n f ↔ p < n ∧ f p = true := by unfold pl; simp
theorem cnt_congr {n : Nat} {f g : Nat → Bool} (h : ∀ p, p < n → f p = g p) : cnt n f = cnt n g := by
  induction n with
  | zero => rfl
  | succ n ih => rw [cnt_succ, cnt_succ, ih (fun p hp => h p (by omega)), h n (by omega)]
theorem pl_congr {n : Nat} {f g : Nat → Bool} (h : ∀ p, p < n → f p = g p) : pl n f = pl n g := by
  induction n with
  | zero => rfl
  | succ n ih => rw [pl_succ, pl_succ, ih (fun p hp => h p (by omega)), h n (by omega)]
theorem cnt_set (n : Nat) (f : Nat → Bool) (p : Nat) (b : Bool) (hp : p < n) :
    cnt n (fun q => if q = p then b else f q) + (if f p = true then 1 else 0) = cnt n f + (if b = true then 1 else 0) := by
  induction n with
  | zero => omega
  | succ n ih =>
    rw [cnt_succ, cnt_succ]
    by_cases e : p = n
    · subst e
      have : cnt p (fun q => if q = p then b else f q) = cnt p f := cnt_congr fun q hq => by rw [if_neg (by omega)]
      rw [this]
      simp only [if_true]
      omega
    · have := ih (by omega)
      have e2 : ¬ n = p := fun h => e h.symm
      simp only [if_neg e2]
      omega
theorem cnt_le (n : Nat) (f : Nat → Bool) : cnt n f ≤ n := by
  induction n with
  | zero => exact Nat.le_refl _
  | succ n ih => rw [cnt_succ]; split <;> omega
theorem cnt_mono {m n : Nat} (h : m ≤ n) (f : Nat → Bool) : cnt m f ≤ cnt n f := by
  induction n with
  | zero => have : m = 0 := by omega
            rw [this]; exact Nat.le_refl _
  | succ n ih =>
    rw [cnt_succ]
    by_cases e : m = n + 1
    · rw [e, cnt_succ]; exact Nat.le_refl _
    · have := ih (by omega); omega
theorem pl_full {m n : Nat} (h : m ≤ n) (f : Nat → Bool) (e : cnt m f = cnt n f) : pl m f = pl n f := by
  induction n with
  | zero => have : m = 0 := by omega
            rw [this]
  | succ n ih =>
    by_cases c : m = n + 1
    · rw [c]
    · have h1 := cnt_mono (m := m) (n := n) (by omega) f
      rw [cnt_succ] at e
      by_cases k : f n = true
      · rw [if_pos k] at e; omega
      · rw [if_neg k] at e
        rw [pl_succ, if_neg k]
        exact ih (by omega) (by omega)
theorem pl_nodup (n : Nat) (f : Nat → Bool) : (pl n f).Nodup := List.Pairwise.filter _ (List.nodup_range)

structure Tb where
  life : Nat → Nat
  tk : Nat → Bool
  free : List Nat
def wornF (k : Nat) (S : Tb) : Nat → Bool := fun p => !S.tk p && decide (S.life p = k)
/-- WHAT IS ALWAYS SO of a table of n places with k lives. -/
structure TOk (n k : Nat) (S : Tb) : Prop where
  nodup : S.free.Nodup
  mem : ∀ p, p ∈ S.free ↔ p < n ∧ S.tk p = false ∧ S.life p < k
  le : ∀ p, p < n → S.life p ≤ k
  pos : ∀ p, p < n → S.tk p = true → 1 ≤ S.life p
  sum : cnt n S.tk + S.free.length + cnt n (wornF k S) = n
def newT (n : Nat) : Tb := ⟨fun _ => 0, fun _ => false, List.range n⟩
def takeT (S : Tb) (p : Nat) (r : List Nat) : Tb := ⟨fun q => if q = p then S.life p + 1 else S.life q, fun q => if q = p then true else S.tk q, r⟩
def giveT (k : Nat) (S : Tb) (p : Nat) : Tb := ⟨S.life, fun q => if q = p then false else S.tk q, if S.life p = k then S.free else p :: S.free⟩
/-- The live references. -/
def refsT (n : Nat) (S : Tb) : List (Nat × Nat) := (pl n S.tk).map fun p => (p, S.life p)
theorem refs_len (n : Nat) (S : Tb) : (refsT n S).length = cnt n S.tk := by unfold refsT cnt; simp
theorem cnt_none (n : Nat) (f : Nat → Bool) (h : ∀ p, p < n → f p = false) : cnt n f = 0 := by
  induction n with
  | zero => rfl
  | succ n ih => rw [cnt_succ, ih (fun p hp => h p (by omega)), h n (by omega)]; rfl
theorem TOk.new (n : Nat) {k : Nat} (hk : 1 ≤ k) : TOk n k (newT n) := by
  refine ⟨List.nodup_range, fun p => ?_, fun p _ => Nat.zero_le _, fun p _ h => (by cases h), ?_⟩
  · show p ∈ List.range n ↔ p < n ∧ false = false ∧ 0 < k
    simp
    omega
  · show cnt n (fun _ => false) + (List.range n).length + cnt n (wornF k (newT n)) = n
    rw [cnt_none n _ (fun _ _ => rfl), cnt_none n (wornF k (newT n)) (fun p _ => by
      show (!false && decide (0 = k)) = false
      have : ¬ 0 = k := by omega
      simp [this])]
    simp
theorem TOk.head {n k : Nat} {S : Tb} {p : Nat} {r : List Nat} (h : TOk n k S) (e : S.free = p :: r) : p < n ∧ S.tk p = false ∧ S.life p < k ∧ p ∉ r := by
  have h1 := (h.mem p).1 (by rw [e]; exact List.mem_cons_self)
  have h2 := h.nodup
  rw [e] at h2
  exact ⟨h1.1, h1.2.1, h1.2.2, (List.nodup_cons.1 h2).1⟩
theorem TOk.cnt_take {n k : Nat} {S : Tb} {p : Nat} {r : List Nat} (h : TOk n k S) (e : S.free = p :: r) : cnt n (takeT S p r).tk = cnt n S.tk + 1 := by
  obtain ⟨p1, p2, p3, p4⟩ := h.head e
  have h1 := cnt_set n S.tk p true p1
  rw [p2] at h1
  simp only [if_true, Bool.false_eq_true, if_false] at h1
  exact h1
theorem TOk.worn_take {n k : Nat} {S : Tb} {p : Nat} {r : List Nat} (h : TOk n k S) (e : S.free = p :: r) : cnt n (wornF k (takeT S p r)) = cnt n (wornF k S) := by
  obtain ⟨p1, p2, p3, p4⟩ := h.head e
  refine cnt_congr fun q hq => ?_
  show (!(if q = p then true else S.tk q) && decide ((if q = p then S.life p + 1 else S.life q) = k)) = (!S.tk q && decide (S.life q = k))
  by_cases c : q = p
  · subst c
    have : ¬ S.life q = k := by omega
    simp [this]
  · rw [if_neg c, if_neg c]
theorem cnt_give {n k : Nat} {S : Tb} {p : Nat} (hp : p < n) (ht : S.tk p = true) : cnt n (giveT k S p).tk + 1 = cnt n S.tk := by
  have h1 := cnt_set n S.tk p false hp
  rw [ht] at h1
  simp only [if_true, Bool.false_eq_true, if_false] at h1
  exact h1
theorem worn_give {n k : Nat} {S : Tb} {p : Nat} (hp : p < n) (ht : S.tk p = true) : cnt n (wornF k (giveT k S p)) = cnt n (wornF k S) + if S.life p = k then 1 else 0 := by
  have h4 := cnt_set n (wornF k S) p (decide (S.life p = k)) hp
  have h5 : wornF k S p = false := by unfold wornF; rw [ht]; rfl
  rw [h5] at h4
  have h6 : cnt n (wornF k (giveT k S p)) = cnt n (fun q => if q = p then decide (S.life p = k) else wornF k S q) := by
    refine cnt_congr fun q hq => ?_
    show (!(if q = p then false else S.tk q) && decide (S.life q = k)) = if q = p then decide (S.life p = k) else (!S.tk q && decide (S.life q = k))
    by_cases c : q = p
    · subst c; simp
    · rw [if_neg c, if_neg c]
  rw [h6]
  by_cases c : S.life p = k
  · simp [c] at h4 ⊢; omega
  · simp [c] at h4 ⊢; omega
theorem TOk.take {n k : Nat} {S : Tb} {p : Nat} {r : List Nat} (h : TOk n k S) (e : S.free = p :: r) : TOk n k (takeT S p r) := by
  obtain ⟨p1, p2, p3, p4⟩ := h.head e
  have hn := h.nodup
  rw [e] at hn
  refine ⟨(List.nodup_cons.1 hn).2, fun q => ?_, fun q hq => ?_, fun q hq ht => ?_, ?_⟩
  · show q ∈ r ↔ q < n ∧ (if q = p then true else S.tk q) = false ∧ (if q = p then S.life p + 1 else S.life q) < k
    by_cases c : q = p
    · subst c
      simp [p4]
    · rw [if_neg c, if_neg c]
      rw [← h.mem q, e]
      simp [c]
  · show (if q = p then S.life p + 1 else S.life q) ≤ k
    split
    · omega
    · exact h.le q hq
  · show 1 ≤ if q = p then S.life p + 1 else S.life q
    split
    · omega
    · rename_i c
      have ht' : (if q = p then true else S.tk q) = true := ht
      rw [if_neg c] at ht'
      exact h.pos q hq ht'
  · have h1 := cnt_set n S.tk p true p1
    rw [p2] at h1
    have h2 := h.sum
    rw [e] at h2
    have h3 : cnt n (wornF k (takeT S p r)) = cnt n (wornF k S) := by
      refine cnt_congr fun q hq => ?_
      show (!(if q = p then true else S.tk q) && decide ((if q = p then S.life p + 1 else S.life q) = k)) = (!S.tk q && decide (S.life q = k))
      by_cases c : q = p
      · subst c
        have : ¬ S.life q = k := by omega
        simp [this]
      · rw [if_neg c, if_neg c]
    show cnt n (fun q => if q = p then true else S.tk q) + r.length + cnt n (wornF k (takeT S p r)) = n
    rw [h3]
    simp only [List.length_cons, if_true, Bool.false_eq_true, if_false] at h1 h2
    omega
theorem TOk.notfree {n k : Nat} {S : Tb} {p : Nat} (h : TOk n k S) (ht : S.tk p = true) : p ∉ S.free := fun hm => by
  have := ((h.mem p).1 hm).2.1
  rw [ht] at this
  cases this
theorem TOk.give {n k : Nat} {S : Tb} {p : Nat} (h : TOk n k S) (hp : p < n) (ht : S.tk p = true) : TOk n k (giveT k S p) := by
  have hnf := h.notfree ht
  have hle := h.le p hp
  have h1 := cnt_set n S.tk p false hp
  rw [ht] at h1
  have h2 := h.sum
  have h3 : cnt n (wornF k (giveT k S p)) = cnt n (wornF k S) + if S.life p = k then 1 else 0 := by
    have h4 := cnt_set n (wornF k S) p (decide (S.life p = k)) hp
    have h5 : wornF k S p = false := by unfold wornF; rw [ht]; rfl
    rw [h5] at h4
    have h6 : cnt n (wornF k (giveT k S p)) = cnt n (fun q => if q = p then decide (S.life p = k) else wornF k S q) := by
      refine cnt_congr fun q hq => ?_
      show (!(if q = p then false else S.tk q) && decide (S.life q = k)) = if q = p then decide (S.life p = k) else (!S.tk q && decide (S.life q = k))
      by_cases c : q = p
      · subst c; simp
      · rw [if_neg c, if_neg c]
    rw [h6]
    by_cases c : S.life p = k
    · simp [c] at h4 ⊢; omega
    · simp [c] at h4 ⊢; omega
  refine ⟨?_, fun q => ?_, h.le, fun q hq hq2 => ?_, ?_⟩
  · show (if S.life p = k then S.free else p :: S.free).Nodup
    split
    · exact h.nodup
    · exact List.nodup_cons.2 ⟨hnf, h.nodup⟩
  · show q ∈ (if S.life p = k then S.free else p :: S.free) ↔ q < n ∧ (if q = p then false else S.tk q) = false ∧ S.life q < k
    by_cases c : q = p
    · subst c
      by_cases d : S.life q = k
      · rw [if_pos d]
        simp [hnf]
        omega
      · rw [if_neg d]
        simp
        omega
    · rw [if_neg c]
      by_cases d : S.life p = k
      · rw [if_pos d]; exact h.mem q
      · rw [if_neg d]
        rw [← h.mem q]
        simp [c]
  · refine h.pos q hq ?_
    have hq3 : (if q = p then false else S.tk q) = true := hq2
    by_cases c : q = p
    · rw [if_pos c] at hq3; cases hq3
    · rwa [if_neg c] at hq3
  · show cnt n (fun q => if q = p then false else S.tk q) + (if S.life p = k then S.free else p :: S.free).length + cnt n (wornF k (giveT k S p)) = n
    rw [h3]
    simp only [if_true, Bool.false_eq_true, if_false] at h1
    by_cases c : S.life p = k
    · rw [if_pos c, if_pos c]; omega
    · rw [if_neg c, if_neg c, List.length_cons]
      omega
/-- THE FREE PLACES ARE LINKED from f on. -/
def Links (nx : Nat → Int) : Int → List Nat → Prop
  | f, [] => f = -1
  | f, p :: l => f = (p : Int) ∧ Links nx (nx p) l
theorem Links.congr {nx ny : Nat → Int} : ∀ {l : List Nat} {f : Int}, Links nx f l → (∀ p ∈ l, ny p = nx p) → Links ny f l
  | [], _, h, _ => h
  | p :: _, _, h, e => ⟨h.1, by rw [e p List.mem_cons_self]; exact h.2.congr fun q hq => e q (List.mem_cons_of_mem _ hq)⟩
theorem Links.put {nx : Nat → Int} {l : List Nat} {f : Int} (h : Links nx f l) {p : Nat} (hp : p ∉ l) : Links (fun q => if q = p then f else nx q) (p : Int) (p :: l) :=
  ⟨rfl, by
    show Links _ (if p = p then f else nx p) l
    rw [if_pos rfl]
    exact h.congr fun q hq => by
      show (if q = p then f else nx q) = nx q
      rw [if_neg (fun e : q = p => hp (by rw [← e]; exact hq))]⟩
theorem Links.drop {nx : Nat → Int} : ∀ {l : List Nat} {f : Int} (j : Nat), Links nx f l → ∃ g, Links nx g (l.drop j)
  | _, f, 0, h => ⟨f, h⟩
  | [], f, _ + 1, h => ⟨f, h⟩
  | _ :: _, _, j + 1, h => h.2.drop j
/-- The last places, linked. -/
theorem links_range (n : Nat) : ∀ j, j ≤ n → ∀ nx : Nat → Int, (∀ p, p < n → n - j ≤ p → nx p = if p + 1 < n then ((p + 1 : Nat) : Int) else -1) → Links nx (if j = 0 then -1 else ((n - j : Nat) : Int)) ((List.range n).drop (n - j)) := by
  intro j
  induction j with
  | zero => intro _ nx _; rw [List.drop_of_length_le (by simp)]; rfl
  | succ j ih =>
    intro hj nx hnx
    have e : (List.range n).drop (n - (j + 1)) = (n - (j + 1)) :: (List.range n).drop (n - j) := by
      rw [List.drop_eq_getElem_cons (by simp; omega)]
      simp
      omega
    rw [e, if_neg (by omega)]
    refine ⟨rfl, ?_⟩
    rw [hnx _ (by omega) (Nat.le_refl _)]
    have := ih (by omega) nx (fun p h1 h2 => hnx p h1 (by omega))
    by_cases c : j = 0
    · rw [if_neg (by omega)]; rw [if_pos c] at this; exact this
    · rw [if_pos (by omega)]; rw [if_neg c] at this
      rw [show n - (j + 1) + 1 = n - j by omega]; exact this
/-- How many places there are from i on. -/
def after (i : Int) : List Nat → Nat
  | [] => 0
  | p :: l => if i = (p : Int) then l.length + 1 else after i l
theorem after_none : ∀ l : List Nat, after (-1) l = 0
  | [] => rfl
  | p :: l => by
    unfold after
    rw [if_neg (by omega)]
    exact after_none l
theorem after_drop : ∀ (l : List Nat) (j p : Nat) (r : List Nat), l.Nodup → l.drop j = p :: r → after (p : Int) l = r.length + 1
  | [], j, p, r, _, e => by simp at e
  | a :: l, 0, p, r, _, e => by
    simp at e
    obtain ⟨rfl, rfl⟩ := e
    unfold after
    rw [if_pos rfl]
  | a :: l, j + 1, p, r, hn, e => by
    simp at e
    have hm : p ∈ l := List.mem_of_mem_drop (i := j) (by rw [e]; exact List.mem_cons_self)
    have hne : a ≠ p := fun h => (List.nodup_cons.1 hn).1 (h ▸ hm)
    unfold after
    rw [if_neg (by omega)]
    exact after_drop l j p r (List.nodup_cons.1 hn).2 e
theorem after_links {nx : Nat → Int} {l : List Nat} {j : Nat} {i : Int} (hn : l.Nodup) (h : Links nx i (l.drop j)) : after i l = (l.drop j).length := by
  cases e : l.drop j with
  | nil => rw [e] at h; have h2 : i = -1 := h; rw [h2, after_none]; rfl
  | cons p r => rw [e] at h; rw [h.1, after_drop l j p r hn e]; rfl
theorem drop_get {l : List Nat} {j : Nat} (h : j < l.length) : l.drop j = l.getD j 0 :: l.drop (j + 1) := by
  rw [List.drop_eq_getElem_cons h, List.getD_eq_getElem?_getD, List.getElem?_eq_getElem h]; rfl
def fq (l : List Nat) (j : Nat) : Nat := l.getD j 0
end Go.Proofs.YtcjkeobjojmpfaaGreat
end

section
/-
  PLAIN FACTS about queues of events: events by their places, their names, and the list of all of them in order. No program is named here.
-/
namespace Go.Proofs.YtcjkeobjojmpfaaGreat
open Go.RowKit

/-- An event: its key, for whom it is, its value. -/
abbrev Ev := Ky × Int × Int
def vV (x : Ev) : Value := .agg #[.int .i64 x.1.1, .int .i64 x.1.2.1, .int .i64 x.1.2.2, .int .i64 x.2.1, .int .i64 x.2.2]
def encV (x : Ev) : List Value := [.int .i64 x.1.1, .int .i64 x.1.2.1, .int .i64 x.1.2.2, .int .i64 x.2.1, .int .i64 x.2.2]
def RightV (x : Ev) : Prop := RightK x.1 ∧ 1 ≤ x.2.1 ∧ x.2.1 ≤ 16
instance (x : Ev) : Decidable (RightV x) := by unfold RightV; infer_instance
/-- The name of an event. -/
abbrev nmV (x : Ev) : Int × Int := x.1.2
def LtV (a b : Ev) : Prop := LessK a.1 b.1
instance (a b : Ev) : Decidable (LtV a b) := by unfold LtV; infer_instance
theorem ltV_trans {a b c : Ev} (h : LtV a b) (k : LtV b c) : LtV a c := less_trans h k
/-- In the order of the keys. -/
abbrev AscV (l : List Ev) : Prop := l.Pairwise LtV
theorem ascV_nodup {l : List Ev} (h : AscV l) : l.Nodup := List.Pairwise.imp (R := LtV) (S := fun a b => a ≠ b) (fun {a b} hab (e : a = b) => less_irrefl a.1 (by subst e; exact hab)) h
theorem ascV_unique : ∀ l m : List Ev, AscV l → AscV m → (∀ x, x ∈ l ↔ x ∈ m) → l = m
  | [], [], _, _, _ => rfl
  | [], y :: m, _, _, h => by have := (h y).2 (by simp); simp at this
  | x :: l, [], _, _, h => by have := (h x).1 (by simp); simp at this
  | x :: l, y :: m, hl, hm, h => by
    obtain ⟨l1, l2⟩ := List.pairwise_cons.1 hl
    obtain ⟨m1, m2⟩ := List.pairwise_cons.1 hm
    have hxy : x = y := by
      have hx := (h x).1 (by simp)
      have hy := (h y).2 (by simp)
      rcases List.mem_cons.1 hx with e | e
      · exact e
      · rcases List.mem_cons.1 hy with e2 | e2
        · exact e2.symm
        · exact absurd (ltV_trans (l1 y e2) (m1 x e)) (less_irrefl _)
    subst hxy
    have nx1 : x ∉ l := fun e => less_irrefl _ (l1 x e)
    have nx2 : x ∉ m := fun e => less_irrefl _ (m1 x e)
    rw [ascV_unique l m l2 m2 fun z => ?_]
    constructor
    · intro hz
      rcases List.mem_cons.1 ((h z).1 (List.mem_cons_of_mem _ hz)) with e | e
      · subst e; exact absurd hz nx1
      · exact e
    · intro hz
      rcases List.mem_cons.1 ((h z).2 (List.mem_cons_of_mem _ hz)) with e | e
      · subst e; exact absurd hz nx2
      · exact e
/-- An event put in its place. -/
def insV (x : Ev) : List Ev → List Ev
  | [] => [x]
  | y :: l => if LtV y x then y :: insV x l else x :: y :: l
theorem insV_perm (x : Ev) : ∀ l, (insV x l).Perm (x :: l)
  | [] => List.Perm.refl _
  | y :: l => by
    unfold insV
    split
    · exact ((insV_perm x l).cons y).trans (List.Perm.swap x y l)
    · exact List.Perm.refl _
theorem insV_mem (x : Ev) (l : List Ev) (z : Ev) : z ∈ insV x l ↔ z = x ∨ z ∈ l := by rw [(insV_perm x l).mem_iff, List.mem_cons]
theorem insV_len (x : Ev) (l : List Ev) : (insV x l).length = l.length + 1 := (insV_perm x l).length_eq
theorem insV_asc (x : Ev) : ∀ l, AscV l → (∀ y ∈ l, y.1 ≠ x.1) → AscV (insV x l)
  | [], _, _ => List.pairwise_singleton _ _
  | y :: l, h, hn => by
    obtain ⟨h1, h2⟩ := List.pairwise_cons.1 h
    unfold insV
    split
    · rename_i hy
      refine List.pairwise_cons.2 ⟨fun z hz => ?_, insV_asc x l h2 fun z hz => hn z (List.mem_cons_of_mem _ hz)⟩
      rcases (insV_mem x l z).1 hz with e | e
      · rw [e]; exact hy
      · exact h1 z e
    · rename_i hy
      have hxy : LtV x y := by
        rcases less_tri x.1 y.1 with e | e | e
        · exact e
        · exact absurd e.symm (hn y (by simp))
        · exact absurd e hy
      refine List.pairwise_cons.2 ⟨fun z hz => ?_, h⟩
      rcases List.mem_cons.1 hz with e | e
      · rw [e]; exact hxy
      · exact ltV_trans hxy (h1 z e)

/-- WHAT HOLDS BETWEEN THE PARTS OF A QUEUE: the events by their places, the heap's map, the table of places, the names. U is as often as any place was taken at most. -/
structure QS (cap U : Nat) (ev : Nat → Ev) (M : Mp) (S : Tb) (f : Int → Int → Option (Nat × Nat)) : Prop where
  ok : TOk cap 4294967296 S
  keys : ∀ p, M p = if p < cap ∧ S.tk p = true then some (ev p).1 else none
  names : ∀ s q p l, f s q = some (p, l) ↔ p < cap ∧ S.tk p = true ∧ nmV (ev p) = (s, q) ∧ l = S.life p
  right : ∀ p, p < cap → S.tk p = true → RightV (ev p)
  lives : ∀ p, S.life p ≤ U
/-- The list of a queue. -/
def lsQ (cap : Nat) (ev : Nat → Ev) (M : Mp) : List Ev := (ordM cap M).map fun e => ev e.2
section
variable {cap U : Nat} {ev : Nat → Ev} {M : Mp} {S : Tb} {f : Int → Int → Option (Nat × Nat)}
theorem QS.uniq (h : QS cap U ev M S f) {p p' : Nat} (hp : p < cap) (ht : S.tk p = true) (hp' : p' < cap) (ht' : S.tk p' = true) (e : nmV (ev p) = nmV (ev p')) : p = p' := by
  have h1 := (h.names _ _ p (S.life p)).2 ⟨hp, ht, rfl, rfl⟩
  have h2 := (h.names _ _ p' (S.life p')).2 ⟨hp', ht', rfl, rfl⟩
  have e1 : (ev p).1.2.1 = (ev p').1.2.1 := congrArg Prod.fst e
  have e2 : (ev p).1.2.2 = (ev p').1.2.2 := congrArg Prod.snd e
  rw [e1, e2] at h1
  rw [h1] at h2
  exact congrArg Prod.fst (Option.some.inj h2)
theorem QS.ord_mem (h : QS cap U ev M S f) (e : En) : e ∈ ordM cap M ↔ e.2 < cap ∧ S.tk e.2 = true ∧ e.1 = (ev e.2).1 := by
  obtain ⟨k, p⟩ := e
  rw [ordM_mem, h.keys p]
  constructor
  · rintro ⟨h1, h2⟩
    split at h2
    · rename_i c
      exact ⟨h1, c.2, (Option.some.inj h2).symm⟩
    · cases h2
  · rintro ⟨h1, h2, h3⟩
    refine ⟨h1, ?_⟩
    rw [if_pos ⟨h1, h2⟩]
    exact congrArg some h3.symm
theorem QS.mem (h : QS cap U ev M S f) (x : Ev) : x ∈ lsQ cap ev M ↔ ∃ p, p < cap ∧ S.tk p = true ∧ ev p = x := by
  unfold lsQ
  rw [List.mem_map]
  constructor
  · rintro ⟨e, he, rfl⟩
    obtain ⟨h1, h2, _⟩ := (h.ord_mem e).1 he
    exact ⟨e.2, h1, h2, rfl⟩
  · rintro ⟨p, h1, h2, rfl⟩
    exact ⟨((ev p).1, p), (h.ord_mem _).2 ⟨h1, h2, rfl⟩, rfl⟩
theorem pairwise_en {l : List En} {R : En → En → Prop} (h : ∀ i j, i < j → j < l.length → R (en l i) (en l j)) : l.Pairwise R := by
  rw [List.pairwise_iff_getElem]
  intro i j hi hj hij
  have h1 := en_get hi
  have h2 := en_get hj
  rw [List.getElem?_eq_getElem hi] at h1
  rw [List.getElem?_eq_getElem hj] at h2
  rw [Option.some.inj h1, Option.some.inj h2]
  exact h i j hij hj
theorem ordM_pair (cap : Nat) (M : Mp) : (ordM cap M).Pairwise LtE := pairwise_en (ordM_asc cap M)
theorem QS.asc (h : QS cap U ev M S f) : AscV (lsQ cap ev M) := by
  unfold lsQ
  refine List.pairwise_map.2 ?_
  refine (ordM_pair cap M).imp_of_mem ?_
  intro a b ha hb hab
  obtain ⟨a1, a2, a3⟩ := (h.ord_mem a).1 ha
  obtain ⟨b1, b2, b3⟩ := (h.ord_mem b).1 hb
  show LessK (ev a.2).1 (ev b.2).1
  rw [← a3, ← b3]
  rcases hab with e | ⟨e, e2⟩
  · exact e
  · have := h.uniq a1 a2 b1 b2 (show (ev a.2).1.2 = (ev b.2).1.2 by rw [← a3, ← b3, e])
    omega
theorem QS.len (h : QS cap U ev M S f) : (lsQ cap ev M).length = cnt cap S.tk := by
  unfold lsQ cnt
  rw [List.length_map]
  have e1 : ((ordM cap M).map Prod.snd).length = (ordM cap M).length := List.length_map ..
  have n1 : ((ordM cap M).map Prod.snd).Nodup := by
    refine List.pairwise_map.2 ((ordM_pair cap M).imp_of_mem ?_)
    intro a b ha hb hab e
    obtain ⟨_, _, a3⟩ := (h.ord_mem a).1 ha
    obtain ⟨_, _, b3⟩ := (h.ord_mem b).1 hb
    have : a = b := Prod.ext (by rw [a3, b3, e]) e
    subst this
    exact ltE_irrefl _ hab
  rw [← e1]
  refine (List.Perm.length_eq ?_)
  refine (List.perm_ext_iff_of_nodup n1 (pl_nodup _ _)).2 fun p => ?_
  rw [List.mem_map, pl_mem]
  constructor
  · rintro ⟨e, he, rfl⟩
    obtain ⟨h1, h2, _⟩ := (h.ord_mem e).1 he
    exact ⟨h1, h2⟩
  · rintro ⟨h1, h2⟩
    exact ⟨((ev p).1, p), (h.ord_mem _).2 ⟨h1, h2, rfl⟩, rfl⟩
/-- Where there is room, a place is free. -/
theorem QS.room (h : QS cap U ev M S f) (hU : U < 4294967296) (hl : (lsQ cap ev M).length < cap) : ∃ p r, S.free = p :: r := by
  have hs := h.ok.sum
  have hw : cnt cap (wornF 4294967296 S) = 0 := cnt_none _ _ fun p hp => by
    unfold wornF
    have := h.lives p
    simp
    intro _
    omega
  rw [h.len] at hl
  cases hf : S.free with
  | nil => rw [hf, hw] at hs; simp at hs; omega
  | cons p r => exact ⟨p, r, rfl⟩
theorem QS.new (cap : Nat) (ev : Nat → Ev) : QS cap 0 ev (fun _ => none) (newT cap) (fun _ _ => none) :=
  ⟨TOk.new cap (by omega), fun p => by simp [newT], fun s q p l => by simp [newT], fun p _ h => by simp [newT] at h, fun p => Nat.le_refl _⟩
def setV (ev : Nat → Ev) (p : Nat) (x : Ev) : Nat → Ev := fun q => if q = p then x else ev q
def nmS (f : Int → Int → Option (Nat × Nat)) (s q : Int) (v : Option (Nat × Nat)) : Int → Int → Option (Nat × Nat) := fun a b => if a = s ∧ b = q then v else f a b
/-- An event put in. -/
theorem QS.put (h : QS cap U ev M S f) {p : Nat} {r : List Nat} (hf : S.free = p :: r) (x : Ev) (hx : RightV x) (hn : f x.1.2.1 x.1.2.2 = none) :
    QS cap (U + 1) (setV ev p x) (updM M p (some x.1)) (takeT S p r) (nmS f x.1.2.1 x.1.2.2 (some (p, S.life p + 1))) := by
  obtain ⟨hp, ht, _, _⟩ := h.ok.head hf
  refine ⟨h.ok.take hf, fun q => ?_, fun s q p' l => ?_, fun q hq hk => ?_, fun q => ?_⟩
  · unfold updM setV takeT
    by_cases e : q = p
    · subst e; simp [hp]
    · simp only [if_neg e]; exact h.keys q
  · unfold nmS setV takeT
    by_cases e : s = x.1.2.1 ∧ q = x.1.2.2
    · obtain ⟨rfl, rfl⟩ := e
      simp only [and_self, if_true]
      constructor
      · intro c
        obtain ⟨rfl, rfl⟩ := Prod.mk.inj (Option.some.inj c)
        simp [hp, nmV]
      · rintro ⟨c1, c2, c3, c4⟩
        by_cases e : p' = p
        · subst e; simp at c4; rw [c4]
        · simp only [if_neg e] at c2 c3 c4
          have := (h.names x.1.2.1 x.1.2.2 p' l).2 ⟨c1, c2, c3, c4⟩
          rw [hn] at this; cases this
    · simp only [if_neg e]
      by_cases e2 : p' = p
      · subst e2
        simp only [if_true]
        constructor
        · intro c
          have := (h.names _ _ _ _).1 c
          rw [ht] at this
          exact absurd this.2.1 (by simp)
        · rintro ⟨_, _, c3, _⟩
          exact absurd ⟨(congrArg Prod.fst c3).symm, (congrArg Prod.snd c3).symm⟩ e
      · simp only [if_neg e2]
        exact h.names s q p' l
  · unfold setV
    by_cases e : q = p
    · rw [if_pos e]; exact hx
    · rw [if_neg e]
      refine h.right q hq ?_
      simpa [takeT, e] using hk
  · show (if q = p then S.life p + 1 else S.life q) ≤ U + 1
    have := h.lives q
    have := h.lives p
    split <;> omega
theorem QS.put_ls (h : QS cap U ev M S f) {p : Nat} {r : List Nat} (hf : S.free = p :: r) (x : Ev) (hx : RightV x) (hn : f x.1.2.1 x.1.2.2 = none) :
    lsQ cap (setV ev p x) (updM M p (some x.1)) = insV x (lsQ cap ev M) := by
  have h2 := h.put hf x hx hn
  obtain ⟨hp, ht, _, _⟩ := h.ok.head hf
  have hne : ∀ y ∈ lsQ cap ev M, y.1 ≠ x.1 := fun y hy e => by
    obtain ⟨p', c1, c2, rfl⟩ := (h.mem y).1 hy
    have := (h.names _ _ p' _).2 ⟨c1, c2, rfl, rfl⟩
    rw [e, hn] at this
    cases this
  refine ascV_unique _ _ h2.asc (insV_asc x _ h.asc hne) fun z => ?_
  rw [h2.mem, insV_mem, h.mem]
  constructor
  · rintro ⟨q, c1, c2, rfl⟩
    by_cases e : q = p
    · left; simp [setV, e]
    · right
      refine ⟨q, c1, by simpa [takeT, e] using c2, by simp [setV, e]⟩
  · rintro (rfl | ⟨q, c1, c2, rfl⟩)
    · exact ⟨p, hp, by simp [takeT], by simp [setV]⟩
    · have e : q ≠ p := fun e => by subst e; rw [ht] at c2; cases c2
      exact ⟨q, c1, by simpa [takeT, e] using c2, by simp [setV, e]⟩
/-- An event cut out. -/
theorem QS.cut (h : QS cap U ev M S f) {p : Nat} (hp : p < cap) (ht : S.tk p = true) :
    QS cap U ev (updM M p none) (giveT 4294967296 S p) (nmS f (ev p).1.2.1 (ev p).1.2.2 none) := by
  refine ⟨h.ok.give hp ht, fun q => ?_, fun s q p' l => ?_, fun q hq hk => ?_, h.lives⟩
  · unfold updM giveT
    by_cases e : q = p
    · subst e; simp
    · simp only [if_neg e]; exact h.keys q
  · unfold nmS giveT
    by_cases e : s = (ev p).1.2.1 ∧ q = (ev p).1.2.2
    · obtain ⟨rfl, rfl⟩ := e
      simp only [and_self, if_true]
      constructor
      · intro c; cases c
      · rintro ⟨c1, c2, c3, c4⟩
        by_cases e : p' = p
        · simp [e] at c2
        · simp only [if_neg e] at c2
          exact absurd (h.uniq c1 c2 hp ht c3) e
    · simp only [if_neg e]
      by_cases e2 : p' = p
      · subst e2
        constructor
        · intro c
          have := (h.names _ _ _ _).1 c
          exact absurd ⟨(congrArg Prod.fst this.2.2.1).symm, (congrArg Prod.snd this.2.2.1).symm⟩ e
        · rintro ⟨_, c, _⟩
          simp at c
      · simp only [if_neg e2]
        exact h.names s q p' l
  · refine h.right q hq ?_
    have hk2 : (if q = p then false else S.tk q) = true := hk
    by_cases e : q = p
    · simp [e] at hk2
    · simpa [e] using hk2
theorem QS.cut_ls (h : QS cap U ev M S f) {p : Nat} (hp : p < cap) (ht : S.tk p = true) :
    lsQ cap ev (updM M p none) = (lsQ cap ev M).filter fun y => decide (nmV y ≠ nmV (ev p)) := by
  have h2 := h.cut hp ht
  refine ascV_unique _ _ h2.asc (h.asc.filter _) fun z => ?_
  rw [h2.mem, List.mem_filter, h.mem, decide_eq_true_eq]
  constructor
  · rintro ⟨q, c1, c2, rfl⟩
    have c2 : (if q = p then false else S.tk q) = true := c2
    by_cases e : q = p
    · simp [e] at c2
    · rw [if_neg e] at c2
      exact ⟨⟨q, c1, c2, rfl⟩, fun c => e (h.uniq c1 c2 hp ht c)⟩
  · rintro ⟨⟨q, c1, c2, rfl⟩, c3⟩
    have e : q ≠ p := fun e => c3 (by rw [e])
    exact ⟨q, c1, (show (if q = p then false else S.tk q) = true by rw [if_neg e]; exact c2), rfl⟩
theorem QS.none_iff (h : QS cap U ev M S f) (s q : Int) : f s q = none ↔ ∀ y ∈ lsQ cap ev M, nmV y ≠ (s, q) := by
  constructor
  · intro hn y hy e
    obtain ⟨p, c1, c2, rfl⟩ := (h.mem y).1 hy
    have := (h.names s q p _).2 ⟨c1, c2, e, rfl⟩
    rw [hn] at this; cases this
  · intro hy
    cases hf : f s q with
    | none => rfl
    | some r =>
      obtain ⟨p, l⟩ := r
      obtain ⟨c1, c2, c3, _⟩ := (h.names s q p l).1 hf
      exact absurd c3 (hy _ ((h.mem _).2 ⟨p, c1, c2, rfl⟩))
end
end Go.Proofs.YtcjkeobjojmpfaaGreat
end
