/-
  PLAIN FACTS about keys: their order, their bytes, their texts, and what is cut of a string. No program is named here.
-/
import Derived.WalkKit
import Derived.Lib.Hide
import Derived.Lib.ItoaMem
import Derived.Lib.Bytealg
namespace Go.Proofs.YtecbpohkbniadaaGreat
open Go.RowKit

theorem snoc_ind {α : Type} {P : List α → Prop} (nil : P []) (snoc : ∀ l c, P l → P (l ++ [c])) (l : List α) : P l := by
  have : ∀ r : List α, P r.reverse := by
    intro r
    induction r with
    | nil => exact nil
    | cons c r ih => rw [List.reverse_cons]; exact snoc _ _ ih
  have := this l.reverse
  rwa [List.reverse_reverse] at this
/-- A key: its time, its source, its number. -/
abbrev Ky := Int × Int × Int
abbrev ky (t s q : Int) : Ky := (t, s, q)
def vK (k : Ky) : Value := .agg #[.int .i64 k.1, .int .i64 k.2.1, .int .i64 k.2.2]
def encK (k : Ky) : List Value := [.int .i64 k.1, .int .i64 k.2.1, .int .i64 k.2.2]
def RightK (k : Ky) : Prop := (0 ≤ k.1 ∧ k.1 ≤ 281474976710656) ∧ (0 ≤ k.2.1 ∧ k.2.1 ≤ 16) ∧ (0 ≤ k.2.2 ∧ k.2.2 ≤ 4294967295)
instance (k : Ky) : Decidable (RightK k) := by unfold RightK; infer_instance
def LessK (a b : Ky) : Prop := a.1 < b.1 ∨ (a.1 = b.1 ∧ (a.2.1 < b.2.1 ∨ (a.2.1 = b.2.1 ∧ a.2.2 < b.2.2)))
instance (a b : Ky) : Decidable (LessK a b) := by unfold LessK; infer_instance
/-- How two keys compare, and by which field they differ first. -/
def cfK (a b : Ky) : Int := if LessK a b then -1 else if LessK b a then 1 else 0
def byK (a b : Ky) : Int := if a.1 ≠ b.1 then 1 else if a.2.1 ≠ b.2.1 then 2 else if a.2.2 ≠ b.2.2 then 3 else 0
theorem ky_ext {a b : Ky} (h1 : a.1 = b.1) (h2 : a.2.1 = b.2.1) (h3 : a.2.2 = b.2.2) : a = b := Prod.ext h1 (Prod.ext h2 h3)
theorem less_irrefl (a : Ky) : ¬ LessK a a := by unfold LessK; omega
theorem less_trans {a b c : Ky} (h : LessK a b) (k : LessK b c) : LessK a c := by unfold LessK at *; omega
theorem less_asymm {a b : Ky} (h : LessK a b) : ¬ LessK b a := by unfold LessK at *; omega
theorem less_tri (a b : Ky) : LessK a b ∨ a = b ∨ LessK b a := by
  by_cases h : a = b
  · exact .inr (.inl h)
  · by_cases h1 : LessK a b
    · exact .inl h1
    · by_cases h2 : LessK b a
      · exact .inr (.inr h2)
      · refine absurd (ky_ext ?_ ?_ ?_) h <;> unfold LessK at h1 h2 <;> omega
theorem cfK_less {a b : Ky} : cfK a b = -1 ↔ LessK a b := by
  unfold cfK
  by_cases h : LessK a b
  · simp [h]
  · by_cases h2 : LessK b a <;> simp [h, h2]
theorem cfK_neg {a b : Ky} : cfK a b < 0 ↔ LessK a b := by
  unfold cfK
  by_cases h : LessK a b
  · simp [h]
  · by_cases h2 : LessK b a <;> simp [h, h2]
theorem cfK_pos {a b : Ky} : 0 < cfK a b ↔ LessK b a := by
  unfold cfK
  by_cases h : LessK a b
  · simp [h, less_asymm h]
  · by_cases h2 : LessK b a <;> simp [h, h2]
theorem cfK_zero {a b : Ky} : cfK a b = 0 ↔ a = b := by
  unfold cfK
  rcases less_tri a b with h | h | h
  · simp only [h, if_true]
    exact ⟨fun e => by omega, fun e => by subst e; exact absurd h (less_irrefl a)⟩
  · subst h; simp [less_irrefl a]
  · simp only [h, less_asymm h, if_true, if_false]
    exact ⟨fun e => by omega, fun e => by subst e; exact absurd h (less_irrefl a)⟩
theorem cfK_anti (a b : Ky) : cfK b a = - cfK a b := by
  rcases less_tri a b with h | h | h
  · have := less_asymm h; unfold cfK; simp [h, this]
  · subst h; unfold cfK; simp [less_irrefl a]
  · have := less_asymm h; unfold cfK; simp [h, this]
theorem cfK_self (a : Ky) : cfK a a = 0 := cfK_zero.2 rfl
theorem cfK_vals (a b : Ky) : cfK a b = -1 ∨ cfK a b = 0 ∨ cfK a b = 1 := by
  unfold cfK
  by_cases h : LessK a b
  · simp [h]
  · by_cases h2 : LessK b a <;> simp [h, h2]
theorem cfK_gt {a b : Ky} (h : LessK b a) : cfK a b = 1 := by
  have := cfK_anti b a
  rw [cfK_less.2 h] at this
  omega
theorem cfK_first {a b : Ky} (h : a.1 ≠ b.1) : cfK a b = if a.1 < b.1 then -1 else if b.1 < a.1 then 1 else 0 := by
  by_cases h1 : a.1 < b.1
  · rw [cfK_less.2 (show LessK a b from .inl h1), if_pos h1]
  · have h2 : b.1 < a.1 := by omega
    rw [cfK_gt (show LessK b a from .inl h2), if_neg h1, if_pos h2]
theorem cfK_second {a b : Ky} (h : a.1 = b.1) (h2 : a.2.1 ≠ b.2.1) : cfK a b = if a.2.1 < b.2.1 then -1 else if b.2.1 < a.2.1 then 1 else 0 := by
  by_cases h1 : a.2.1 < b.2.1
  · rw [cfK_less.2 (show LessK a b from .inr ⟨h, .inl h1⟩), if_pos h1]
  · have h3 : b.2.1 < a.2.1 := by omega
    rw [cfK_gt (show LessK b a from .inr ⟨h.symm, .inl h3⟩), if_neg h1, if_pos h3]
theorem cfK_third {a b : Ky} (h : a.1 = b.1) (h2 : a.2.1 = b.2.1) : cfK a b = if a.2.2 < b.2.2 then -1 else if b.2.2 < a.2.2 then 1 else 0 := by
  by_cases h1 : a.2.2 < b.2.2
  · rw [cfK_less.2 (show LessK a b from .inr ⟨h, .inr ⟨h2, h1⟩⟩), if_pos h1]
  · rw [if_neg h1]
    by_cases h3 : b.2.2 < a.2.2
    · rw [cfK_gt (show LessK b a from .inr ⟨h.symm, .inr ⟨h2.symm, h3⟩⟩), if_pos h3]
    · rw [cfK_zero.2 (ky_ext h h2 (by omega)), if_neg h3]

/-! ### Bytes -/
/-- The n last bytes of a number, the highest first. -/
def beL (n x : Nat) : List UInt8 := (List.range n).map fun i => UInt8.ofNat (x / 256 ^ (n - 1 - i) % 256)
def numL (l : List UInt8) : Nat := l.foldl (fun a c => a * 256 + c.toNat) 0
theorem beL_length (n x : Nat) : (beL n x).length = n := by simp [beL]
theorem beL_succ (n x : Nat) : beL (n + 1) x = beL n (x / 256) ++ [UInt8.ofNat (x % 256)] := by
  unfold beL
  rw [List.range_succ, List.map_append]
  congr 1
  · refine List.map_congr_left fun i hi => ?_
    have hi := List.mem_range.1 hi
    rw [show n + 1 - 1 - i = (n - 1 - i) + 1 by omega, Nat.pow_succ, Nat.mul_comm, ← Nat.div_div_eq_div_mul]
  · simp
theorem numL_snoc (l : List UInt8) (c : UInt8) : numL (l ++ [c]) = numL l * 256 + c.toNat := by simp [numL]
theorem numL_lt (l : List UInt8) : numL l < 256 ^ l.length := by
  induction l using snoc_ind with
  | nil => simp [numL]
  | snoc l c ih =>
    rw [numL_snoc, List.length_append, List.length_singleton, Nat.pow_succ]
    have := c.toNat_lt
    omega
theorem numL_be (n x : Nat) : numL (beL n x) = x % 256 ^ n := by
  induction n generalizing x with
  | zero => simp [numL, beL, Nat.mod_one]
  | succ n ih =>
    rw [beL_succ, numL_snoc, ih, Nat.pow_succ, Nat.mul_comm (256 ^ n), Nat.mod_mul]
    have : (UInt8.ofNat (x % 256)).toNat = x % 256 := by simp
    rw [this]
    omega
theorem be_numL (l : List UInt8) : beL l.length (numL l) = l := by
  induction l using snoc_ind with
  | nil => rfl
  | snoc l c ih =>
    have hc := c.toNat_lt
    rw [List.length_append, List.length_singleton, beL_succ, numL_snoc, show (numL l * 256 + c.toNat) / 256 = numL l by omega, show (numL l * 256 + c.toNat) % 256 = c.toNat by omega, ih]
    simp
/-- The bytes of a key. -/
def bytesK (k : Ky) : List UInt8 := beL 7 k.1.toNat ++ beL 1 k.2.1.toNat ++ beL 4 k.2.2.toNat
theorem bytesK_length (k : Ky) : (bytesK k).length = 12 := by simp [bytesK, beL_length]
/-- The key of bytes, right or not. -/
def keyB (l : List UInt8) : Ky := ((numL (l.take 7) : Int), (numL ((l.drop 7).take 1) : Int), (numL (l.drop 8) : Int))
theorem keyB_bytes {k : Ky} (h : RightK k) : keyB (bytesK k) = k := by
  unfold RightK at h
  have e1 : (bytesK k).take 7 = beL 7 k.1.toNat := by
    unfold bytesK; rw [List.append_assoc, List.take_append_of_le_length (by simp [beL_length]), List.take_of_length_le (by simp [beL_length])]
  have e2 : (bytesK k).drop 7 = beL 1 k.2.1.toNat ++ beL 4 k.2.2.toNat := by
    unfold bytesK; rw [List.append_assoc, List.drop_append_of_le_length (by simp [beL_length]), List.drop_of_length_le (by simp [beL_length])]; rfl
  have e3 : (bytesK k).drop 8 = beL 4 k.2.2.toNat := by
    have : (bytesK k).drop 8 = ((bytesK k).drop 7).drop 1 := by rw [List.drop_drop]
    rw [this, e2, List.drop_append_of_le_length (by simp [beL_length]), List.drop_of_length_le (by simp [beL_length])]; rfl
  have e4 : (beL 1 k.2.1.toNat ++ beL 4 k.2.2.toNat).take 1 = beL 1 k.2.1.toNat := by
    rw [List.take_append_of_le_length (by simp [beL_length]), List.take_of_length_le (by simp [beL_length])]
  unfold keyB
  rw [e1, e2, e3, e4, numL_be, numL_be, numL_be]
  refine ky_ext ?_ ?_ ?_ <;> simp only <;> omega
theorem bytes_keyB {l : List UInt8} (h : l.length = 12) : bytesK (keyB l) = l := by
  have e1 := be_numL (l.take 7)
  have e2 := be_numL ((l.drop 7).take 1)
  have e3 := be_numL (l.drop 8)
  rw [show (l.take 7).length = 7 by simp; omega] at e1
  rw [show ((l.drop 7).take 1).length = 1 by simp; omega] at e2
  rw [show (l.drop 8).length = 4 by simp; omega] at e3
  unfold bytesK keyB
  simp only [Int.toNat_natCast]
  rw [e1, e2, e3, List.append_assoc, show l.drop 8 = (l.drop 7).drop 1 by rw [List.drop_drop], List.take_append_drop, List.take_append_drop]
theorem keyB_least (l : List UInt8) : 0 ≤ (keyB l).1 ∧ 0 ≤ (keyB l).2.1 ∧ 0 ≤ (keyB l).2.2 := by
  unfold keyB; exact ⟨by simp, by simp, by simp⟩

/-! ### Texts -/
open Go.Lib (decDigits)
def digit (c : UInt8) : Bool := decide (48 ≤ c.toNat ∧ c.toNat ≤ 57)
def decV (l : List UInt8) : Nat := l.foldl (fun a c => a * 10 + (c.toNat - 48)) 0
theorem decV_snoc (l : List UInt8) (c : UInt8) : decV (l ++ [c]) = decV l * 10 + (c.toNat - 48) := by simp [decV]
theorem dec_small {u : Nat} (h : u < 10) : decDigits u = [UInt8.ofNat (48 + u)] := by rw [decDigits, dif_pos h]
theorem dec_big {u : Nat} (h : ¬ u < 10) : decDigits u = decDigits (u / 10) ++ [UInt8.ofNat (48 + u % 10)] := by rw [decDigits, dif_neg h]
theorem dec_digit (u : Nat) : ∀ c ∈ decDigits u, digit c = true := by
  induction u using Nat.strongRecOn with
  | _ u ih =>
    by_cases h : u < 10
    · rw [dec_small h]
      intro c hc
      rw [List.mem_singleton.1 hc]
      unfold digit
      rw [decide_eq_true_iff, UInt8.toNat_ofNat']
      omega
    · rw [dec_big h]
      intro c hc
      rcases List.mem_append.1 hc with hc | hc
      · exact ih (u / 10) (by omega) c hc
      · rw [List.mem_singleton.1 hc]
        unfold digit
        rw [decide_eq_true_iff, UInt8.toNat_ofNat']
        omega
theorem decV_dec (u : Nat) : decV (decDigits u) = u := by
  induction u using Nat.strongRecOn with
  | _ u ih =>
    by_cases h : u < 10
    · rw [dec_small h]
      simp only [decV, List.foldl_cons, List.foldl_nil, UInt8.toNat_ofNat']
      omega
    · rw [dec_big h, decV_snoc, ih (u / 10) (by omega), UInt8.toNat_ofNat']
      omega
theorem dec_inj {u v : Nat} (h : decDigits u = decDigits v) : u = v := by rw [← decV_dec u, h, decV_dec]
theorem dec_ne_nil (u : Nat) : decDigits u ≠ [] := by
  by_cases h : u < 10
  · rw [dec_small h]; simp
  · rw [dec_big h]; simp
theorem dec_head (u : Nat) (h : 0 < u) : (decDigits u).headD 0 ≠ 48 := by
  induction u using Nat.strongRecOn with
  | _ u ih =>
    by_cases h1 : u < 10
    · rw [dec_small h1]
      simp only [List.headD_cons]
      intro e
      have := congrArg UInt8.toNat e
      rw [UInt8.toNat_ofNat'] at this
      have h48 : (48 : UInt8).toNat = 48 := rfl
      omega
    · rw [dec_big h1]
      have := ih (u / 10) (by omega) (by omega)
      cases hd : decDigits (u / 10) with
      | nil => exact absurd hd (dec_ne_nil _)
      | cons a l => rw [hd] at this; exact this
/-- A number's text: it begins as one does. -/
def begunL (l : List UInt8) : Bool := decide (l = [48]) || (decide (l ≠ []) && decide (l.headD 0 ≠ 48))
theorem begun_dec (u : Nat) : begunL (decDigits u) = true := by
  unfold begunL
  by_cases h : u = 0
  · subst h
    rw [dec_small (by omega)]; rfl
  · rw [decide_eq_true (dec_ne_nil u), decide_eq_true (dec_head u (by omega))]; simp
theorem decV_pos {l : List UInt8} (hd : ∀ c ∈ l, digit c = true) (h0 : l ≠ []) (h : l.headD 0 ≠ 48) : 0 < decV l := by
  induction l using snoc_ind with
  | nil => exact absurd rfl h0
  | snoc l c ih =>
    rw [decV_snoc]
    by_cases hl : l = []
    · subst hl
      have h1 := hd c (by simp)
      unfold digit at h1
      have h1 := of_decide_eq_true h1
      simp only [List.nil_append, List.headD_cons] at h
      have : c.toNat ≠ 48 := fun e => h (UInt8.toNat_inj.1 e)
      omega
    · have := ih (fun x hx => hd x (by simp [hx])) hl (by cases l with
        | nil => exact absurd rfl hl
        | cons a r => exact h)
      omega
/-- What begins as a number, and has digits alone, is the text of its number. -/
theorem dec_decV {l : List UInt8} (hd : ∀ c ∈ l, digit c = true) (hb : begunL l = true) : decDigits (decV l) = l := by
  have key : ∀ l : List UInt8, (∀ c ∈ l, digit c = true) → l ≠ [] → l.headD 0 ≠ 48 → decDigits (decV l) = l := by
    intro l
    induction l using snoc_ind with
    | nil => intro _ h0 _; exact absurd rfl h0
    | snoc l c ih =>
      intro hd _ h
      have h1 := hd c (by simp)
      unfold digit at h1
      have h1 := of_decide_eq_true h1
      have hc : UInt8.ofNat (48 + (c.toNat - 48)) = c := by
        rw [show 48 + (c.toNat - 48) = c.toNat by omega]; simp
      rw [decV_snoc]
      by_cases hl : l = []
      · subst hl
        rw [show decV [] * 10 + (c.toNat - 48) = c.toNat - 48 by simp [decV], dec_small (by omega), hc]; rfl
      · have hh : l.headD 0 ≠ 48 := by
          cases l with
          | nil => exact absurd rfl hl
          | cons a r => exact h
        have hdl : ∀ x ∈ l, digit x = true := fun x hx => hd x (by simp [hx])
        have hp := decV_pos hdl hl hh
        rw [dec_big (by omega), show (decV l * 10 + (c.toNat - 48)) / 10 = decV l by omega, show (decV l * 10 + (c.toNat - 48)) % 10 = c.toNat - 48 by omega, ih hdl hl hh, hc]
  unfold begunL at hb
  rcases Bool.or_eq_true_iff.1 hb with h | h
  · rw [of_decide_eq_true h]
    rw [show decV [48] = 0 by rfl, dec_small (by omega)]; rfl
  · obtain ⟨h1, h2⟩ := Bool.and_eq_true_iff.1 h
    exact key l hd (of_decide_eq_true h1) (of_decide_eq_true h2)
theorem decV_mono (l r : List UInt8) : decV l ≤ decV (l ++ r) := by
  induction r using snoc_ind with
  | nil => simp
  | snoc r c ih => rw [← List.append_assoc, decV_snoc]; omega
/-- The text of a key. -/
def textK (k : Ky) : List UInt8 := decDigits k.1.toNat ++ [64] ++ decDigits k.2.1.toNat ++ [35] ++ decDigits k.2.2.toNat
/-- What is cut of a string at the first c. -/
def cutC (c : UInt8) : List UInt8 → List UInt8 × List UInt8 × Bool
  | [] => ([], [], false)
  | x :: l => if x == c then ([], l, true) else (x :: (cutC c l).1, (cutC c l).2.1, (cutC c l).2.2)
theorem cutC_index (c : UInt8) (l : List UInt8) : (Lib.indexByte l c = -1 ∧ cutC c l = (l, [], false)) ∨ ∃ i : Nat, Lib.indexByte l c = (i : Int) ∧ i < l.length ∧ cutC c l = (l.take i, l.drop (i + 1), true) := by
  induction l with
  | nil => exact .inl ⟨rfl, rfl⟩
  | cons x l ih =>
    unfold Lib.indexByte cutC
    by_cases h : (x == c) = true
    · rw [if_pos h, if_pos h]
      exact .inr ⟨0, rfl, by simp, by simp⟩
    · rw [if_neg h, if_neg h]
      rcases ih with ⟨e, e2⟩ | ⟨i, e, hi, e2⟩
      · rw [if_pos (by rw [e]; rfl), e2]
        exact .inl ⟨rfl, rfl⟩
      · rw [if_neg (by rw [e]; simp), e, e2]
        exact .inr ⟨i + 1, by omega, by simp; omega, by simp⟩
theorem cutC_le (c : UInt8) (l : List UInt8) : (cutC c l).1.length ≤ l.length ∧ (cutC c l).2.1.length ≤ l.length := by
  rcases cutC_index c l with ⟨_, e⟩ | ⟨i, _, hi, e⟩ <;> rw [e]
  · exact ⟨Nat.le_refl _, Nat.zero_le _⟩
  · simp only [List.length_take, List.length_drop]
    exact ⟨by omega, by omega⟩
theorem cutC_found (c : UInt8) (a b : List UInt8) (h : ∀ x ∈ a, x ≠ c) : cutC c (a ++ c :: b) = (a, b, true) := by
  induction a with
  | nil => simp [cutC]
  | cons x a ih =>
    have hx : ¬ (x == c) = true := by simpa using h x (by simp)
    rw [List.cons_append, cutC, if_neg hx, ih fun y hy => h y (by simp [hy])]
theorem cutC_join (c : UInt8) (l : List UInt8) : (cutC c l).2.2 = false ∧ (cutC c l).2.1 = [] ∧ (cutC c l).1 = l ∨ (cutC c l).2.2 = true ∧ l = (cutC c l).1 ++ c :: (cutC c l).2.1 := by
  induction l with
  | nil => exact .inl ⟨rfl, rfl, rfl⟩
  | cons x l ih =>
    unfold cutC
    by_cases h : (x == c) = true
    · rw [if_pos h]
      have := eq_of_beq h
      subst this
      exact .inr ⟨rfl, rfl⟩
    · rw [if_neg h]
      rcases ih with ⟨h1, h2, h3⟩ | ⟨h1, h2⟩
      · exact .inl ⟨h1, h2, by simp [h3]⟩
      · exact .inr ⟨h1, by rw [List.cons_append, ← h2]⟩
theorem digit_ne {c : UInt8} (h : digit c = true) : c ≠ 64 ∧ c ≠ 35 := by
  unfold digit at h
  have h := of_decide_eq_true h
  have h64 : (64 : UInt8).toNat = 64 := rfl
  have h35 : (35 : UInt8).toNat = 35 := rfl
  exact ⟨fun e => by subst e; omega, fun e => by subst e; omega⟩
/-- The three texts of a string. -/
def piecesL (s : List UInt8) : List UInt8 × List UInt8 × List UInt8 := ((cutC 64 s).1, (cutC 35 (cutC 64 s).2.1).1, (cutC 35 (cutC 64 s).2.1).2.1)
theorem pieces_text (k : Ky) : piecesL (textK k) = (decDigits k.1.toNat, decDigits k.2.1.toNat, decDigits k.2.2.toNat) := by
  have e1 : cutC 64 (textK k) = (decDigits k.1.toNat, decDigits k.2.1.toNat ++ [35] ++ decDigits k.2.2.toNat, true) := by
    rw [← cutC_found 64 _ _ (fun x hx => (digit_ne (dec_digit _ x hx)).1)]
    congr 1
    simp [textK]
  have e2 : cutC 35 (decDigits k.2.1.toNat ++ [35] ++ decDigits k.2.2.toNat) = (decDigits k.2.1.toNat, decDigits k.2.2.toNat, true) := by
    rw [← cutC_found 35 _ _ (fun x hx => (digit_ne (dec_digit _ x hx)).2)]
    congr 1
    simp
  unfold piecesL
  rw [e1]
  simp only
  rw [e2]
theorem text_inj {a b : Ky} (ha : RightK a) (hb : RightK b) (h : textK a = textK b) : a = b := by
  have e := pieces_text a
  rw [h, pieces_text b] at e
  simp only [Prod.mk.injEq] at e
  obtain ⟨e1, e2, e3⟩ := e
  have e1 := dec_inj e1
  have e2 := dec_inj e2
  have e3 := dec_inj e3
  unfold RightK at ha hb
  refine ky_ext ?_ ?_ ?_ <;> omega
/-- A string whose three texts are those of numbers is the text of a key. -/
theorem text_pieces (s : List UInt8) (h : begunL (piecesL s).2.2 = true) : s = (piecesL s).1 ++ [64] ++ (piecesL s).2.1 ++ [35] ++ (piecesL s).2.2 := by
  unfold piecesL at *
  have hb : ¬ begunL [] = true := by decide
  rcases cutC_join 64 s with ⟨h1, h2, h3⟩ | ⟨h1, h2⟩
  · exfalso
    rw [h2] at h
    exact hb h
  · rcases cutC_join 35 (cutC 64 s).2.1 with ⟨g1, g2, g3⟩ | ⟨g1, g2⟩
    · exfalso
      rw [g2] at h
      exact hb h
    · conv => lhs; rw [h2, g2]
      simp
/-- One text of a number: it begins as one does, has digits alone, and is at most so great. -/
def numOk (l : List UInt8) (most : Nat) : Prop := begunL l = true ∧ (∀ c ∈ l, digit c = true) ∧ decV l ≤ most
def textOk (s : List UInt8) : Prop := numOk (piecesL s).1 281474976710656 ∧ numOk (piecesL s).2.1 16 ∧ numOk (piecesL s).2.2 4294967295
def keyT (s : List UInt8) : Ky := ((decV (piecesL s).1 : Int), (decV (piecesL s).2.1 : Int), (decV (piecesL s).2.2 : Int))
theorem textOk_key {s : List UInt8} (h : textOk s) : RightK (keyT s) ∧ textK (keyT s) = s := by
  obtain ⟨⟨a1, a2, a3⟩, ⟨b1, b2, b3⟩, ⟨c1, c2, c3⟩⟩ := h
  refine ⟨?_, ?_⟩
  · unfold RightK keyT; simp only; omega
  · conv => rhs; rw [text_pieces s c1]
    unfold textK keyT
    simp only [Int.toNat_natCast]
    rw [dec_decV a2 a1, dec_decV b2 b1, dec_decV c2 c1]
theorem textOk_text {k : Ky} (h : RightK k) : textOk (textK k) ∧ keyT (textK k) = k := by
  unfold textOk keyT
  rw [pieces_text]
  simp only [numOk, decV_dec]
  unfold RightK at h
  refine ⟨⟨⟨begun_dec _, dec_digit _, by omega⟩, ⟨begun_dec _, dec_digit _, by omega⟩, ⟨begun_dec _, dec_digit _, by omega⟩⟩, ky_ext ?_ ?_ ?_⟩ <;> simp only <;> omega
theorem no_text {s : List UInt8} (h : ¬ textOk s) {k : Ky} (hk : RightK k) : textK k ≠ s := fun e => h (e ▸ (textOk_text hk).1)
end Go.Proofs.YtecbpohkbniadaaGreat
