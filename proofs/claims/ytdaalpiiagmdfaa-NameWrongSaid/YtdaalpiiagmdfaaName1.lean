/-
  CONTRACTS of strings.Cut at one point, name.letter, name.inner, name.bounded, and the plain words about strings of bytes: cut, parts.
-/
import Derived.Test.YtdaalpiiagmdfaaShelf
import Derived.WalkKit
import Derived.Lib.Hide
import Derived.IntWalk
import Derived.Deep.QuietTactic
import Derived.BigQuiet
import Derived.BigRegion
import Derived.Lib.Walk
import Derived.Laws.Strings3
namespace Go.Proofs.Ytdaalpiiagmdfaa
open Go.RowKit

/-- A string of bytes. -/
def str (l : List UInt8) : Value := .string ⟨l.toArray⟩
def ltr (c : UInt8) : Bool := decide (97 ≤ c.toNat ∧ c.toNat ≤ 122)
def inr (c : UInt8) : Bool := ltr c || decide (48 ≤ c.toNat ∧ c.toNat ≤ 57) || decide (c.toNat = 45)
def bnded (l : List UInt8) : Bool := decide (0 < l.length) && decide ((l.getD 0 0).toNat ≠ 45) && decide ((l.getD (l.length - 1) 0).toNat ≠ 45)
theorem bget (l : List UInt8) (i : Nat) (h : i < (⟨l.toArray⟩ : ByteArray).size) : (⟨l.toArray⟩ : ByteArray)[i] = l.getD i 0 := by
  have hl : i < l.length := by simpa [ByteArray.size] using h
  rw [List.getD_eq_getElem?_getD, List.getElem?_eq_getElem hl]
  rfl
def cutP : List UInt8 → List UInt8 × List UInt8 × Bool
  | [] => ([], [], false)
  | c :: l => if c == 46 then ([], l, true) else (c :: (cutP l).1, (cutP l).2.1, (cutP l).2.2)
def partsL : List UInt8 → List (List UInt8)
  | [] => [[]]
  | c :: l => if c == 46 then [] :: partsL l else match partsL l with
    | [] => [[c]]
    | p :: ps => (c :: p) :: ps
theorem partsL_eq (l : List UInt8) : partsL l = (cutP l).1 :: (if (cutP l).2.2 = true then partsL (cutP l).2.1 else []) := by
  induction l with
  | nil => rfl
  | cons c l ih =>
    have e : partsL (c :: l) = if c == 46 then [] :: partsL l else match partsL l with
      | [] => [[c]]
      | p :: ps => (c :: p) :: ps := rfl
    have e2 : cutP (c :: l) = if c == 46 then ([], l, true) else (c :: (cutP l).1, (cutP l).2.1, (cutP l).2.2) := rfl
    rw [e, e2]
    by_cases h : (c == 46) = true
    · rw [if_pos h, if_pos h]
      show _ = [] :: (if true = true then partsL l else [])
      rw [if_pos rfl]
    · rw [if_neg h, if_neg h, ih]
theorem cutP_index (l : List UInt8) : (Lib.indexByte l 46 = -1 ∧ cutP l = (l, [], false)) ∨ ∃ i : Nat, Lib.indexByte l 46 = (i : Int) ∧ i < l.length ∧ cutP l = (l.take i, l.drop (i + 1), true) := by
  induction l with
  | nil => exact .inl ⟨rfl, rfl⟩
  | cons c l ih =>
    unfold Lib.indexByte cutP
    by_cases h : (c == 46) = true
    · rw [if_pos h, if_pos h]
      exact .inr ⟨0, rfl, by simp, by simp⟩
    · rw [if_neg h, if_neg h]
      rcases ih with ⟨e, e2⟩ | ⟨i, e, hi, e2⟩
      · rw [if_pos (by rw [e]; rfl), e2]
        exact .inl ⟨rfl, rfl⟩
      · rw [if_neg (by rw [e]; simp), e, e2]
        exact .inr ⟨i + 1, by omega, by simp; omega, by simp⟩
theorem cutP_le (l : List UInt8) : (cutP l).1.length ≤ l.length ∧ (cutP l).2.1.length ≤ l.length ∧ ((cutP l).2.2 = true → (cutP l).2.1.length < l.length) := by
  rcases cutP_index l with ⟨_, e⟩ | ⟨i, _, hi, e⟩ <;> rw [e]
  · exact ⟨Nat.le_refl _, Nat.zero_le _, fun h => by cases h⟩
  · simp only [List.length_take, List.length_drop]
    exact ⟨by omega, by omega, fun _ => by omega⟩

set_option maxRecDepth 100000 in
set_option maxHeartbeats 1000000 in
theorem cutlite_calls (l : List UInt8) (w : World) (hl : l.length ≤ 9223372036854775807) :
    Calls Try.prog 82 #[str l, str [46]] w fun e w' => e = .returned (.tuple #[str (cutP l).1, str (cutP l).2.1, .bool (cutP l).2.2]) ∧ Below w.heap.size w w' := by
  have hI := Try.stringslite_Index_one ⟨l.toArray⟩ 46 w
  have hsz : (⟨l.toArray⟩ : ByteArray).size = l.length := by simp [ByteArray.size]
  rcases cutP_index l with ⟨e1, e2⟩ | ⟨i, e1, hi, e2⟩
  · rw [e2]
    rw [show (⟨l.toArray⟩ : ByteArray).data.toList = l from rfl, e1] at hI
    have HI := Lib.hid hI
    clear hI e1 e2 hsz
    unfold str
    go_enter Try.func82, Try.ntmps82
    go_wp2_with fail
    refine HI.out.mono ?_
    rintro e w' ⟨rfl, rfl⟩
    go_wp2
    go_ret3
    exact ⟨rfl, Below.refl _ _⟩
  · rw [e2]
    rw [show (⟨l.toArray⟩ : ByteArray).data.toList = l from rfl, e1] at hI
    have HI := Lib.hid hI
    clear hI e1 e2
    have c1 : (0 : Int) ≤ (i : Int) := by omega
    have c2 : (i : Int) ≤ (l.length : Int) := by omega
    have c3 : (0 : Int) ≤ (i : Int) + 1 := by omega
    have c4 : (i : Int) + 1 ≤ (l.length : Int) := by omega
    unfold str
    go_enter Try.func82, Try.ntmps82
    go_wp2_with fail
    refine HI.out.mono ?_
    rintro e w' ⟨rfl, rfl⟩
    go_wp2_with fail
    go_region
    go_wp2
    go_ret3
    refine ⟨?_, (Below.refl _ _).drew⟩
    rw [Lib.extract_eq, Lib.extract_eq]
    simp
    exact List.take_of_length_le (by rw [List.length_drop]; omega)
set_option maxRecDepth 100000 in
set_option maxHeartbeats 1000000 in
theorem cut_calls (l : List UInt8) (w : World) (hl : l.length ≤ 9223372036854775807) :
    Calls Try.prog 64 #[str l, str [46]] w fun e w' => e = .returned (.tuple #[str (cutP l).1, str (cutP l).2.1, .bool (cutP l).2.2]) ∧ Below w.heap.size w w' := by
  have HC := Lib.hid (cutlite_calls l w hl)
  clear hl
  unfold str at *
  go_enter Try.func64, Try.ntmps64
  go_wp2_with fail
  refine HC.out.mono ?_
  rintro e w' ⟨rfl, hb⟩
  go_wp2
  go_ret3
  exact ⟨rfl, hb⟩
theorem retb {a b : Bool} (h : a = b) : Ending.returned (.bool a) = .returned (.bool b) := by rw [h]
set_option maxRecDepth 100000 in
theorem letter_calls (c : UInt8) (w : World) : Calls Try.prog 56 #[.int .u8 c.toNat] w fun e w' => e = .returned (.bool (ltr c)) ∧ w = w' := by
  have hc : c.toNat < 256 := c.toNat_lt
  have hd : ltr c = (decide ((97 : Int) ≤ (c.toNat : Int)) && decide ((c.toNat : Int) ≤ 122)) := by
    unfold ltr
    rw [Bool.eq_iff_iff]
    simp
    omega
  rw [hd]
  clear hd
  by_cases h1 : (97 : Int) ≤ (c.toNat : Int)
  · go_enter Try.func56, Try.ntmps56
    go_wp2
    go_ret
    exact ⟨retb (by simp [h1]), rfl⟩
  · go_enter Try.func56, Try.ntmps56
    go_wp2
    go_ret
    exact ⟨retb (by simp; omega), rfl⟩
set_option maxRecDepth 100000 in
theorem inner_calls (c : UInt8) (w : World) : Calls Try.prog 58 #[.int .u8 c.toNat] w fun e w' => e = .returned (.bool (inr c)) ∧ w = w' := by
  have HL := Lib.hid (letter_calls c w)
  have hd : inr c = (ltr c || (decide ((48 : Int) ≤ (c.toNat : Int)) && decide ((c.toNat : Int) ≤ 57)) || ((c.toNat : Int) == 45)) := by
    unfold inr
    generalize ltr c = b
    rw [Bool.eq_iff_iff]
    cases b
    · simp only [Bool.or_eq_true, Bool.and_eq_true, decide_eq_true_eq, beq_iff_eq, Bool.false_eq_true, false_or]
      omega
    · simp
  rw [hd]
  clear hd
  obtain ⟨b, hb⟩ : ∃ b, ltr c = b := ⟨_, rfl⟩
  rw [hb] at HL ⊢
  clear hb
  generalize (c.toNat : Int) = x at *
  by_cases h1 : (48 : Int) ≤ x
  · by_cases h2 : x ≤ 57
    · cases b
      all_goals
        go_enter Try.func58, Try.ntmps58
        go_wp2_with fail
        refine HL.out.mono ?_
        rintro e w' ⟨rfl, rfl⟩
        go_wp2
        go_ret
        exact ⟨retb (by first | (simp [h1]; done) | simp [h1, h2]), rfl⟩
    · have h2' : ¬ x ≤ 57 := h2
      cases b
      all_goals
        go_enter Try.func58, Try.ntmps58
        go_wp2_with fail
        refine HL.out.mono ?_
        rintro e w' ⟨rfl, rfl⟩
        go_wp2
        go_ret
        exact ⟨retb (by simp [h1]), rfl⟩
  · cases b
    all_goals
      go_enter Try.func58, Try.ntmps58
      go_wp2_with fail
      refine HL.out.mono ?_
      rintro e w' ⟨rfl, rfl⟩
      go_wp2
      go_ret
      exact ⟨retb (by first | (simp; done) | (simp; omega)), rfl⟩
set_option maxRecDepth 100000 in
theorem bounded_calls (l : List UInt8) (w : World) (hl : l.length ≤ 9223372036854775807) : Calls Try.prog 57 #[str l] w fun e w' => e = .returned (.bool (bnded l)) ∧ w = w' := by
  unfold str
  cases l with
  | nil =>
    go_enter Try.func57, Try.ntmps57
    go_wp2
    go_ret
    exact ⟨retb rfl, rfl⟩
  | cons c r =>
    have hsz : (⟨(c :: r).toArray⟩ : ByteArray).size = r.length + 1 := by simp [ByteArray.size]
    simp only [List.length_cons] at hl
    have h0 : (0 : Int) < ((r.length + 1 : Nat) : Int) := by omega
    have g0 := bget (c :: r) 0 (by rw [hsz]; omega)
    have g1 := bget (c :: r) r.length (by rw [hsz]; omega)
    have hb : bnded (c :: r) = (decide (((c :: r).getD 0 0).toNat ≠ 45) && decide (((c :: r).getD r.length 0).toNat ≠ 45)) := by unfold bnded; simp
    rw [hb]
    have HG := Lib.hid (And.intro g0 g1)
    clear hb g0 g1
    go_enter Try.func57, Try.ntmps57
    go_wp2
    all_goals
      go_ret
      refine ⟨retb ?_, rfl⟩
      rw [← HG.out.1, ← HG.out.2]
      rw [Bool.eq_iff_iff]
      simp_all
      try omega
end Go.Proofs.Ytdaalpiiagmdfaa
