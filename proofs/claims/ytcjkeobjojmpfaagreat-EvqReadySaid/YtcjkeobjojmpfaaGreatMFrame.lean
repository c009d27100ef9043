import Derived.WalkKit
import Derived.Test.YtcjkeobjojmpfaaGreatProg
import Derived.Handy
import Derived.WalkSpells
import Derived.WalkLawsBesides
import Derived.Lib.Hide
import Derived.Deep.LoopGhost
import Derived.BigQuiet
import Derived.Test.YtcjkeobjojmpfaaGreatRows
import Derived.ProofKit
import Derived.OpenShut
import Derived.ShutString
import Derived.ChangeOld
import Derived.Below
section
/-
  PLAIN: numbers and their forms as lists of numbers below 256: digits in base 256, forms, what is read of bytes, lists of forms, folds. No program is named here.
-/
namespace Go.Proofs.YtcjkeobjojmpfaaGreat.Pl

/-- At most k digits of x in base 256, the highest first. -/
def dg : Nat → Nat → List Nat
  | 0, _ => []
  | k + 1, x => if x = 0 then [] else dg k (x / 256) ++ [x % 256]
def digs (x : Nat) : List Nat := dg 8 x
def val (l : List Nat) : Nat := l.foldl (fun a d => a * 256 + d) 0
def form (x : Nat) : List Nat := if x ≤ 246 then [x] else (246 + (digs x).length) :: digs x
def AllB (l : List Nat) : Prop := ∀ d ∈ l, d < 256

theorem AllB.nil : AllB [] := fun _ h => by cases h
theorem AllB.append {a b : List Nat} (ha : AllB a) (hb : AllB b) : AllB (a ++ b) := fun d hd => by
  rcases List.mem_append.1 hd with h | h
  · exact ha d h
  · exact hb d h
theorem AllB.cons {d : Nat} {l : List Nat} (h : d < 256) (hl : AllB l) : AllB (d :: l) := fun x hx => by
  rcases List.mem_cons.1 hx with e | e
  · omega
  · exact hl x e
theorem AllB.take {l : List Nat} (h : AllB l) (k : Nat) : AllB (l.take k) := fun d hd => h d (List.mem_of_mem_take hd)
theorem AllB.drop {l : List Nat} (h : AllB l) (k : Nat) : AllB (l.drop k) := fun d hd => h d (List.mem_of_mem_drop hd)
theorem AllB.getD {l : List Nat} (h : AllB l) (i : Nat) : l.getD i 0 < 256 := by
  rw [List.getD_eq_getElem?_getD]
  cases hi : l[i]? with
  | none => simp
  | some d => exact h d (List.mem_of_getElem? hi)

theorem dg_length (k : Nat) : ∀ x, (dg k x).length ≤ k := by
  induction k with
  | zero => intro x; simp [dg]
  | succ k ih => intro x; unfold dg; split
                 · simp
                 · have := ih (x / 256); simp; omega
theorem dg_allB (k : Nat) : ∀ x, AllB (dg k x) := by
  induction k with
  | zero => intro x; exact AllB.nil
  | succ k ih => intro x; unfold dg; split
                 · exact AllB.nil
                 · exact (ih _).append (AllB.cons (by omega) AllB.nil)
theorem digs_length (x : Nat) : (digs x).length ≤ 8 := dg_length 8 x
theorem digs_allB (x : Nat) : AllB (digs x) := dg_allB 8 x

theorem val_nil : val [] = 0 := rfl
theorem val_snoc (l : List Nat) (d : Nat) : val (l ++ [d]) = val l * 256 + d := by simp [val, List.foldl_append]
theorem foldl_val (l : List Nat) : ∀ a, l.foldl (fun a d => a * 256 + d) a = a * 256 ^ l.length + val l := by
  induction l with
  | nil => intro a; simp [val]
  | cons d l ih =>
    intro a
    simp only [List.foldl_cons, List.length_cons, val]
    rw [ih, ih (0 * 256 + d)]
    rw [Nat.pow_succ, Nat.add_mul]
    have : a * 256 * 256 ^ l.length = a * (256 ^ l.length * 256) := by rw [Nat.mul_assoc, Nat.mul_comm 256]
    simp only [Nat.zero_mul, Nat.zero_add]
    omega
theorem val_cons (d : Nat) (l : List Nat) : val (d :: l) = d * 256 ^ l.length + val l := by
  show l.foldl _ (0 * 256 + d) = _
  rw [foldl_val]; simp
theorem val_lt (l : List Nat) (h : AllB l) : val l < 256 ^ l.length := by
  induction l with
  | nil => simp [val]
  | cons d l ih =>
    rw [val_cons]
    have h1 := ih (fun x hx => h x (by simp [hx]))
    have h2 := h d (by simp)
    have h3 : d * 256 ^ l.length + 256 ^ l.length ≤ 256 * 256 ^ l.length := by
      rw [← Nat.succ_mul]; exact Nat.mul_le_mul_right _ h2
    simp only [List.length_cons, Nat.pow_succ]
    omega

theorem val_dg (k : Nat) : ∀ x, x < 256 ^ k → val (dg k x) = x := by
  induction k with
  | zero => intro x h; simp at h; subst h; rfl
  | succ k ih =>
    intro x h
    unfold dg
    split
    · rename_i h0; subst h0; rfl
    · rw [val_snoc, ih (x / 256) (by rw [Nat.pow_succ] at h; omega)]; omega
theorem val_digs (x : Nat) (h : x < 18446744073709551616) : val (digs x) = x := val_dg 8 x (by simpa using h)

theorem dg_cons (k : Nat) : ∀ x, x ≠ 0 → x < 256 ^ k → ∃ d r, dg k x = d :: r ∧ d ≠ 0 := by
  induction k with
  | zero => intro x h0 h; simp at h; omega
  | succ k ih =>
    intro x h0 h
    unfold dg
    rw [if_neg h0]
    by_cases hx : x / 256 = 0
    · have : dg k (x / 256) = [] := by rw [hx]; cases k <;> simp [dg]
      rw [this]
      exact ⟨x % 256, [], rfl, by omega⟩
    · obtain ⟨d, r, e, hd⟩ := ih (x / 256) hx (by rw [Nat.pow_succ] at h; omega)
      exact ⟨d, r ++ [x % 256], by rw [e]; rfl, hd⟩

theorem val_pos (d : Nat) (r : List Nat) (h : d ≠ 0) : val (d :: r) ≠ 0 := by
  rw [val_cons]
  have : 1 ≤ 256 ^ r.length := Nat.one_le_pow _ _ (by omega)
  have : 1 * 1 ≤ d * 256 ^ r.length := Nat.mul_le_mul (by omega) this
  omega

theorem dg_val (k : Nat) : ∀ l : List Nat, AllB l → l.length ≤ k → l.head? ≠ some 0 → dg k (val l) = l := by
  induction k with
  | zero => intro l _ h _; have : l = [] := List.eq_nil_of_length_eq_zero (by omega); subst this; rfl
  | succ k ih =>
    intro l hb hl hh
    rcases List.eq_nil_or_concat l with rfl | ⟨m, d, hmd⟩
    · rfl
    · rw [List.concat_eq_append] at hmd; subst hmd
      have hd : d < 256 := hb d (by simp)
      have hm : AllB m := fun x hx => hb x (by simp [hx])
      have hlm : m.length ≤ k := by simp at hl; omega
      have hne : val (m ++ [d]) ≠ 0 := by
        cases m with
        | nil => simp at hh; rw [List.nil_append, val_cons]; simpa [val] using hh
        | cons e r => simp at hh; exact val_pos e _ hh
      have hmh : m.head? ≠ some 0 := by
        cases m with
        | nil => simp
        | cons e r => simpa using hh
      unfold dg
      rw [if_neg hne, val_snoc]
      have e1 : (val m * 256 + d) / 256 = val m := by omega
      have e2 : (val m * 256 + d) % 256 = d := by omega
      rw [e1, e2, ih m hm hlm hmh]

/-! What is read of bytes: (number, size, error). -/
/-- Are these the digits of a form? -/
def numOk (d : List Nat) : Bool := !(d.head? == some 0) && !(d.length == 1 && decide (d.getD 0 0 ≤ 246))
def rd (l : List Nat) : Nat × Nat × Nat :=
  if l.length = 0 then (0, 0, 10) else
  if 9 ≤ l.getD 0 0 - 246 then (0, 0, 11) else
  if l.length ≤ l.getD 0 0 - 246 then (0, 0, 10) else
  if l.getD 0 0 - 246 = 0 then (l.getD 0 0, 1, 0) else
  if numOk ((l.drop 1).take (l.getD 0 0 - 246)) then (val ((l.drop 1).take (l.getD 0 0 - 246)), 1 + (l.getD 0 0 - 246), 0) else (0, 0, 11)

theorem digs_ne {x : Nat} (h0 : 246 < x) (h : x < 18446744073709551616) : ∃ d r, digs x = d :: r ∧ d ≠ 0 := dg_cons 8 x (by omega) (by simpa using h)
theorem form_length (x : Nat) : 1 ≤ (form x).length ∧ (form x).length ≤ 9 := by
  unfold form; have := digs_length x
  split <;> simp; omega
theorem form_allB (x : Nat) : AllB (form x) := by
  unfold form; have := digs_length x
  split
  · exact AllB.cons (by omega) AllB.nil
  · exact AllB.cons (by omega) (digs_allB x)

theorem numOk_digs {x : Nat} (h0 : 246 < x) (h : x < 18446744073709551616) : numOk (digs x) = true := by
  obtain ⟨d, r, e, hd⟩ := digs_ne h0 h
  have hv := val_digs x h
  unfold numOk
  rw [e] at hv ⊢
  simp [hd]
  by_cases hr : r = []
  · subst hr
    simp [val] at hv
    omega
  · exact .inl hr

theorem rd_form (x : Nat) (h : x < 18446744073709551616) (rest : List Nat) : rd (form x ++ rest) = (x, (form x).length, 0) := by
  unfold form
  have hl := digs_length x
  split
  · rename_i hx
    unfold rd
    have e : x - 246 = 0 := by omega
    simp [e]
  · rename_i hx
    have hne := digs_ne (x := x) (by omega) h
    have hpos : 1 ≤ (digs x).length := by obtain ⟨d, r, e, _⟩ := hne; rw [e]; simp
    unfold rd
    have e1 : 246 + (digs x).length - 246 = (digs x).length := by omega
    simp [e1]
    rw [if_neg (by omega), if_neg (by omega), if_neg (by intro h0; rw [h0] at hpos; simp at hpos), if_pos (numOk_digs (by omega) h), val_digs x h]
    simp; omega

/-- What is read is a form, and stands at the beginning. -/
theorem rd_right {l : List Nat} {x n : Nat} (hb : AllB l) (h : rd l = (x, n, 0)) : l.take n = form x ∧ n = (form x).length ∧ n ≤ l.length ∧ x < 18446744073709551616 := by
  unfold rd at h
  split at h
  · simp at h
  rename_i hl
  split at h
  · simp at h
  rename_i hc
  split at h
  · simp at h
  rename_i hr
  have hg := hb.getD 0
  split at h
  · rename_i h0
    simp at h
    obtain ⟨rfl, rfl⟩ := h
    have : l.getD 0 0 ≤ 246 := by omega
    cases l with
    | nil => simp at hl
    | cons c r =>
      simp at this ⊢
      have : c < 256 := hb c (by simp)
      simp [form, *]; omega
  rename_i h0
  split at h
  · rename_i hok
    simp only [Prod.mk.injEq, and_true] at h
    obtain ⟨hx, hn⟩ := h
    cases l with
    | nil => simp at hl
    | cons c r =>
      have hgc : (c :: r).getD 0 0 = c := rfl
      rw [hgc] at hc hr h0 hok hx hn hg
      simp only [List.drop_one, List.tail_cons, List.length_cons] at hr hok hx
      have hd : AllB (r.take (c - 246)) := fun z hz => hb z (by simp [List.mem_of_mem_take hz])
      have hlen : (r.take (c - 246)).length = c - 246 := by simp; omega
      have hhead : (r.take (c - 246)).head? ≠ some 0 := by
        unfold numOk at hok; simp at hok; intro e; exact hok.1 e
      have hdig : digs x = r.take (c - 246) := by
        rw [← hx]; exact dg_val 8 _ hd (by omega) hhead
      have hxlt : x < 18446744073709551616 := by
        have := val_lt _ hd
        rw [hx, hlen] at this
        have h2 : 256 ^ (c - 246) ≤ 256 ^ 8 := Nat.pow_le_pow_right (by omega) (by omega)
        have h3 : (256 : Nat) ^ 8 = 18446744073709551616 := by rfl
        omega
      have hx246 : 246 < x := by
        match hm : r.take (c - 246), hlen, hok with
        | [], hlen, _ => simp at hlen; omega
        | [d], _, hok =>
          rw [hm] at hx; simp [numOk] at hok; simp [val] at hx; omega
        | d :: e :: t, _, hok =>
          rw [hm, val_cons] at hx
          simp [numOk] at hok
          have h1 : 256 ^ 1 ≤ 256 ^ (e :: t).length := Nat.pow_le_pow_right (by omega) (by simp)
          have h3 : 1 * 256 ^ 1 ≤ d * 256 ^ (e :: t).length := Nat.mul_le_mul (by omega) h1
          simp at h3 hx; omega
      have hform : form x = c :: r.take (c - 246) := by
        unfold form; have e : 246 + (c - 246) = c := by omega
        rw [if_neg (by omega), hdig, hlen, e]
      refine ⟨?_, ?_, ?_, hxlt⟩
      · rw [hform, ← hn, Nat.add_comm, List.take_succ_cons]
      · rw [hform, List.length_cons, hlen]; omega
      · simp; omega
  · simp at h
end Go.Proofs.YtcjkeobjojmpfaaGreat.Pl
end

section
/-
  CONTRACTS of num.Fold, num.Unfold and of the documents' own Fold and Unfold: each returns what the plain functions say; the world is left alone.
-/
namespace Go.Proofs.YtcjkeobjojmpfaaGreat
open Go.RowKit

theorem ret_int {k : IntKind} {a b : Int} (h : a = b) : Ending.returned (.int k a) = .returned (.int k b) := by rw [h]

/-- The fold of a signed number. -/
def foldI (y : Int) : Int := if y < 0 then -2 * y - 1 else 2 * y
def unfoldI (x : Int) : Int := if x % 2 = 1 then -(x / 2) - 1 else x / 2

/-! The folds as numbers. -/
theorem foldI_range (y : Int) (h1 : -9223372036854775808 ≤ y) (h2 : y ≤ 9223372036854775807) : 0 ≤ foldI y ∧ foldI y ≤ 18446744073709551615 := by
  unfold foldI; split <;> omega
theorem unfoldI_range (x : Int) (h1 : 0 ≤ x) (h2 : x ≤ 18446744073709551615) : -9223372036854775808 ≤ unfoldI x ∧ unfoldI x ≤ 9223372036854775807 := by
  unfold unfoldI; split <;> omega
theorem unfold_foldI (y : Int) : unfoldI (foldI y) = y := by
  unfold foldI unfoldI; split <;> split <;> omega
theorem fold_unfoldI (x : Int) (h1 : 0 ≤ x) : foldI (unfoldI x) = x := by
  unfold foldI unfoldI; split <;> split <;> omega
end Go.Proofs.YtcjkeobjojmpfaaGreat
end

section
/-
  CONTRACTS of num.told, num.number, num.Read, num.Last, num.Int: each returns what the plain functions say of the bytes that it is handed; the world is left alone.
-/
namespace Go.Proofs.YtcjkeobjojmpfaaGreat
open Go.RowKit Pl

/-- The byte at a place, 0 behind the end. -/
def gt (l : List Nat) (i : Nat) : Nat := l.getD i 0
/-- THE VALUE v READS AS THE BYTES l: it is of length 0, or leads to a row of cells that hold them. -/
def BRow (w : World) (v : Value) (l : List Nat) : Prop :=
  AllB l ∧ ((∃ a c, v = .slice a 0 c ∧ l = [] ∧ c ≤ maxLen) ∨ ∃ b off cap, v = .slice (some ⟨b, off, none⟩) l.length cap ∧ l.length ≤ cap ∧ cap ≤ maxLen ∧ ∀ i, i < l.length → w.cell? ⟨b, off + i, none⟩ = some (.int .u8 (gt l i : Int)))

theorem gt_lt {l : List Nat} (h : AllB l) (i : Nat) : gt l i < 256 := h.getD i

/-- What told says: (how many digits, error). -/
def toldN (l : List Nat) : Nat := if l.length = 0 then 0 else if 9 ≤ gt l 0 - 246 then 0 else if l.length ≤ gt l 0 - 246 then 0 else gt l 0 - 246
def toldE (l : List Nat) : Nat := if l.length = 0 then 10 else if 9 ≤ gt l 0 - 246 then 11 else if l.length ≤ gt l 0 - 246 then 10 else 0

theorem ret_two {k k' : IntKind} {a b c d : Int} (h : a = b) (h' : c = d) : Ending.returned (.tuple #[.int k a, .int k' c]) = .returned (.tuple #[.int k b, .int k' d]) := by rw [h, h']

/-! number: the digits of a form. -/
/-- What number says: (the number, are the digits right). -/
def numV (l : List Nat) : Nat := if numOk l then val l else 0

theorem val_take_succ {l : List Nat} (k : Nat) (h : k < l.length) : val (l.take (k + 1)) = val (l.take k) * 256 + gt l k := by
  rw [List.take_succ_eq_append_getElem h, val_snoc]
  simp [gt, h]
theorem val_take_lt {l : List Nat} (hb : AllB l) (k : Nat) (h : k < l.length) (h8 : l.length ≤ 8) : val (l.take k) < 72057594037927936 := by
  have h1 := val_lt _ (hb.take k)
  have h2 : 256 ^ (l.take k).length ≤ 256 ^ 7 := Nat.pow_le_pow_right (by omega) (by simp; omega)
  have h3 : (256 : Nat) ^ 7 = 72057594037927936 := by rfl
  omega
theorem or_byte (a d : Int) (ha0 : 0 ≤ a) (ha : a < 72057594037927936) (hd0 : 0 ≤ d) (hd : d < 256) : bits BinOp.or IntKind.u64 (a * 256) d = a * 256 + d :=
  bits_join .u64 64 (by decide) (by intro n h0 h1; rw [IntKind.wrap_u64]; omega) 8 _ _ (by omega) (by omega) (by omega) hd0 (by omega) (by omega)

theorem ret_numOk {a b : Int} {c d : Bool} (h : a = b) (h' : c = d) : Ending.returned (.tuple #[.int .u64 a, .bool c]) = .returned (.tuple #[.int .u64 b, .bool d]) := by rw [h, h']

/-! Parts of rows. -/
theorem gt_drop (l : List Nat) (k i : Nat) : gt (l.drop k) i = gt l (k + i) := by simp [gt]
theorem gt_take {l : List Nat} {k i : Nat} (h : i < k) : gt (l.take k) i = gt l i := by simp [gt, h]

/-- A part of a row: i up to j. -/
theorem BRow.sub {w : World} {b off n cap : Nat} {l : List Nat} (h : BRow w (.slice (some ⟨b, off, none⟩) n cap) l) (i j o' n' c' : Nat) (hij : i ≤ j) (hj : j ≤ l.length) (ho : o' = off + i) (hn : n' = j - i) (hc : n' ≤ c') (hc2 : c' ≤ maxLen) :
    BRow w (.slice (some ⟨b, o', none⟩) n' c') ((l.drop i).take (j - i)) := by
  obtain ⟨hb, ⟨_, _, h1, rfl, _⟩ | ⟨b', off', cap', hv, hle, hm, hcell⟩⟩ := h
  · obtain rfl : j = 0 := by simpa using hj
    obtain rfl : n' = 0 := by omega
    simp only [List.drop_nil, List.take_nil]
    exact ⟨AllB.nil, .inl ⟨_, _, rfl, rfl, hc2⟩⟩
  · simp only [Value.slice.injEq, Option.some.injEq, Addr.mk.injEq, and_true] at hv
    obtain ⟨⟨rfl, rfl⟩, rfl, rfl⟩ := hv
    subst ho hn
    have hlen : ((l.drop i).take (j - i)).length = j - i := by simp; omega
    refine ⟨(hb.drop i).take _, .inr ⟨b, off + i, c', by rw [hlen], by rw [hlen]; exact hc, hc2, fun x hx => ?_⟩⟩
    rw [hlen] at hx
    rw [gt_take hx, gt_drop, Nat.add_assoc]
    exact hcell (i + x) (by omega)
theorem BRow.drop {w : World} {b off n cap : Nat} {l : List Nat} (h : BRow w (.slice (some ⟨b, off, none⟩) n cap) l) (i o' n' c' : Nat) (hi : i ≤ l.length) (ho : o' = off + i) (hn : n' = l.length - i) (hc : n' ≤ c') (hc2 : c' ≤ maxLen) :
    BRow w (.slice (some ⟨b, o', none⟩) n' c') (l.drop i) := by
  have := h.sub i l.length o' n' c' hi (Nat.le_refl _) ho hn hc hc2
  rwa [List.take_of_length_le (by simp)] at this
theorem BRow.empty {w : World} (a : Option Addr) (c : Nat) (hc : c ≤ maxLen) : BRow w (.slice a 0 c) [] :=
  ⟨AllB.nil, .inl ⟨a, c, rfl, rfl, hc⟩⟩

theorem rd_of (m : List Nat) : rd m = if toldE m ≠ 0 then (0, 0, toldE m) else if toldN m = 0 then (gt m 0, 1, 0) else if numOk ((m.drop 1).take (toldN m)) then (val ((m.drop 1).take (toldN m)), 1 + toldN m, 0) else (0, 0, 11) := by
  unfold rd toldE toldN gt
  by_cases h1 : m.length = 0
  · simp [h1]
  by_cases h2 : 9 ≤ m.getD 0 0 - 246
  · simp only [h1, h2, if_true, if_false]; simp
  by_cases h3 : m.length ≤ m.getD 0 0 - 246
  · simp only [h1, h2, h3, if_true, if_false]; simp
  simp only [h1, h2, h3, if_false]; simp
theorem told_room {m : List Nat} (h : toldE m = 0) : 1 ≤ m.length ∧ toldN m < m.length ∧ toldN m ≤ 8 := by
  unfold toldE at h; unfold toldN
  split at h
  · simp at h
  split at h
  · simp at h
  split at h
  · simp at h
  rename_i a b c
  rw [if_neg a, if_neg b, if_neg c]
  omega

theorem ret_read {a b c a' b' c' : Int} (h1 : a = a') (h2 : b = b') (h3 : c = c') : Ending.returned (.tuple #[.int .u64 a, .int .i64 b, .int .i64 c]) = .returned (.tuple #[.int .u64 a', .int .i64 b', .int .i64 c']) := by rw [h1, h2, h3]

/-- What Read says at an offset. -/
def rdAt (l : List Nat) (k : Int) : Nat × Nat × Nat := if k < 0 ∨ (l.length : Int) < k then (0, 0, 2) else rd (l.drop k.toNat)

end Go.Proofs.YtcjkeobjojmpfaaGreat
end

section
/-
  CONTRACTS of fermatakit.SameBytes, fermatakit.SameNums: are two lists the same? The world is read alone.
-/
namespace Go.Proofs.YtcjkeobjojmpfaaGreat
open Go.RowKit Pl

/-- THE VALUE v READS AS THE NUMBERS l of 64 bits. -/
def NRow (w : World) (v : Value) (l : List Nat) : Prop :=
  (∀ x ∈ l, x < 18446744073709551616) ∧ ((∃ a c, v = .slice a 0 c ∧ l = [] ∧ c ≤ maxLen) ∨ ∃ b off cap, v = .slice (some ⟨b, off, none⟩) l.length cap ∧ l.length ≤ cap ∧ cap ≤ maxLen ∧ ∀ i, i < l.length → w.cell? ⟨b, off + i, none⟩ = some (.int .u64 (gt l i : Int)))

theorem same_iff {a b : List Nat} (h : a.length = b.length) : a = b ↔ ∀ i, i < a.length → gt a i = gt b i := by
  constructor
  · rintro rfl i _; rfl
  · intro hi
    refine List.ext_getElem h fun i h1 h2 => ?_
    have := hi i h1
    simpa [gt, h1, h2] using this

theorem decide_same_no {a b : List Nat} (i : Nat) (hd : gt a i ≠ gt b i) : decide (a = b) = false := by
  rw [decide_eq_false_iff_not]; rintro rfl; exact hd rfl

theorem drewN_two (w : World) (n m : Nat) : (w.drewN n).drewN m = w.drewN (n + m) := by simp [World.drewN, Nat.add_assoc]
theorem ret_bool {a b : Bool} (h : a = b) : Ending.returned (.bool a) = .returned (.bool b) := by rw [h]

end Go.Proofs.YtcjkeobjojmpfaaGreat
end

section
/-
  WHAT THE FRAMES OF ALL LAWS SHARE: two closed facts on the program, and how a slice of integers that came in reads.
-/
namespace Go.Proofs.YtcjkeobjojmpfaaGreat
open Go.RowKit Pl

theorem own : ownKnob Tryz.prog.godebug = none := by kernel_rfl
theorem laidOut : laidOutB Tryz.prog = true := by kernel_rfl

/-- A slice of integers that came in: nil, or a row of 'cap' cells, the numbers 'zs', each fitting its kind. -/
def IsRow (k : IntKind) (w : World) (a : Option Addr) (len cap : Nat) (zs : List Int) : Prop :=
  (a = none ∧ len = 0 ∧ cap = 0 ∧ zs = []) ∨
  ∃ x, a = some x ∧ len ≤ cap ∧ cap ≤ maxLen ∧ zs.length = cap ∧ (∀ i, i < zs.length → w.cell? (x.add i) = some (.int k (zs.getD i 0))) ∧ ∀ n ∈ zs, (Lit.int k n).wf = true

theorem wf_u8 {n : Int} (h : (Lit.int .u8 n).wf = true) : 0 ≤ n ∧ n < 256 := by
  have : 0 ≤ n ∧ n ≤ 255 := by simpa [Lit.wf, IntKind.min, IntKind.max, IntKind.signed, IntKind.bits] using h
  omega
theorem wf_u64 {n : Int} (h : (Lit.int .u64 n).wf = true) : 0 ≤ n ∧ n < 18446744073709551616 := by
  have : 0 ≤ n ∧ n ≤ 18446744073709551615 := by simpa [Lit.wf, IntKind.min, IntKind.max, IntKind.signed, IntKind.bits] using h
  omega
theorem wf_u16 {n : Int} (h : (Lit.int .u16 n).wf = true) : 0 ≤ n ∧ n < 65536 := by
  have : 0 ≤ n ∧ n ≤ 65535 := by simpa [Lit.wf, IntKind.min, IntKind.max, IntKind.signed, IntKind.bits] using h
  omega
theorem wf_i64 {n : Int} (h : (Lit.int .i64 n).wf = true) : -9223372036854775808 ≤ n ∧ n ≤ 9223372036854775807 := by
  simpa [Lit.wf, IntKind.min, IntKind.max, IntKind.signed, IntKind.bits] using h

/-- The elements of a row, as natural numbers. -/
theorem isRow_parts {k : IntKind} {w : World} {a : Option Addr} {len cap : Nat} {zs : List Int} (h : IsRow k w a len cap zs) (B : Nat) (hB : ∀ n : Int, (Lit.int k n).wf = true → 0 ≤ n ∧ n < B) :
    ∃ l : List Nat, l.length = len ∧ (∀ x ∈ l, x < B) ∧ ((∃ a' c, Value.slice a len cap = .slice a' 0 c ∧ l = [] ∧ c ≤ maxLen) ∨ ∃ b off cap', Value.slice a len cap = .slice (some ⟨b, off, none⟩) l.length cap' ∧ l.length ≤ cap' ∧ cap' ≤ maxLen ∧ ∀ i, i < l.length → w.cell? ⟨b, off + i, none⟩ = some (.int k (gt l i : Int))) := by
  rcases h with ⟨rfl, rfl, rfl, rfl⟩ | ⟨x, rfl, hl, hm, hz, hcell, hwz⟩
  · exact ⟨[], rfl, fun x hx => (by cases hx), .inl ⟨none, 0, rfl, rfl, Nat.zero_le _⟩⟩
  · have hlen : ((zs.take len).map Int.toNat).length = len := by simp; omega
    refine ⟨(zs.take len).map Int.toNat, hlen, ?_, ?_⟩
    · intro y hy
      simp only [List.mem_map] at hy
      obtain ⟨z, hz', rfl⟩ := hy
      have := hB z (hwz z (List.mem_of_mem_take hz'))
      omega
    · by_cases h0 : len = 0
      · subst h0
        exact .inl ⟨some x, cap, rfl, by simp, hm⟩
      · obtain ⟨b, off, sp⟩ := x
        have hc0 := hcell 0 (by omega)
        have hsp : sp = none := by simpa [Addr.add] using World.cell?_spot hc0
        subst hsp
        refine .inr ⟨b, off, cap, by rw [hlen], by rw [hlen]; exact hl, hm, fun i hi => ?_⟩
        rw [hlen] at hi
        have hci := hcell i (by omega)
        have hadd : (⟨b, off, none⟩ : Addr).add i = ⟨b, off + i, none⟩ := by unfold Addr.add; split <;> simp_all
        rw [hadd] at hci
        rw [hci]
        have hmem : zs.getD i 0 ∈ zs := by rw [List.getD_eq_getElem?_getD, List.getElem?_eq_getElem (by omega)]; simp
        have := (hB _ (hwz _ hmem)).1
        have e : gt ((zs.take len).map Int.toNat) i = (zs.getD i 0).toNat := by simp [gt, hi, show i < zs.length by omega]
        rw [e]
        congr 2
        omega
theorem isRow_bytes {w : World} {a : Option Addr} {len cap : Nat} {zs : List Int} (h : IsRow .u8 w a len cap zs) : ∃ l : List Nat, l.length = len ∧ BRow w (.slice a len cap) l := by
  obtain ⟨l, h1, h2, h3⟩ := isRow_parts h 256 (fun n hn => wf_u8 hn)
  exact ⟨l, h1, h2, h3⟩
theorem isRow_nums {w : World} {a : Option Addr} {len cap : Nat} {zs : List Int} (h : IsRow .u64 w a len cap zs) : ∃ l : List Nat, l.length = len ∧ NRow w (.slice a len cap) l := by
  obtain ⟨l, h1, h2, h3⟩ := isRow_parts h 18446744073709551616 (fun n hn => wf_u64 hn)
  exact ⟨l, h1, h2, h3⟩
end Go.Proofs.YtcjkeobjojmpfaaGreat
end
