/-
  CONTRACTS of num.told, num.number, num.Read, num.Last, num.Int: each returns what the plain functions say of the bytes that it is handed; the world is left alone.
-/
import Derived.Test.YtjnocijfjkbaiaaProg
import Derived.Test.YtjnocijfjkbaiaaNumPlain
import Derived.Test.YtjnocijfjkbaiaaNumFold
import Derived.Handy
import Derived.WalkSpells
import Derived.WalkLawsBesides
import Derived.Lib.Hide
import Derived.Deep.LoopGhost
namespace Go.Proofs.Ytjnocijfjkbaiaa
open Go.RowKit Pl

/-- The byte at a place, 0 behind the end. -/
def gt (l : List Nat) (i : Nat) : Nat := l.getD i 0
/-- THE VALUE v READS AS THE BYTES l: it is of length 0, or leads to a row of cells that hold them. -/
def BRow (w : World) (v : Value) (l : List Nat) : Prop :=
  AllB l ∧ ((∃ a c, v = .slice a 0 c ∧ l = [] ∧ c ≤ maxLen) ∨ ∃ b off cap, v = .slice (some ⟨b, off, none⟩) l.length cap ∧ l.length ≤ cap ∧ cap ≤ maxLen ∧ ∀ i, i < l.length → w.cell? ⟨b, off + i, none⟩ = some (.int .u8 (gt l i : Int)))

theorem gt_lt {l : List Nat} (h : AllB l) (i : Nat) : gt l i < 256 := h.getD i

/-- What told says: (how many digits, error). -/
def toldN (l : List Nat) : Nat := if l.length = 0 then 0 else if 9 ≤ gt l 0 - 246 then 0 else if l.length ≤ gt l 0 - 246 then 0 else gt l 0 - 246
def toldE (l : List Nat) : Nat := if l.length = 0 then 10 else if 9 ≤ gt l 0 - 246 then 11 else if l.length ≤ gt l 0 - 246 then 10 else 0

theorem ret_two {k k' : IntKind} {a b c d : Int} (h : a = b) (h' : c = d) : Ending.returned (.tuple #[.int k a, .int k' c]) = .returned (.tuple #[.int k b, .int k' d]) := by rw [h, h']

/-! number: the digits of a form. -/
/-- What number says: (the number, are the digits right). -/
def numV (l : List Nat) : Nat := if numOk l then val l else 0

theorem val_take_succ {l : List Nat} (k : Nat) (h : k < l.length) : val (l.take (k + 1)) = val (l.take k) * 256 + gt l k := by
  rw [List.take_succ_eq_append_getElem h, val_snoc]
  simp [gt, h]
theorem val_take_lt {l : List Nat} (hb : AllB l) (k : Nat) (h : k < l.length) (h8 : l.length ≤ 8) : val (l.take k) < 72057594037927936 := by
  have h1 := val_lt _ (hb.take k)
  have h2 : 256 ^ (l.take k).length ≤ 256 ^ 7 := Nat.pow_le_pow_right (by omega) (by simp; omega)
  have h3 : (256 : Nat) ^ 7 = 72057594037927936 := by rfl
  omega
theorem or_byte (a d : Int) (ha0 : 0 ≤ a) (ha : a < 72057594037927936) (hd0 : 0 ≤ d) (hd : d < 256) : bits BinOp.or IntKind.u64 (a * 256) d = a * 256 + d :=
  bits_join .u64 64 (by decide) (by intro n h0 h1; rw [IntKind.wrap_u64]; omega) 8 _ _ (by omega) (by omega) (by omega) hd0 (by omega) (by omega)

theorem ret_numOk {a b : Int} {c d : Bool} (h : a = b) (h' : c = d) : Ending.returned (.tuple #[.int .u64 a, .bool c]) = .returned (.tuple #[.int .u64 b, .bool d]) := by rw [h, h']

/-! Parts of rows. -/
theorem gt_drop (l : List Nat) (k i : Nat) : gt (l.drop k) i = gt l (k + i) := by simp [gt]
theorem gt_take {l : List Nat} {k i : Nat} (h : i < k) : gt (l.take k) i = gt l i := by simp [gt, h]

/-- A part of a row: i up to j. -/
theorem BRow.sub {w : World} {b off n cap : Nat} {l : List Nat} (h : BRow w (.slice (some ⟨b, off, none⟩) n cap) l) (i j o' n' c' : Nat) (hij : i ≤ j) (hj : j ≤ l.length) (ho : o' = off + i) (hn : n' = j - i) (hc : n' ≤ c') (hc2 : c' ≤ maxLen) :
    BRow w (.slice (some ⟨b, o', none⟩) n' c') ((l.drop i).take (j - i)) := by
  obtain ⟨hb, ⟨_, _, h1, rfl, _⟩ | ⟨b', off', cap', hv, hle, hm, hcell⟩⟩ := h
  · obtain rfl : j = 0 := by simpa using hj
    obtain rfl : n' = 0 := by omega
    simp only [List.drop_nil, List.take_nil]
    exact ⟨AllB.nil, .inl ⟨_, _, rfl, rfl, hc2⟩⟩
  · simp only [Value.slice.injEq, Option.some.injEq, Addr.mk.injEq, and_true] at hv
    obtain ⟨⟨rfl, rfl⟩, rfl, rfl⟩ := hv
    subst ho hn
    have hlen : ((l.drop i).take (j - i)).length = j - i := by simp; omega
    refine ⟨(hb.drop i).take _, .inr ⟨b, off + i, c', by rw [hlen], by rw [hlen]; exact hc, hc2, fun x hx => ?_⟩⟩
    rw [hlen] at hx
    rw [gt_take hx, gt_drop, Nat.add_assoc]
    exact hcell (i + x) (by omega)
theorem BRow.drop {w : World} {b off n cap : Nat} {l : List Nat} (h : BRow w (.slice (some ⟨b, off, none⟩) n cap) l) (i o' n' c' : Nat) (hi : i ≤ l.length) (ho : o' = off + i) (hn : n' = l.length - i) (hc : n' ≤ c') (hc2 : c' ≤ maxLen) :
    BRow w (.slice (some ⟨b, o', none⟩) n' c') (l.drop i) := by
  have := h.sub i l.length o' n' c' hi (Nat.le_refl _) ho hn hc hc2
  rwa [List.take_of_length_le (by simp)] at this
theorem BRow.empty {w : World} (a : Option Addr) (c : Nat) (hc : c ≤ maxLen) : BRow w (.slice a 0 c) [] :=
  ⟨AllB.nil, .inl ⟨a, c, rfl, rfl, hc⟩⟩

theorem rd_of (m : List Nat) : rd m = if toldE m ≠ 0 then (0, 0, toldE m) else if toldN m = 0 then (gt m 0, 1, 0) else if numOk ((m.drop 1).take (toldN m)) then (val ((m.drop 1).take (toldN m)), 1 + toldN m, 0) else (0, 0, 11) := by
  unfold rd toldE toldN gt
  by_cases h1 : m.length = 0
  · simp [h1]
  by_cases h2 : 9 ≤ m.getD 0 0 - 246
  · simp only [h1, h2, if_true, if_false]; simp
  by_cases h3 : m.length ≤ m.getD 0 0 - 246
  · simp only [h1, h2, h3, if_true, if_false]; simp
  simp only [h1, h2, h3, if_false]; simp
theorem told_room {m : List Nat} (h : toldE m = 0) : 1 ≤ m.length ∧ toldN m < m.length ∧ toldN m ≤ 8 := by
  unfold toldE at h; unfold toldN
  split at h
  · simp at h
  split at h
  · simp at h
  split at h
  · simp at h
  rename_i a b c
  rw [if_neg a, if_neg b, if_neg c]
  omega

theorem ret_read {a b c a' b' c' : Int} (h1 : a = a') (h2 : b = b') (h3 : c = c') : Ending.returned (.tuple #[.int .u64 a, .int .i64 b, .int .i64 c]) = .returned (.tuple #[.int .u64 a', .int .i64 b', .int .i64 c']) := by rw [h1, h2, h3]

/-- What Read says at an offset. -/
def rdAt (l : List Nat) (k : Int) : Nat × Nat × Nat := if k < 0 ∨ (l.length : Int) < k then (0, 0, 2) else rd (l.drop k.toNat)

end Go.Proofs.Ytjnocijfjkbaiaa
