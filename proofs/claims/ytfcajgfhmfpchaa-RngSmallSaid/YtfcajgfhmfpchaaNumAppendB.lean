/-
  CONTRACTS of num.Size, num.Append (at a slice of the call's own) and num.All: the forms of numbers; nothing that was there is written.
-/
import Derived.Test.YtfcajgfhmfpchaaNumAppend
import Derived.Maps.AppendAt
import Derived.RangeFuncBox
namespace Go.Proofs.Ytfcajgfhmfpchaa
open Go.RowKit Pl

theorem info_u8 : (Try.prog.info? 5).map (fun i => (i.zero, i.size, i.bytes)) = some (some (.int .u8 0), 1, 1) := by kernel_rfl
theorem below_setRow {B : Nat} {a w : World} (h : Below B a w) (g : Nat) (c : Array Value) (hg : B ≤ g) : Below B a (w.setRow g c) :=
  h.trans ⟨rfl, rfl, rfl, by simp [World.setRow], fun k hk => setRow_other _ _ _ _ (by omega)⟩
theorem B8_one (l : List Nat) : ∀ u ∈ l.map B8, u.oneCell' = true := by
  intro u hu; simp only [List.mem_map] at hu; obtain ⟨d, _, rfl⟩ := hu; rfl

theorem dg_is_low (n : Nat) : ∀ x, dg n x = low (dg n x).length x := by
  induction n with
  | zero => intro x; rfl
  | succ n ih =>
    intro x
    unfold dg
    by_cases h : x = 0
    · rw [if_pos h]; rfl
    · rw [if_neg h, List.length_append, List.length_singleton, low_snoc, ← ih]
theorem arr_drop (x f : Nat) (hf : f = 8 - (digs x).length) : (arr f x).drop f = (digs x).map B8 := by
  have h8 := digs_length x
  have hd : digs x = low (8 - f) x := by
    have := dg_is_low 8 x
    rw [show 8 - f = (dg 8 x).length from by subst hf; show 8 - (8 - (digs x).length) = (digs x).length; omega]
    exact this
  unfold arr
  rw [← hd, List.map_append, List.drop_append_of_le_length (by simp)]
  simp

/-- A slice of the call's own, holding just these bytes. -/
abbrev Own8 (w : World) (base : Nat) (v : Value) (l : List Nat) : Prop := w.ownsRow base 5 1 v l.length (l.map B8)

theorem ownsRow_below {w w1 : World} {base : Nat} {e : TypeId} {size : Nat} {v : Value} {n : Nat} {xs : List Value} (h : w.ownsRow base e size v n xs) (hb : Below w.heap.size w w1) : w1.ownsRow base e size v n xs :=
  h.kept (row := none) ⟨hb.os, hb.tape, hb.output, hb.size, fun k hk _ => hb.block k hk⟩ (by cases hv : v.ownBlock <;> simp)

theorem cell_in_row {w : World} {g f : Nat} {c : List Value} {t : TypeId} (hg : w.heap[g]? = some (.cells c.toArray t (0, 0))) (news : List Value) (hd : c.drop f = news) : ∀ j u, news[j]? = some u → w.cell? ((⟨g, f, none⟩ : Addr).add j) = some u := by
  intro j u hu
  have hadd : (⟨g, f, none⟩ : Addr).add j = ⟨g, f + j, none⟩ := by unfold Addr.add; split <;> simp_all
  rw [hadd, cell_of_row w g (f + j) c.toArray t (0, 0) hg]
  rw [← hd, List.getElem?_drop] at hu
  simpa using hu

theorem own8_nil (w : World) (base : Nat) : Own8 w base (.slice none 0 0) [] := World.ownsRow_nil _ _ _ _

end Go.Proofs.Ytfcajgfhmfpchaa
