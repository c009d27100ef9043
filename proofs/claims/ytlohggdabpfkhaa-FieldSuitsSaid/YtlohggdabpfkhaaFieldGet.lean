/-
  CONTRACT of field.Get: the bytes of the first field with a tag, in memory of their own.
-/
import Derived.Test.YtlohggdabpfkhaaFieldPlace
import Derived.Test.YtlohggdabpfkhaaFieldOwn
import Derived.Test.YtlohggdabpfkhaaTheirs02
namespace Go.Proofs.Ytlohggdabpfkhaa
open Go.RowKit Pl

theorem plc_range (t : Int) (L : List Fld) : ∀ k : Nat, plc t k L = -1 ∨ ∃ i : Nat, i < L.length ∧ plc t k L = ((k + i : Nat) : Int) ∧ ft L i = t := by
  induction L with
  | nil => intro k; exact .inl rfl
  | cons p L ih =>
    intro k
    unfold plc
    by_cases h : p.1 = t
    · rw [if_pos h]
      exact .inr ⟨0, by simp, by simp, by simpa [ft] using h⟩
    · rw [if_neg h]
      rcases ih (k + 1) with h1 | ⟨i, h1, h2, h3⟩
      · exact .inl h1
      · exact .inr ⟨i + 1, by simp; omega, by rw [h2]; congr 1; omega, by simpa [ft] using h3⟩
/-- The bytes of the first field with a tag. -/
def getF (L : List Fld) (t : Int) : Option (List Nat) := if placeF L t < 0 then none else some (fb L (placeF L t).toNat)

set_option maxRecDepth 100000 in
set_option maxHeartbeats 1000000 in
theorem get_calls (t : Int) (v : Value) (L : List Fld) (w : World) (h : FRow w v L) (hl : ∀ i < L.length, (fb L i).length ≤ 140737488355000) :
    Calls Try.prog 53 #[v, .int .i64 t] w fun e w' => Below w.heap.size w w' ∧ ((getF L t = none ∧ e = .returned (.tuple #[.slice none 0 0, .bool false])) ∨ ∃ l v', getF L t = some l ∧ e = .returned (.tuple #[v', .bool true]) ∧ Own8 w' w.heap.size v' l) := by
  have HP := Lib.hid (place_calls t v L w h)
  have hg : getF L t = if placeF L t < 0 then none else some (fb L (placeF L t).toNat) := rfl
  rcases plc_range t L 0 with hm | ⟨i, hi, hm, -⟩
  · have hm' : placeF L t = -1 := hm
    rw [hm', if_pos (by omega)] at hg
    rw [hm'] at HP
    have HG := Lib.hid hg
    clear h hm hm' hg hl
    go_enter Try.func53, Try.ntmps53
    go_wp2_with (go_at_call 100; refine HP.out.mono ?_; rintro e w2 ⟨rfl, hb2⟩; have HB2 := Lib.hid hb2; clear hb2)
    go_ret2
    exact ⟨HB2.out, .inl ⟨HG.out, rfl⟩⟩
  · have hm' : placeF L t = (i : Int) := by rw [placeF, hm, Nat.zero_add]
    rw [hm', if_neg (by omega), Int.toNat_natCast] at hg
    rw [hm'] at HP
    have hli := hl i hi
    obtain ⟨ht, ⟨_, _, _, rfl, _⟩ | ⟨b, off, cap, A, C, rfl, hc, hmx, hcell⟩⟩ := h
    · simp at hi
    obtain ⟨c1, c2, c3⟩ := hcell i hi
    have HG := Lib.hid hg
    have HC2 := Lib.hid c2
    have HC3 := Lib.hid c3
    have hneg : decide ((i : Int) < 0) = false := by simp
    have hcs : (L.length : Int) ≤ 9223372036854775807 := by unfold maxLen at hmx; omega
    generalize A i = A1 at *
    generalize C i = C1 at *
    generalize fb L i = l at *
    clear c1 c2 c3 hcell hg hm hm' ht hl hmx
    go_enter Try.func53, Try.ntmps53
    go_wp2_with (first
      | (go_at_call 100; refine HP.out.mono ?_; rintro e w2 ⟨rfl, hb2⟩; have HB2 := Lib.hid hb2; have hc2 := (hb2.cell (p := ⟨b, off + i * 2 + 1, none⟩) (block_lt_of_cell HC2.out)).trans HC2.out; clear hb2)
      | (go_at_call 90; refine (clone_calls _ l w2 (HC3.out.below HB2.out) hli).mono ?_; rintro e w3 ⟨v3, rfl, ho3, hb3⟩; have HO3 := Lib.hid (own_base ho3 HB2.out.size); have HB3 := Lib.hid (HB2.out.trans (hb3.mono HB2.out.size)); clear ho3 hb3))
    go_ret2
    exact ⟨HB3.out, .inr ⟨l, _, HG.out, rfl, HO3.out⟩⟩
end Go.Proofs.Ytlohggdabpfkhaa
