/-
  CONTRACTS of bytes.Clone and field.own: bytes, and a field, with memory of their own.
-/
import Derived.Test.YteaeedhhdnkldaaFieldFirst
import Derived.Test.YteaeedhhdnkldaaNumAppendF
namespace Go.Proofs.Yteaeedhhdnkldaa
open Go.RowKit Pl

set_option maxRecDepth 100000 in
set_option maxHeartbeats 1000000 in
theorem clone_calls (v : Value) (l : List Nat) (w : World) (h : BRow w v l) (hl : l.length ≤ 140737488355000) :
    Calls Try.prog 103 #[v] w fun e w' => ∃ v', e = .returned v' ∧ Own8 w' w.heap.size v' l ∧ Below w.heap.size w w' := by
  have q : ∀ (W : World) (a : Option Addr) (n c n' c' : Nat), (binOp .eql 22 (.slice a n c) (.slice none n' c')).run Try.prog W = .ok (.bool a.isNone) W := fun W a n c n' c' => Lib.run_eql_slice_nil W _ _ a n c n' c' Try.underlying22
  have HR := Lib.hid h
  obtain ⟨a, c, rfl⟩ := h.shape
  cases a with
  | none =>
    obtain ⟨_, ⟨_, _, e, rfl, _⟩ | ⟨b, off, cap, e, _⟩⟩ := h
    · go_enter Try.func103, Try.ntmps103
      go_wp2
      go_ret
      exact ⟨_, rfl, own8_nil _ _, Below.refl _ _⟩
    · simp at e
  | some a =>
    clear h
    have HL := Lib.hid (own8_lit w [] #[] w.heap.size 0 0 rfl rfl rfl rfl (by simp) w.heap.size (Nat.le_refl _))
    have HA := Lib.hid ((Below.refl w.heap.size w).alloc (Nat.le_refl _) (.cells #[] 5))
    go_enter Try.func103, Try.ntmps103
    go_wp2_with (at_builtin; refine wpList_append8 rfl (.tmp 5) (.tmp 6) rfl w.heap.size _ _ rfl HL.out _ l rfl (HR.out.below HA.out) (by simp; omega) HA.out.size ?_; intro v5 w5 hown5 hg5; have HO5 := Lib.hid hown5; have HB5 := Lib.hid (HA.out.grown hg5 HA.out.size (fun j hj => (HL.out.lt j hj).1)); clear hown5 hg5)
    go_ret
    exact ⟨_, rfl, HO5.out, HB5.out⟩

theorem fld_end {w w5 : World} {F base : Nat} {x0 x1 a b v : Value} {l : List Nat} (hL : w5.heap[F]? = some (.cells #[x0, x1] 33 (0, 0))) (hO : Own8 w5 base v l) (hN : v.ownBlock ≠ some F) (hB : Below base w w5) (hF : base ≤ F) :
    ((w5.setCell ⟨F, 0, none⟩ a).setCell ⟨F, 1, none⟩ b).cell? ⟨F, 0, none⟩ = some a ∧ ((w5.setCell ⟨F, 0, none⟩ a).setCell ⟨F, 1, none⟩ b).cell? ⟨F, 1, none⟩ = some b ∧ Own8 ((w5.setCell ⟨F, 0, none⟩ a).setCell ⟨F, 1, none⟩ b) base v l ∧ Below base w ((w5.setCell ⟨F, 0, none⟩ a).setCell ⟨F, 1, none⟩ b) := by
  have hW := setCell_cells (setCell_cells hL 0 a) 1 b
  exact ⟨by simp [World.cell?, hW], by simp [World.cell?, hW], (hO.kept (grownBy_setCell w5 F 0 _) (.inr hN)).kept (grownBy_setCell _ F 1 _) (.inr hN), (hB.setCell (p := ⟨F, 0, none⟩) hF _).setCell (p := ⟨F, 1, none⟩) hF _⟩

theorem own_facts {w W w5 : World} {t : Int} {v5 : Value} {l : List Nat} (hA : Below w.heap.size w W) (h1 : W.cell? ⟨w.heap.size, 0, none⟩ = some (.int .i64 t)) (h2 : W.heap[w.heap.size + 1]? = some (.cells #[.int .i64 0, .slice none 0 0] 33 (0, 0))) (h3 : W.heap.size = w.heap.size + 2)
    (hown : Own8 w5 W.heap.size v5 l) (hb : Below W.heap.size W w5) :
    ∃ a5 c5, v5 = .slice a5 l.length c5 ∧ Own8 w5 w.heap.size (.slice a5 l.length c5) l ∧ w5.cell? ⟨w.heap.size, 0, none⟩ = some (.int .i64 t) ∧ w5.heap[w.heap.size + 1]? = some (.cells #[.int .i64 0, .slice none 0 0] 33 (0, 0)) ∧
      w5.frozen? ⟨w.heap.size + 1, 0, none⟩ = false ∧ w5.frozen? ⟨w.heap.size + 1, 1, none⟩ = false ∧ w5.cell? ⟨w.heap.size + 1, 0, none⟩ = some (.int .i64 0) ∧ w5.cell? ⟨w.heap.size + 1, 1, none⟩ = some (.slice none 0 0) ∧ Below w.heap.size w w5 ∧ (Value.slice a5 l.length c5).ownBlock ≠ some (w.heap.size + 1) := by
  obtain ⟨a5, c5, rfl⟩ := owns_shape hown
  have hblk := (hb.block (w.heap.size + 1) (by omega)).trans h2
  exact ⟨a5, c5, rfl, own_base hown (by omega), (hb.cell (p := ⟨w.heap.size, 0, none⟩) (show w.heap.size < W.heap.size by omega)).trans h1, hblk, by simp [World.frozen?, hblk], by simp [World.frozen?, hblk], by simp [World.cell?, hblk], by simp [World.cell?, hblk], hA.trans (hb.mono hA.size), fun e => by
    have := (hown.lt _ e).1
    omega⟩

set_option maxRecDepth 100000 in
set_option maxHeartbeats 1000000 in
theorem own_calls (t : Int) (v : Value) (l : List Nat) (w : World) (h : BRow w v l) (hl : l.length ≤ 140737488355000) :
    Calls Try.prog 123 #[.agg #[.int .i64 t, v]] w fun e w' => ∃ v', e = .returned (.agg #[.int .i64 t, v']) ∧ Own8 w' w.heap.size v' l ∧ Below w.heap.size w w' := by
  have HC := Lib.hid (fun W (hb : Below w.heap.size w W) => clone_calls v l W (h.below hb) hl)
  go_enter Try.func123, Try.ntmps123
  go_wp2_with fail
  have HA2 := Lib.hid ((((Below.refl w.heap.size w).alloc (Nat.le_refl _) (.cells #[.int .i64 t, v] 33)).alloc (by simp) (.cells #[.int .i64 0, .slice none 0 0] 33)).drew)
  have hk1 : ((w.alloc (.cells #[.int .i64 t, v] 33)).alloc (.cells #[.int .i64 0, .slice none 0 0] 33)).drew.cell? ⟨w.heap.size, 0, none⟩ = some (.int .i64 t) := by simp
  have hk2 : ((w.alloc (.cells #[.int .i64 t, v] 33)).alloc (.cells #[.int .i64 0, .slice none 0 0] 33)).drew.heap[w.heap.size + 1]? = some (.cells #[.int .i64 0, .slice none 0 0] 33 (0, 0)) := by have := World.alloc_heap_new (w.alloc (.cells #[.int .i64 t, v] 33)) (.cells #[.int .i64 0, .slice none 0 0] 33); rwa [World.size_alloc] at this
  have hk3 : ((w.alloc (.cells #[.int .i64 t, v] 33)).alloc (.cells #[.int .i64 0, .slice none 0 0] 33)).drew.heap.size = w.heap.size + 2 := by simp
  have HK1 := Lib.hid hk1
  have HK2 := Lib.hid hk2
  have HK3 := Lib.hid hk3
  clear hk1 hk2 hk3
  go_region_law (first
    | (go_simp; go_at_call 103; (refine (HC.out _ HA2.out).mono ?_; rintro e w5 ⟨v5, rfl, hown5, hb5⟩; obtain ⟨a5, c5, rfl, ho, hc5, hblk, hf1, hf2, hg1, hg2, hB5, hN5⟩ := own_facts HA2.out HK1.out HK2.out HK3.out hown5 hb5; have HO5 := Lib.hid ho; have HL5 := Lib.hid hblk; have HB5 := Lib.hid hB5; have HN5 := Lib.hid hN5; clear hown5 hb5 hblk hB5 hN5 ho))
    | fail)
  all_goals
    go_wp2
    obtain ⟨g0, g1, o, hb⟩ := fld_end (a := .int .i64 t) (b := .slice a5 l.length c5) HL5.out HO5.out HN5.out HB5.out (by omega)
    generalize (w5.setCell ⟨w.heap.size + 1, 0, none⟩ (.int .i64 t)).setCell ⟨w.heap.size + 1, 1, none⟩ (.slice a5 l.length c5) = W at *
    exact bodyPost_ret (v := .agg #[.int .i64 t, .slice a5 l.length c5]) (by simp [results, Try.results123, go_sem, g0, g1]) rfl ⟨_, rfl, o, hb⟩
end Go.Proofs.Yteaeedhhdnkldaa
