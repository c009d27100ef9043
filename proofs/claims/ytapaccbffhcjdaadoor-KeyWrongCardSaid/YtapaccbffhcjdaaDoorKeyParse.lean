/-
  CONTRACT of key.Parse: the key with a text; nothing that was there is written.
-/
import Derived.Test.YtapaccbffhcjdaaDoorKeyText
namespace Go.Proofs.YtapaccbffhcjdaaDoor
open Go.RowKit Go.Shelf

attribute [local go_sem] Oper.semAt_some
attribute [-go_sem] run_index_string

def tx (s : List UInt8) : Nat → List UInt8
  | 0 => (piecesL s).1
  | 1 => (piecesL s).2.1
  | _ => (piecesL s).2.2
def mostN : Nat → Nat
  | 0 => 281474976710656
  | 1 => 16
  | _ => 4294967295
theorem mostP_nat : ∀ i : Nat, mostP i = (mostN i : Int)
  | 0 => rfl
  | 1 => rfl
  | _ + 2 => rfl
theorem mostN_le (i : Nat) : mostN i ≤ 281474976710656 := by
  unfold mostN
  split <;> omega
theorem textOk_all (s : List UInt8) : textOk s ↔ ∀ i, i < 3 → numOk (tx s i) (mostN i) := by
  constructor
  · rintro ⟨h0, h1, h2⟩ i hi
    obtain rfl | rfl | rfl : i = 0 ∨ i = 1 ∨ i = 2 := by omega
    · exact h0
    · exact h1
    · exact h2
  · intro h
    exact ⟨h 0 (by omega), h 1 (by omega), h 2 (by omega)⟩
theorem tx_len (s : List UInt8) (i : Nat) : (tx s i).length ≤ s.length := by
  have h1 := cutC_le 64 s
  have h2 := cutC_le 35 (cutC 64 s).2.1
  unfold tx piecesL
  split
  · exact h1.1
  · exact Nat.le_trans h2.1 h1.2
  · exact Nat.le_trans h2.2 h1.2
/-- What is read of the first i texts, and of a part of the next one. -/
def fldD (s : List UInt8) (i x j : Nat) : Nat := if j < i then decV (tx s j) else if j = i then x else 0
def keyD (s : List UInt8) (i x : Nat) : Ky := ((fldD s i x 0 : Int), (fldD s i x 1 : Int), (fldD s i x 2 : Int))
theorem keyD_fld (s : List UInt8) (i x : Nat) (hi : i < 3) : fldK (keyD s i x) i = (x : Int) := by
  obtain rfl | rfl | rfl : i = 0 ∨ i = 1 ∨ i = 2 := by omega
  all_goals simp [fldK, keyD, fldD]
theorem keyD_set (s : List UInt8) (i x y : Nat) (hi : i < 3) (W : World) (K : Nat) (h : KAt W K (keyD s i x)) : KAt (W.setCell ⟨K, i, none⟩ (.int .i64 (y : Int))) K (keyD s i y) := by
  unfold KAt at h ⊢
  obtain ⟨hlt, hk⟩ := Array.getElem?_eq_some_iff.1 h
  show (W.heap.modify K _)[K]? = _
  rw [Array.getElem?_eq_getElem (by rw [Array.size_modify]; exact hlt), Array.getElem_modify_self, hk]
  obtain rfl | rfl | rfl : i = 0 ∨ i = 1 ∨ i = 2 := by omega
  all_goals rfl
theorem keyD_next (s : List UInt8) (i : Nat) (hi : i < 3) : keyD s i (decV (tx s i)) = keyD s (i + 1) 0 := by
  obtain rfl | rfl | rfl : i = 0 ∨ i = 1 ∨ i = 2 := by omega
  all_goals simp [keyD, fldD]
theorem keyD_done (s : List UInt8) : keyD s 3 0 = keyT s := by
  unfold keyD keyT fldD
  simp [tx]
/-- The block holds the three texts. -/
def TAt (W : World) (b : Nat) (s : List UInt8) : Prop := W.heap[b]? = some (.cells #[.string ⟨(tx s 0).toArray⟩, .string ⟨(tx s 1).toArray⟩, .string ⟨(tx s 2).toArray⟩] 94 (0, 0))
theorem TAt.cell {W : World} {b : Nat} {s : List UInt8} (h : TAt W b s) (i : Nat) (hi : i < 3) : W.cell? ⟨b, i, none⟩ = some (.string ⟨(tx s i).toArray⟩) := by
  unfold TAt at h
  obtain rfl | rfl | rfl : i = 0 ∨ i = 1 ∨ i = 2 := by omega
  all_goals simp [World.cell?, h]
theorem TAt.lt {W : World} {b : Nat} {s : List UInt8} (h : TAt W b s) : b < W.heap.size := (Array.getElem?_eq_some_iff.1 h).1
theorem tat_own (b : Nat) (s : List UInt8) : Own (fun (_ : Nat) (W : World) => TAt W b s) := fun _ X Y row hs hg hrow =>
  (hg.block b (Array.getElem?_eq_some_iff.1 hs).1 (fun e => by obtain ⟨o, ho, hc⟩ := hrow b e.symm; unfold TAt at hs; rw [hs] at ho; cases ho; cases hc)).trans hs

theorem decV_take (l : List UInt8) (k : Nat) : decV (l.take k) ≤ decV l := by
  have key : ∀ (l : List UInt8) (a : Nat), a ≤ l.foldl (fun a c => a * 10 + (c.toNat - 48)) a := by
    intro l
    induction l with
    | nil => intro a; exact Nat.le_refl _
    | cons c l ih => intro a; exact Nat.le_trans (show a ≤ a * 10 + (c.toNat - 48) by omega) (ih _)
  have h := key (l.drop k) (decV (l.take k))
  unfold decV at h ⊢
  rw [← List.foldl_append, List.take_append_drop] at h
  exact h
theorem string_indexK (s : List UInt8) (k : Nat) (hk : k < s.length) (W : World) : (Instr.index 9 (.string ⟨s.toArray⟩) (.int .i64 (k : Int))).run Tryd.prog W = .ok (.int .u8 ((s.getD k 0).toNat : Int)) W := by
  have h1 : (0 : Int) ≤ (k : Int) ∧ (k : Int) < ((⟨s.toArray⟩ : ByteArray).size : Int) := ⟨by omega, by simp [ByteArray.size]; exact hk⟩
  rw [run_index_string W 9 ⟨s.toArray⟩ .i64 (k : Int) Tryd.underlying9, dif_pos h1]
  congr 2
  rw [List.getD_eq_getElem?_getD, List.getElem?_eq_getElem hk]
  rfl

set_option maxRecDepth 100000 in
set_option maxHeartbeats 2000000 in
theorem parseK_in (n : Nat) (hn : 5 ≤ n) (s : List UInt8) (w : World) (hl : s.length ≤ 1000000) :
    CallsIn Fence.wide n Tryd.prog 20 #[.string ⟨s.toArray⟩] w fun e W' => ((textOk s ∧ e = .returned (.tuple #[.agg #[.int .i64 (keyT s).1, .int .i64 (keyT s).2.1, .int .i64 (keyT s).2.2], .int .i64 0])) ∨ (¬ textOk s ∧ e = .returned (.tuple #[.agg #[.int .i64 0, .int .i64 0, .int .i64 0], .int .i64 72]))) ∧ Below w.heap.size w W' := by
  have h1 : 1 ≤ n := by omega
  have HC1 := Lib.hid (fun W => cutK_calls s 64 W (by omega))
  have HC2 := Lib.hid (fun W => cutK_calls (cutC 64 s).2.1 35 W (by have := (cutC_le 64 s).2; omega))
  have HT := Lib.hid (show tx s 0 = (cutC 64 s).1 ∧ tx s 1 = (cutC 35 (cutC 64 s).2.1).1 ∧ tx s 2 = (cutC 35 (cutC 64 s).2.1).2.1 from ⟨rfl, rfl, rfl⟩)
  have HL := Lib.hid (fun i => Nat.le_trans (tx_len s i) hl)
  generalize (cutC 64 s).1 = x0 at *
  generalize (cutC 64 s).2.2 = x3 at *
  generalize (cutC 64 s).2.1 = x4 at *
  generalize (cutC 35 x4).1 = x1 at *
  generalize (cutC 35 x4).2.2 = x5 at *
  generalize (cutC 35 x4).2.1 = x2 at *
  refine callsIn_of_wp_marks Tryd.func20 rfl trivial ?_ rfl
  simp only [Tryd.ntmps20, List.size_toArray, List.length_cons, List.length_nil, Nat.reduceAdd, Nat.reduceSub, Array.replicate_succ, Array.replicate_zero, List.push_toArray, List.append_toArray, List.nil_append, List.cons_append]
  gi_wp2_with fail
  refine wpIn_wide.2 (wp_scope_straight ((wpIn_wide (n := n)).1 ?_))
  gi_wp2_with fail
  refine ⟨trivial, ?_⟩
  refine (callsIn_wide.2 (HC1.out _)).mono ?_
  rintro e w1 ⟨rfl, hb1⟩
  have HB1 := Lib.hid (((Below.refl _ w).alloc (Nat.le_refl _) (.cells #[.int .i64 0, .int .i64 0, .int .i64 0] 23)).trans (hb1.mono (by simp)))
  have HR1 := Lib.hid (show KAt w1 w.heap.size (0, 0, 0) from (hb1.block _ (by simp)).trans (World.alloc_heap_new w _))
  clear hb1
  gi_wp2_with fail
  refine ⟨trivial, ?_⟩
  refine (callsIn_wide.2 (HC2.out _)).mono ?_
  rintro e w2 ⟨rfl, hb2⟩
  have HB2 := Lib.hid (HB1.out.trans (hb2.mono HB1.out.size))
  have HR2 := Lib.hid (show KAt w2 w.heap.size (0, 0, 0) from (hb2.block _ HR1.out.lt).trans HR1.out)
  clear hb2
  rw [← HT.out.1, ← HT.out.2.1, ← HT.out.2.2]
  have hz0 : w.heap.size < w2.heap.size := HR2.out.lt
  have HZ0 := Lib.hid hz0
  clear hz0
  gi_wp2_with fail
  apply wpIn_label
  gi_wp2_with (refine ⟨trivial, ?_⟩; gi_at_call 54; refine (partsK_in (n - 1) (w2.heap.size + 1) _).mono ?_; rintro e w' ⟨rfl, rfl⟩)
  obtain ⟨W0, hW0⟩ : ∃ W0, W0 = ((((w2.alloc (.cells #[.string ⟨(tx s 0).toArray⟩, .string ⟨(tx s 1).toArray⟩, .string ⟨(tx s 2).toArray⟩] 94)).alloc (.cells #[.int .i64 0, .int .i64 0, .int .i64 0] 23)).alloc (.cells #[.bool true] 4)).alloc (.cells #[.pointer (some ⟨w2.heap.size + 1, 0, none⟩)] 86)) := ⟨_, rfl⟩
  have hs0 : W0.heap.size = w2.heap.size + 4 := by rw [hW0]; simp
  have r0 : KAt W0 w.heap.size (0, 0, 0) := by
    have := HZ0.out
    rw [hW0]; exact ((((Below.heap_alloc _ _ _ (by simp; omega)).trans (Below.heap_alloc _ _ _ (by simp; omega))).trans (Below.heap_alloc _ _ _ (by simp; omega))).trans (Below.heap_alloc _ _ _ (by omega))).trans HR2.out
  have t0 : TAt W0 w2.heap.size s := by
    rw [hW0]; exact (((Below.heap_alloc _ _ _ (by simp; omega)).trans (Below.heap_alloc _ _ _ (by simp; omega))).trans (Below.heap_alloc _ _ _ (by simp))).trans (World.alloc_heap_new w2 _)
  have k0 : KAt W0 (w2.heap.size + 1) (keyD s 0 0) := by
    have := World.alloc_heap_new (w2.alloc (.cells #[.string ⟨(tx s 0).toArray⟩, .string ⟨(tx s 1).toArray⟩, .string ⟨(tx s 2).toArray⟩] 94)) (.cells #[.int .i64 0, .int .i64 0, .int .i64 0] 23)
    rw [World.size_alloc] at this
    rw [hW0]; exact ((Below.heap_alloc _ _ _ (by simp)).trans (Below.heap_alloc _ _ _ (by simp))).trans this
  have b1 : Boxed W0 (w2.heap.size + 1 + 1) 4 (.bool true) := by
    have := Boxed.new ((w2.alloc (.cells #[.string ⟨(tx s 0).toArray⟩, .string ⟨(tx s 1).toArray⟩, .string ⟨(tx s 2).toArray⟩] 94)).alloc (.cells #[.int .i64 0, .int .i64 0, .int .i64 0] 23)) 4 (.bool true)
    rw [World.size_alloc, World.size_alloc] at this
    rw [hW0]; exact this.alloc _
  have b2 : Boxed W0 (w2.heap.size + 1 + 1 + 1) 86 (.pointer (some ⟨w2.heap.size + 1, 0, none⟩)) := by
    have := Boxed.new (((w2.alloc (.cells #[.string ⟨(tx s 0).toArray⟩, .string ⟨(tx s 1).toArray⟩, .string ⟨(tx s 2).toArray⟩] 94)).alloc (.cells #[.int .i64 0, .int .i64 0, .int .i64 0] 23)).alloc (.cells #[.bool true] 4)) 86 (.pointer (some ⟨w2.heap.size + 1, 0, none⟩))
    rw [World.size_alloc, World.size_alloc, World.size_alloc] at this
    rw [hW0]; exact this
  have hB0 : Below w.heap.size w W0 := by
    have := HZ0.out
    rw [hW0]; exact (((HB2.out.alloc (by omega) _).alloc (by simp; omega) _).alloc (by simp; omega) _).alloc (by simp; omega) _
  rw [← hW0]
  clear hW0
  refine wpIn_rangeTied (encs := encP (w2.heap.size + 1)) (N := 3) rfl h1 (gf := 80) (lb := #[.pointer (some ⟨w2.heap.size + 1 + 1 + 1, 0, none⟩)]) rfl trivial (enters_of Tryd.func80 (by kernel_rfl) rfl)
    (partsK_tied (n - 1) (by omega) (w2.heap.size + 1 + 1 + 1) (w2.heap.size + 1)) (fun W hb => (hb.block _ (by omega)).trans b2) (fun _ => rfl)
    (fun i W => ((((∀ j, j < i → numOk (tx s j) (mostN j)) ∧ KAt W w.heap.size (0, 0, 0)) ∧ (TAt W w2.heap.size s ∧ KAt W (w2.heap.size + 1) (keyD s i 0))) ∧ Boxed W (w2.heap.size + 1 + 1) 4 (.bool true)) ∧ Below w.heap.size w W)
    (fun c _ W => (((c = .exit 0 ∧ ¬ textOk s) ∧ KAt W w.heap.size (0, 0, 0)) ∧ Boxed W (w2.heap.size + 1 + 1) 4 (.bool false)) ∧ Below w.heap.size w W)
    (OwnFrom.and (OwnFrom.and (OwnFrom.and (OwnFrom.and (ownFrom_pure _ _) (Own.from (kat_own _ _) _)) (OwnFrom.and (Own.from (tat_own _ _) _) (Own.from (fun i X Y row hs hg hr => kat_own _ (keyD s i 0) 0 X Y row hs hg hr) _))) (Own.from (boxed_own _ _ (fun _ : Nat => _)) _)) (ownFrom_below (Nat.le_refl _) (by have := HZ0.out; omega)))
    (fun _ => OwnFrom.and (OwnFrom.and (OwnFrom.and (ownFrom_pure _ _) (Own.from (kat_own _ _) _)) (Own.from (boxed_own _ _ (fun _ : Nat => _)) _)) (ownFrom_below (Nat.le_refl _) (by have := HZ0.out; omega)))
    ⟨⟨⟨⟨fun j hj => by omega, r0⟩, t0, k0⟩, b1⟩, hB0⟩
    (fun i a W => ∃ p, a = { tmps := #[.string ⟨s.toArray⟩, undef, .pointer (some ⟨w.heap.size, 0, none⟩), .int .i64 0, .string ⟨(tx s 0).toArray⟩, .string ⟨x4.toArray⟩, .bool x3, .string ⟨(tx s 1).toArray⟩, .string ⟨(tx s 2).toArray⟩, .bool x5, .pointer (some ⟨w2.heap.size, 0, none⟩), .pointer (some ⟨w2.heap.size + 1, 0, none⟩), .pointer (some ⟨w2.heap.size + 1 + 1, 0, none⟩), .int .i64 (i : Int), .pointer (some ⟨p, 0, none⟩), undef, undef, .tuple #[.string ⟨(tx s 0).toArray⟩, .string ⟨x4.toArray⟩, .bool x3], .string ⟨s.toArray⟩, .tuple #[.string ⟨(tx s 0).toArray⟩, .string ⟨x4.toArray⟩, .bool x3], .string ⟨(tx s 0).toArray⟩, .string ⟨x4.toArray⟩, .bool x3, .tuple #[.string ⟨(tx s 1).toArray⟩, .string ⟨(tx s 2).toArray⟩, .bool x5], .string ⟨x4.toArray⟩, .tuple #[.string ⟨(tx s 1).toArray⟩, .string ⟨(tx s 2).toArray⟩, .bool x5], .string ⟨(tx s 1).toArray⟩, .string ⟨(tx s 2).toArray⟩, .bool x5, .string ⟨(tx s 0).toArray⟩, .string ⟨(tx s 1).toArray⟩, .string ⟨(tx s 2).toArray⟩, .agg #[.string ⟨(tx s 0).toArray⟩, .string ⟨(tx s 1).toArray⟩, .string ⟨(tx s 2).toArray⟩], .func (.func 80) #[] #[.pointer (some ⟨w2.heap.size + 1 + 1 + 1, 0, none⟩)], .int .i64 (i : Int), .agg #[.pointer (some ⟨w2.heap.size + 1, i, none⟩), .int .i64 (mostP i), .int .i64 (sizeP i)], undef, undef, undef, undef, undef, undef, undef, undef, undef, undef, undef, undef, undef, undef, undef, undef, undef, undef, undef, undef, undef, undef, undef, undef, undef, undef, undef, undef, undef, undef, undef, undef, undef, undef, undef, undef, undef, undef, undef, undef, undef, undef, undef, undef, undef], defers := [] } ∧ PAt W p (w2.heap.size + 1) i)
    (fun i a => fun s X Y row hs hg hrow => by obtain ⟨p, e, hp⟩ := hs; exact ⟨p, e, (Own.from (pat_own p (w2.heap.size + 1) i) _) () X Y row hp hg hrow⟩)
    ?assign ?body ?done ?stop
  case assign =>
    rintro l0 i W K hi ⟨⟨⟨⟨hok, hr⟩, ht, hk⟩, hb⟩, hB⟩ hK
    have HK := Lib.hid hK
    have HI := Lib.hid (And.intro (And.intro (And.intro (And.intro hok hr) (And.intro ht hk)) hb) hB)
    clear hK hok hr ht hk hb hB b1 b2 hB0 k0 r0 t0
    simp only [encP]
    gi_wp2
    have hg := World.grownBy_alloc W (.cells #[.pointer (some ⟨w2.heap.size + 1, i, none⟩), .int .i64 (mostP i), .int .i64 (sizeP i)] 89) none
    obtain ⟨⟨⟨⟨hok, hr⟩, ht, hk⟩, hb⟩, hB⟩ := HI.out
    exact HK.out _ _ (keepsFrom_grown hg) ⟨⟨⟨⟨hok, (hg.block _ hr.lt (by simp)).trans hr⟩, (hg.block _ ht.lt (by simp)).trans ht, (hg.block _ hk.lt (by simp)).trans hk⟩, hb.alloc _⟩, hB.alloc hB.size _⟩ ⟨_, rfl, World.alloc_heap_new W _⟩
  case body =>
    rintro l0 i a' W hi ⟨⟨⟨⟨hok, hr⟩, ht, hk⟩, hb⟩, hB⟩ ⟨p, rfl, hp⟩
    have HOk := Lib.hid hok; have HR := Lib.hid hr; have HTT := Lib.hid ht; have HK := Lib.hid hk; have HBX := Lib.hid hb; have HB := Lib.hid hB; have HP := Lib.hid hp
    have c1 := ht.cell i hi
    have HBg := Lib.hid (fun W => begun_calls (tx s i) W)
    have z1 : (0 : Int) ≤ (i : Int) := by omega
    have z2 : (i : Int) < 3 := by omega
    clear hok hr ht hk hb hB hp b1 b2 hB0 k0 r0 t0 hs0
    gi_wp2_with fail
    refine ⟨trivial, (fun h => by cases h), ?_⟩
    refine CallsIn.mono (show CallsIn (Fence.wide.inRound l0) _ _ _ _ _ _ from callsIn_wide.2 (HBg.out _)) ?_
    rintro e w3 ⟨rfl, rfl⟩
    have HNot := Lib.hid (fun (hn : ¬ numOk (tx s i) (mostN i)) => show ¬ textOk s from fun h => hn ((textOk_all s).1 h i hi))
    have hxb := HBX.out.cell
    have hxf := HBX.out.frozen
    by_cases hbg : begunL (tx s i) = false
    · have HN := Lib.hid (show ¬ numOk (tx s i) (mostN i) from fun h => by rw [h.1] at hbg; cases hbg)
      rw [hbg]
      clear hbg
      gi_wp2_with fail
      exact ⟨(KeepsOthers.setCell W ⟨w2.heap.size + 1 + 1, 0, none⟩ (.bool false)).from _, ⟨⟨⟨rfl, HNot.out HN.out⟩, (Below.heap_setCell _ _ _ _ (by have := HZ0.out; simp; omega)).trans HR.out⟩, HBX.out.set _⟩, HB.out.setCell (p := ⟨w2.heap.size + 1 + 1, 0, none⟩) (by have := HZ0.out; simp; omega) _⟩
    · have hbt : begunL (tx s i) = true := by simpa using hbg
      have HBt := Lib.hid hbt
      rw [hbt]
      clear hbg hbt
      have hsz : (⟨(tx s i).toArray⟩ : ByteArray).size = (tx s i).length := by simp [ByteArray.size]
      obtain ⟨L, hL⟩ : ∃ L, (tx s i).length = L := ⟨_, rfl⟩
      rw [hL] at hsz
      have HLen := Lib.hid hL
      have hL6 : L ≤ 1000000 := by rw [← hL]; exact HL.out i
      clear hL
      gi_wp2_with fail
      gi_loopw [15, 16, 45] (fun jv cv iv wr => ∃ k x : Nat, k ≤ L ∧ iv = .int .i64 (k : Int) ∧ ((∀ c ∈ (tx s i).take k, digit c = true) ∧ x = decV ((tx s i).take k) ∧ x ≤ mostN i) ∧ ((KAt wr w.heap.size (0, 0, 0) ∧ TAt wr w2.heap.size s ∧ KAt wr (w2.heap.size + 1) (keyD s i x)) ∧ Boxed wr (w2.heap.size + 1 + 1) 4 (.bool true)) ∧ ((Below w.heap.size w wr ∧ KeepsFrom W0.heap.size W wr) ∧ PAt wr p (w2.heap.size + 1) i)) (fun _ _ iv _ => L - (intOf iv).toNat)
      case atStart => exact ⟨0, 0, by omega, rfl, ⟨by simp, rfl, by omega⟩, ⟨⟨HR.out, HTT.out, HK.out⟩, HBX.out⟩, ⟨HB.out, keepsFrom_below (Below.refl _ _)⟩, HP.out⟩
      case round =>
        obtain ⟨k, x, hk, rfl, ⟨hdg, hx, hxm⟩, ⟨⟨hr, htt, hka⟩, hbx⟩, ⟨hB, hkf⟩, hp⟩ := hrel
        have HKF := Lib.hid hkf; have HDG := Lib.hid hdg
        have HR2 := Lib.hid hr; have HT2 := Lib.hid htt; have HK2 := Lib.hid hka; have HBX2 := Lib.hid hbx; have HB2 := Lib.hid hB; have HP2 := Lib.hid hp; have HX := Lib.hid hx; have HXM := Lib.hid hxm
        obtain ⟨p0', p1', p2'⟩ := hp.cells
        obtain ⟨c0', f0'⟩ := hka.cells i hi
        rw [keyD_fld s i x hi] at c0'
        rw [mostP_nat] at p1'
        have ht' := htt.cell i hi
        have hxb' := hbx.cell
        have hxf' := hbx.frozen
        clear hr htt hka hbx hB hp hx hkf hdg hxm hxb hxf c1 HR HK HBX HB HP HTT
        by_cases hlt : k < L
        · have hlt' : (k : Int) < (L : Int) := by omega
          have HLT := Lib.hid hlt
          obtain ⟨d, hd⟩ : ∃ d, (tx s i).getD k 0 = d := ⟨_, rfl⟩
          have HD := Lib.hid hd
          have hidx := fun W => string_indexK (tx s i) k (by rw [HLen.out]; exact hlt) W
          rw [hd] at hidx
          obtain ⟨e, he⟩ : ∃ e : Nat, (d.toNat + 208) % 256 = e := ⟨_, rfl⟩
          have HE := Lib.hid he
          have hwe : IntKind.u8.wrap ((d.toNat : Int) - 48) = (e : Int) := by have := d.toNat_lt; rw [IntKind.wrap_u8]; omega
          clear hd he hlt
          obtain ⟨y1, hy1⟩ : ∃ y1 : Int, ((x * 10 : Nat) : Int) = y1 := ⟨_, rfl⟩
          obtain ⟨y2, hy2⟩ : ∃ y2 : Int, ((x * 10 + e : Nat) : Int) = y2 := ⟨_, rfl⟩
          have he8 : e < 256 := by have := HE.out; omega
          obtain ⟨ha, hor⟩ : IntKind.i64.wrap ((x : Int) * 10) = y1 ∧ IntKind.i64.wrap (y1 + (e : Int)) = y2 := by
            have := mostN_le i
            have := HXM.out
            subst hy1 hy2
            exact ⟨by rw [IntKind.wrap_i64]; omega, by rw [IntKind.wrap_i64]; omega⟩
          have hwd : IntKind.i64.wrap (e : Int) = (e : Int) := by rw [IntKind.wrap_i64]; omega
          gi_wp2_with fail
          refine wpIn_region_bools (by kernel_rfl) (by kernel_rfl) (fun B => { tmps := #[.string ⟨s.toArray⟩, undef, .pointer (some ⟨w.heap.size, 0, none⟩), .int .i64 0, .string ⟨(tx s 0).toArray⟩, .string ⟨x4.toArray⟩, .bool x3, .string ⟨(tx s 1).toArray⟩, .string ⟨(tx s 2).toArray⟩, .bool x5, .pointer (some ⟨w2.heap.size, 0, none⟩), .pointer (some ⟨w2.heap.size + 1, 0, none⟩), .pointer (some ⟨w2.heap.size + 1 + 1, 0, none⟩), .int .i64 (i : Int), .pointer (some ⟨p, 0, none⟩), .int .i64 (k : Int), .int .u8 (e : Int), .tuple #[.string ⟨(tx s 0).toArray⟩, .string ⟨x4.toArray⟩, .bool x3], .string ⟨s.toArray⟩, .tuple #[.string ⟨(tx s 0).toArray⟩, .string ⟨x4.toArray⟩, .bool x3], .string ⟨(tx s 0).toArray⟩, .string ⟨x4.toArray⟩, .bool x3, .tuple #[.string ⟨(tx s 1).toArray⟩, .string ⟨(tx s 2).toArray⟩, .bool x5], .string ⟨x4.toArray⟩, .tuple #[.string ⟨(tx s 1).toArray⟩, .string ⟨(tx s 2).toArray⟩, .bool x5], .string ⟨(tx s 1).toArray⟩, .string ⟨(tx s 2).toArray⟩, .bool x5, .string ⟨(tx s 0).toArray⟩, .string ⟨(tx s 1).toArray⟩, .string ⟨(tx s 2).toArray⟩, .agg #[.string ⟨(tx s 0).toArray⟩, .string ⟨(tx s 1).toArray⟩, .string ⟨(tx s 2).toArray⟩], .func (.func 80) #[] #[.pointer (some ⟨w2.heap.size + 1 + 1 + 1, 0, none⟩)], .int .i64 (i : Int), .agg #[.pointer (some ⟨w2.heap.size + 1, i, none⟩), .int .i64 (mostP i), .int .i64 (sizeP i)], .int .i64 (i : Int), .pointer (some ⟨w2.heap.size, i, none⟩), .string ⟨(tx s i).toArray⟩, .bool true, .bool false, .int .i64 (i : Int), .pointer (some ⟨w2.heap.size, i, none⟩), .string ⟨(tx s i).toArray⟩, .int .i64 (L : Int), .int .i64 (k : Int), .bool true, .int .i64 (k : Int), .int .i64 (i : Int), .pointer (some ⟨w2.heap.size, i, none⟩), .string ⟨(tx s i).toArray⟩, .int .i64 (k : Int), .int .u8 (d.toNat : Int), .int .u8 (e : Int), bif B 0 then .pointer (some ⟨p, 0, none⟩) else u54, bif B 1 then .pointer (some ⟨w2.heap.size + 1, i, none⟩) else u55, bif B 2 then .pointer (some ⟨p, 0, none⟩) else u56, bif B 3 then .pointer (some ⟨w2.heap.size + 1, i, none⟩) else u57, bif B 4 then .pointer (some ⟨w2.heap.size + 1, i, none⟩) else u58, bif B 5 then .int .i64 (x : Int) else u59, bif B 6 then .int .i64 y1 else u60, bif B 7 then .int .u8 (e : Int) else u61, bif B 8 then .int .i64 (e : Int) else u62, bif B 9 then .int .i64 y2 else u63, bif B 10 then .pointer (some ⟨w2.heap.size + 1, i, none⟩) else u64, u65, u66, u67, u68, u69, u70, u71, u72, u73, u74, u75, u76, undef, undef, undef, undef], defers := [] }) (fun B => bif B 11 then wr.drew.setCell ⟨w2.heap.size + 1, i, none⟩ (.int .i64 y2) else wr.drew) rfl rfl ?step ?fin
          case step =>
            intro B j hj hbj hcl hw K hK
            have hcl11 := hcl 11 (by decide)
            clear hcl
            have hj : j < 12 := hj
            obtain rfl | rfl | rfl | rfl | rfl | rfl | rfl | rfl | rfl | rfl | rfl | rfl : j = 0 ∨ j = 1 ∨ j = 2 ∨ j = 3 ∨ j = 4 ∨ j = 5 ∨ j = 6 ∨ j = 7 ∨ j = 8 ∨ j = 9 ∨ j = 10 ∨ j = 11 := by omega
            all_goals (simp [waits, Region.binds] at hw)
            iterate 11
              · have h11 : B 11 = false := by
                  cases h : B 11 with
                  | false => rfl
                  | true => have h2 := hcl11 h; simp [waits, Region.binds, hbj] at h2
                clear hcl11 hj
                simp [upd, h11, hw] at hK
                refine wpOpIn_step rfl ?_
                intro K' hK'
                simp only [h11, hw, cond_true, cond_false]
                go_simp
                exact hK' _ _ hK
            · clear hcl11 hj
              simp [upd, hw] at hK
              refine wpOpIn_step rfl ?_
              intro K' hK'
              simp only [hbj, hw, cond_true, cond_false]
              go_simp
              exact hK' _ _ hK
          case fin =>
            intro B hB
            have hB' : ∀ j, j < 12 → B j = true := hB
            have HPne := Lib.hid (show p ≠ w2.heap.size + 1 by
              rintro rfl
              have h1 := HP2.out
              have h2 := HK2.out
              unfold PAt at h1
              unfold KAt at h2
              rw [h1] at h2
              cases h2)
            have HW := Lib.hid hy2
            simp only [hB' 0 (by decide), hB' 1 (by decide), hB' 2 (by decide), hB' 3 (by decide), hB' 4 (by decide), hB' 5 (by decide), hB' 6 (by decide), hB' 7 (by decide), hB' 8 (by decide), hB' 9 (by decide), hB' 10 (by decide), hB' 11 (by decide), cond_true]
            obtain ⟨W1, hW1⟩ : ∃ W1, W1 = wr.drew.setCell ⟨w2.heap.size + 1, i, none⟩ (.int .i64 y2) := ⟨_, rfl⟩
            have hz := HZ0.out
            have HR3 := Lib.hid (show KAt W1 w.heap.size (0, 0, 0) from by rw [hW1]; exact (Below.heap_setCell _ _ _ _ (by simp; omega)).trans HR2.out)
            have HT3 := Lib.hid (show TAt W1 w2.heap.size s from by rw [hW1]; exact (Below.heap_setCell _ _ _ _ (by simp)).trans HT2.out)
            have HK3 := Lib.hid (show KAt W1 (w2.heap.size + 1) (keyD s i (x * 10 + e)) from by rw [hW1, ← HW.out]; exact keyD_set s i x _ hi _ _ HK2.out)
            have HX3 := Lib.hid (show Boxed W1 (w2.heap.size + 1 + 1) 4 (.bool true) from by rw [hW1]; exact (Below.heap_setCell _ _ _ _ (by simp)).trans HBX2.out)
            have HB3 := Lib.hid (show Below w.heap.size w W1 from by rw [hW1]; exact (HB2.out.drew).setCell (p := ⟨w2.heap.size + 1, i, none⟩) (by simp; omega) _)
            have HKF3 := Lib.hid (show KeepsFrom W0.heap.size W W1 from by rw [hW1]; exact HKF.out.trans ⟨(keepsFrom_set W0.heap.size wr ⟨w2.heap.size + 1, i, none⟩ (.int .i64 y2)).size, (keepsFrom_set W0.heap.size wr ⟨w2.heap.size + 1, i, none⟩ (.int .i64 y2)).same⟩)
            have HP3 := Lib.hid (show PAt W1 p (w2.heap.size + 1) i from by rw [hW1]; exact (Below.heap_setCell _ _ _ _ (by simp; exact HPne.out)).trans HP2.out)
            rw [← hW1]
            clear hW1 hz
            obtain ⟨p0'', p1'', p2''⟩ := HP3.out.cells
            obtain ⟨c0'', f0''⟩ := HK3.out.cells i hi
            rw [keyD_fld s i _ hi, HW.out] at c0''
            rw [mostP_nat] at p1''
            have hxb2 := HX3.out.cell
            have hxf2 := HX3.out.frozen
            clear p0' p1' p2' c0' f0' hxb' hxf' ht' hB hB' hy1 hy2 ha hor hidx hwe
            have HTake := Lib.hid (show (tx s i).take (k + 1) = (tx s i).take k ++ [d] by
              have hkl : k < (tx s i).length := by rw [HLen.out]; exact HLT.out
              rw [List.take_succ_eq_append_getElem hkl, ← HD.out, List.getD_eq_getElem?_getD, List.getElem?_eq_getElem hkl]
              rfl)
            by_cases h9 : 9 < e
            · have HN := Lib.hid (show ¬ numOk (tx s i) (mostN i) from fun h => by
                have hm : d ∈ tx s i := List.mem_of_mem_take (i := k + 1) (by rw [HTake.out]; simp)
                have h1 := of_decide_eq_true (show decide _ = true from h.2.1 d hm)
                have := HE.out
                omega)
              have g1 : decide ((9 : Int) < (e : Int)) = true := decide_eq_true (by omega)
              clear h9
              gi_wp2_with fail
              gi_region
              all_goals (gi_wp2; exact ⟨HKF3.out.trans (keepsFrom_set _ _ _ _), ⟨⟨⟨rfl, HNot.out HN.out⟩, (Below.heap_setCell _ _ _ _ (by have := HZ0.out; simp; omega)).trans HR3.out⟩, HX3.out.set _⟩, (HB3.out.setCell (p := ⟨w2.heap.size + 1 + 1, 0, none⟩) (by have := HZ0.out; simp; omega) _).drew⟩)
            · have g0 : decide ((9 : Int) < (e : Int)) = false := decide_eq_false (by omega)
              by_cases hm : mostN i < x * 10 + e
              · have g2 : decide ((mostN i : Int) < y2) = true := decide_eq_true (by have := HW.out; omega)
                have HN := Lib.hid (show ¬ numOk (tx s i) (mostN i) from fun h => by
                  have h1 := decV_take (tx s i) (k + 1)
                  have h2 : x * 10 + e = decV ((tx s i).take (k + 1)) := by
                    rw [HTake.out, decV_snoc, ← HX.out]
                    have hm2 : d ∈ tx s i := List.mem_of_mem_take (i := k + 1) (by rw [HTake.out]; simp)
                    have h3 := of_decide_eq_true (show decide _ = true from h.2.1 d hm2)
                    have := HE.out
                    omega
                  have := h.2.2
                  omega)
                clear hm h9
                gi_wp2_with fail
                gi_region
                all_goals (gi_wp2; exact ⟨HKF3.out.trans (keepsFrom_set _ _ _ _), ⟨⟨⟨rfl, HNot.out HN.out⟩, (Below.heap_setCell _ _ _ _ (by have := HZ0.out; simp; omega)).trans HR3.out⟩, HX3.out.set _⟩, (HB3.out.setCell (p := ⟨w2.heap.size + 1 + 1, 0, none⟩) (by have := HZ0.out; simp; omega) _).drew⟩)
              · have g2 : decide ((mostN i : Int) < y2) = false := decide_eq_false (by have := HW.out; omega)
                have HRel := Lib.hid (show ∃ k' x' : Nat, k' ≤ L ∧ Value.int .i64 ((k : Int) + 1) = .int .i64 (k' : Int) ∧ ((∀ c ∈ (tx s i).take k', digit c = true) ∧ x' = decV ((tx s i).take k') ∧ x' ≤ mostN i) ∧ ((KAt W1.drew w.heap.size (0, 0, 0) ∧ TAt W1.drew w2.heap.size s ∧ KAt W1.drew (w2.heap.size + 1) (keyD s i x')) ∧ Boxed W1.drew (w2.heap.size + 1 + 1) 4 (.bool true)) ∧ ((Below w.heap.size w W1.drew ∧ KeepsFrom W0.heap.size W W1.drew) ∧ PAt W1.drew p (w2.heap.size + 1) i) from by
                  refine ⟨k + 1, x * 10 + e, HLT.out, by go_num, ?_, ⟨⟨HR3.out, HT3.out, HK3.out⟩, HX3.out⟩, ⟨HB3.out.drew, HKF3.out.trans (keepsFrom_below (Below.refl _ W1).drew)⟩, HP3.out⟩
                  have he1 := HE.out
                  have hd2 : 48 ≤ d.toNat ∧ d.toNat ≤ 57 := by have := d.toNat_lt; omega
                  rw [HTake.out]
                  refine ⟨?_, ?_, by omega⟩
                  · intro c hc
                    rcases List.mem_append.1 hc with h | h
                    · exact HDG.out c h
                    · rw [List.mem_singleton] at h
                      subst h
                      exact decide_eq_true hd2
                  · rw [decV_snoc, ← HX.out]; omega)
                clear hm h9
                gi_wp2_with fail
                gi_region
                all_goals gi_wp2
                all_goals go_roundw
                all_goals first
                  | exact HRel.out
                  | (have := HLT.out; simp [intOf]; omega)
        · obtain rfl : k = L := by omega
          have hnl : ¬ (k : Int) < (k : Int) := by omega
          have HFin := Lib.hid (show KeepsFrom W0.heap.size W wr ∧ ((((∀ j, j < i + 1 → numOk (tx s j) (mostN j)) ∧ KAt wr w.heap.size (0, 0, 0)) ∧ (TAt wr w2.heap.size s ∧ KAt wr (w2.heap.size + 1) (keyD s (i + 1) 0))) ∧ Boxed wr (w2.heap.size + 1 + 1) 4 (.bool true)) ∧ Below w.heap.size w wr from by
            have htk : (tx s i).take k = tx s i := List.take_of_length_le (by rw [HLen.out]; exact Nat.le_refl _)
            have hx2 := HX.out
            have hd2 := HDG.out
            have hk2 := HK2.out
            rw [htk] at hx2 hd2
            rw [hx2, keyD_next s i hi] at hk2
            refine ⟨HKF.out, ⟨⟨⟨fun j hj => ?_, HR2.out⟩, HT2.out, hk2⟩, HBX2.out⟩, HB2.out⟩
            by_cases e : j = i
            · subst e
              exact ⟨HBt.out, hd2, by rw [← hx2]; exact HXM.out⟩
            · exact HOk.out j (by omega))
          gi_wp2
          exact HFin.out
  case done =>
    rintro D W hD ⟨⟨⟨⟨hok, hr⟩, ht, hk⟩, hb⟩, hB⟩ hK
    have HYes := Lib.hid ((textOk_all s).2 hok)
    rw [keyD_done s] at hk
    have HR := Lib.hid hr
    have HB := Lib.hid hB
    have HK := Lib.hid hK
    have HZ := Lib.hid hs0
    have f1 := hb.frozen
    have d1 := hb.cell
    have q0 := (hk.cells 0 (by omega)).1
    have q1 := (hk.cells 1 (by omega)).1
    have q2 := (hk.cells 2 (by omega)).1
    simp only [fldK] at q0 q1 q2
    have r0' := (hr.cells 0 (by omega)).2
    have r1' := (hr.cells 1 (by omega)).2
    have r2' := (hr.cells 2 (by omega)).2
    have s0 := (hr.cells 0 (by omega)).1
    have s1 := (hr.cells 1 (by omega)).1
    have s2 := (hr.cells 2 (by omega)).1
    simp only [fldK] at s0 s1 s2
    have HB2 := Lib.hid (set3_below HB.out (Nat.le_refl _) (.int .i64 (keyT s).1) (.int .i64 (keyT s).2.1) (.int .i64 (keyT s).2.2))
    have HR2' := Lib.hid (kat_set HR.out (keyT s).1 (keyT s).2.1 (keyT s).2.2)
    have HK2 := Lib.hid ((set3_block W w.heap.size (.int .i64 (keyT s).1) (.int .i64 (keyT s).2.1) (.int .i64 (keyT s).2.2) D (by have := HZ.out; have := HZ0.out; omega)).trans HK.out)
    clear hok hr ht hk hb hB hK b1 b2 hB0 k0 r0 t0 hs0
    gi_wp2
    refine ⟨by simp, .inl ⟨_, _, rfl, run_takeDeferred HK2.out, ?_⟩⟩
    have HR3 := (show KAt ((((W.setCell ⟨w.heap.size, 0, none⟩ (.int .i64 (keyT s).1)).setCell ⟨w.heap.size, 1, none⟩ (.int .i64 (keyT s).2.1)).setCell ⟨w.heap.size, 2, none⟩ (.int .i64 (keyT s).2.2)).putObj D (.deferred Option.none)) w.heap.size ((keyT s).1, (keyT s).2.1, (keyT s).2.2) from (World.putObj_heap_other (by have := HZ.out; have := HZ0.out; omega)).trans HR2'.out)
    have v0 := (HR3.cells 0 (by omega)).1
    have v1 := (HR3.cells 1 (by omega)).1
    have v2 := (HR3.cells 2 (by omega)).1
    simp only [fldK] at v0 v1 v2
    refine ⟨.tuple #[.agg #[.int .i64 (keyT s).1, .int .i64 (keyT s).2.1, .int .i64 (keyT s).2.2], .int .i64 0], ?_, .inl ⟨HYes.out, rfl⟩, HB2.out.trans (belowK_b (w := w) (Nat.le_refl _) _ D _ _ (by have := HZ.out; have := HZ0.out; omega) HK2.out rfl rfl)⟩
    simp [results, Tryd.f20, go_sem, v0, v1, v2]
  case stop =>
    rintro D c i W hD hi ⟨⟨⟨⟨rfl, hno⟩, hr⟩, hb⟩, hB⟩ hK
    have HNo := Lib.hid hno
    have HR := Lib.hid hr
    have HB := Lib.hid hB
    have HK := Lib.hid hK
    have HZ := Lib.hid hs0
    have f1 := hb.frozen
    have d1 := hb.cell
    have r0' := (hr.cells 0 (by omega)).2
    have r1' := (hr.cells 1 (by omega)).2
    have r2' := (hr.cells 2 (by omega)).2
    have s0 := (hr.cells 0 (by omega)).1
    have s1 := (hr.cells 1 (by omega)).1
    have s2 := (hr.cells 2 (by omega)).1
    simp only [fldK] at s0 s1 s2
    have HB2 := Lib.hid (set3_below HB.out (Nat.le_refl _) (.int .i64 0) (.int .i64 0) (.int .i64 0))
    have HR2' := Lib.hid (kat_set HR.out 0 0 0)
    have HK2 := Lib.hid ((set3_block W w.heap.size (.int .i64 0) (.int .i64 0) (.int .i64 0) D (by have := HZ.out; have := HZ0.out; omega)).trans HK.out)
    clear hno hr hb hB hK b1 b2 hB0 k0 r0 t0 hs0
    gi_wp2
    refine ⟨by simp, .inl ⟨_, _, rfl, run_takeDeferred HK2.out, ?_⟩⟩
    have HR3 := (show KAt ((((W.setCell ⟨w.heap.size, 0, none⟩ (.int .i64 0)).setCell ⟨w.heap.size, 1, none⟩ (.int .i64 0)).setCell ⟨w.heap.size, 2, none⟩ (.int .i64 0)).putObj D (.deferred Option.none)) w.heap.size (0, 0, 0) from (World.putObj_heap_other (by have := HZ.out; have := HZ0.out; omega)).trans HR2'.out)
    have v0 := (HR3.cells 0 (by omega)).1
    have v1 := (HR3.cells 1 (by omega)).1
    have v2 := (HR3.cells 2 (by omega)).1
    simp only [fldK] at v0 v1 v2
    refine ⟨.tuple #[.agg #[.int .i64 0, .int .i64 0, .int .i64 0], .int .i64 72], ?_, .inr ⟨HNo.out, rfl⟩, HB2.out.trans (belowK_b (w := w) (Nat.le_refl _) _ D _ _ (by have := HZ.out; have := HZ0.out; omega) HK2.out rfl rfl)⟩
    simp [results, Tryd.f20, go_sem, v0, v1, v2]

/-- key.Parse, at any text. -/
theorem parseK_calls (s : List UInt8) (w : World) (hl : s.length ≤ 1000000) :
    Calls Tryd.prog 20 #[.string ⟨s.toArray⟩] w fun e W' => ((textOk s ∧ e = .returned (.tuple #[.agg #[.int .i64 (keyT s).1, .int .i64 (keyT s).2.1, .int .i64 (keyT s).2.2], .int .i64 0])) ∨ (¬ textOk s ∧ e = .returned (.tuple #[.agg #[.int .i64 0, .int .i64 0, .int .i64 0], .int .i64 72]))) ∧ Below w.heap.size w W' :=
  (callsIn_wide (n := 5)).1 (parseK_in 5 (by omega) s w hl)
end Go.Proofs.YtapaccbffhcjdaaDoor
