/-
  CONTRACT of mix.Text: the text of a number; nothing that was there is written.
-/
import Derived.Test.YtnghalhmbjiefaaMixDigits
import Derived.BigRegionIn
import Derived.BigFrameIn
import Derived.BigGuardIn
namespace Go.Proofs.Ytnghalhmbjiefaa
open Go.RowKit Go.Shelf

attribute [local go_sem] Oper.semAt_some
attribute [-go_sem] run_index_string

def lettersB : ByteArray := ⟨#[48, 49, 50, 51, 52, 53, 54, 55, 56, 57, 97, 98, 99, 100, 101, 102, 103, 104, 105, 106, 107, 108, 109, 110, 111, 112, 113, 114, 115, 116, 117, 118]⟩
def U8v (c : UInt8) : Value := .int .u8 (c.toNat : Int)
/-- The array when the digits pre are written. -/
def txt (pre : List (Fin 32)) : List Value := List.replicate (13 - pre.length) (.int .u8 0) ++ (pre.reverse.map fun d => U8v (chr32 d.val))
def txtOk (W : World) (b : Nat) (pre : List (Fin 32)) : Prop := pre.length ≤ 13 ∧ W.heap[b]? = some (.cells (txt pre).toArray 48 (0, 0))

theorem letters_at : ∀ d : Fin 32, lettersB[d.val]? = some (chr32 d.val) := by decide +kernel
theorem letters_index (d : Fin 32) (W : World) : (Instr.index 9 (.string ⟨#[48, 49, 50, 51, 52, 53, 54, 55, 56, 57, 97, 98, 99, 100, 101, 102, 103, 104, 105, 106, 107, 108, 109, 110, 111, 112, 113, 114, 115, 116, 117, 118]⟩) (.int .u64 (d.val : Int))).run Try.prog W = .ok (.int .u8 ((chr32 d.val).toNat : Int)) W := by
  have h1 : (0 : Int) ≤ (d.val : Int) ∧ (d.val : Int) < (lettersB.size : Int) := by
    have : lettersB.size = 32 := rfl
    have := d.isLt
    omega
  show (Instr.index 9 (.string lettersB) (.int .u64 (d.val : Int))).run Try.prog W = _
  rw [run_index_string W 9 lettersB .u64 (d.val : Int) Try.underlying9, dif_pos h1]
  have h2 := letters_at d
  have h3 : d.val < lettersB.size := by have := h1.2; omega
  rw [ByteArray.getElem?_lt' _ _ h3] at h2
  simp only [Option.some.injEq] at h2
  congr 2
  rw [← h2]
  rfl
theorem setCell_row (W : World) (b k : Nat) (c : Array Value) (t : TypeId) (h : W.heap[b]? = some (.cells c t (0, 0))) {v : Value} : (W.setCell ⟨b, k, none⟩ v).heap[b]? = some (.cells (c.setIfInBounds k v) t (0, 0)) := by
  obtain ⟨hlt, hk⟩ := Array.getElem?_eq_some_iff.1 h
  show (W.heap.modify b _)[b]? = _
  rw [Array.getElem?_eq_getElem (by rw [Array.size_modify]; exact hlt), Array.getElem_modify_self, hk]
  rfl
theorem txt_snoc (pre : List (Fin 32)) (d : Fin 32) (k : Nat) (hk : pre.length + k + 1 = 13) : (txt pre).toArray.setIfInBounds k (.int .u8 ((chr32 d.val).toNat : Int)) = (txt (pre ++ [d])).toArray := by
  unfold txt
  have e : 13 - pre.length = k + 1 := by omega
  have e2 : 13 - (pre ++ [d]).length = k := by simp; omega
  rw [e, e2, List.setIfInBounds_toArray]
  congr 1
  rw [List.replicate_succ', List.append_assoc, List.set_append_right _ _ (by simp)]
  simp [U8v]
theorem txt_done (x : Nat) : (txt (lowD x 13)) = (textN x).map U8v := by
  unfold txt textN
  rw [lowD_length, ← lowD_reverse, List.map_map, List.map_map]
  rfl
theorem array_text : Try.prog.underlying 48 = some (.array (Try.prog.arrayLen 48) (Try.prog.elem 48)) := by kernel_rfl
theorem len_text : Try.prog.arrayLen 48 = 13 := by kernel_rfl
theorem size_text (w : World) : (sizeOf (Try.prog.elem 48)).run Try.prog w = .ok 1 w := by kernel_rfl
theorem slice_text (b : Nat) (W : World) : (Instr.sliceAt 48 (.pointer (some ⟨b, 0, none⟩)) none none none).run Try.prog W = .ok (.slice (some ⟨b, 0, none⟩) 13 13) W := by
  rw [run_sliceAt_array_all W 48 ⟨b, 0, none⟩ array_text, size_text, len_text]
  rfl
theorem row_own {β : Type} (B : Nat) (t : TypeId) (f : β → Array Value) : Own (fun s (W : World) => W.heap[B]? = some (.cells (f s) t (0, 0))) := fun s X Y row hs hg hrow =>
  (hg.block B (Array.getElem?_eq_some_iff.1 hs).1 (fun e => by obtain ⟨o, ho, hc⟩ := hrow B e.symm; rw [hs] at ho; cases ho; cases hc)).trans hs

set_option maxRecDepth 100000 in
set_option maxHeartbeats 2000000 in
theorem text_in (n : Nat) (hn : 3 ≤ n) (x : Nat) (hx : x < 18446744073709551616) (w : World) :
    CallsIn Fence.wide n Try.prog 22 #[.int .u64 (x : Int)] w fun e W' => e = .returned (.string ⟨(textN x).toArray⟩) ∧ Below w.heap.size w W' := by
  have h1 : 1 ≤ n := by omega
  refine callsIn_of_wp_marks Try.func22 rfl trivial ?_ rfl
  simp only [Try.ntmps22, List.size_toArray, List.length_cons, List.length_nil, Nat.reduceAdd, Nat.reduceSub, Array.replicate_succ, Array.replicate_zero, List.push_toArray, List.append_toArray, List.nil_append, List.cons_append]
  gi_wp2_with (refine ⟨trivial, ?_⟩; gi_at_call 34; refine (digits_in (n - 1) x _).mono ?_; rintro e w' ⟨rfl, rfl⟩)
  obtain ⟨W0, hW0⟩ : ∃ W0, W0 = ((w.alloc (.cells #[.int .u8 0, .int .u8 0, .int .u8 0, .int .u8 0, .int .u8 0, .int .u8 0, .int .u8 0, .int .u8 0, .int .u8 0, .int .u8 0, .int .u8 0, .int .u8 0, .int .u8 0] 48)).alloc (.cells #[.int .i64 13] 3)).alloc (.cells #[.int .u64 (x : Int)] 22) := ⟨_, rfl⟩
  rw [← hW0]
  have hs0 : W0.heap.size = w.heap.size + 3 := by rw [hW0]; simp
  have t0 : txtOk W0 w.heap.size [] := ⟨by simp, by rw [hW0]; exact ((Below.heap_alloc _ _ _ (by simp; omega)).trans (Below.heap_alloc _ _ _ (by simp))).trans (World.alloc_heap_new w _)⟩
  have b1 : Boxed W0 (w.heap.size + 1) 3 (.int .i64 13) := by
    have := Boxed.new (w.alloc (.cells #[.int .u8 0, .int .u8 0, .int .u8 0, .int .u8 0, .int .u8 0, .int .u8 0, .int .u8 0, .int .u8 0, .int .u8 0, .int .u8 0, .int .u8 0, .int .u8 0, .int .u8 0] 48)) 3 (.int .i64 13)
    rw [World.size_alloc] at this
    rw [hW0]; exact this.alloc _
  have b2 : Boxed W0 (w.heap.size + 1 + 1) 22 (.int .u64 (x : Int)) := by
    have := Boxed.new ((w.alloc (.cells #[.int .u8 0, .int .u8 0, .int .u8 0, .int .u8 0, .int .u8 0, .int .u8 0, .int .u8 0, .int .u8 0, .int .u8 0, .int .u8 0, .int .u8 0, .int .u8 0, .int .u8 0] 48)).alloc (.cells #[.int .i64 13] 3)) 22 (.int .u64 (x : Int))
    rw [World.size_alloc, World.size_alloc] at this
    rw [hW0]; exact this
  have hB0 : Below w.heap.size w W0 := by rw [hW0]; exact (((Below.refl _ w).alloc (Nat.le_refl _) _).alloc (by simp) _).alloc (by simp; omega) _
  clear hW0
  refine wpIn_rangeBox (encs := encD) rfl h1 (gf := 38) (lb := #[.pointer (some ⟨w.heap.size + 1 + 1, 0, none⟩)]) rfl trivial (enters_of Try.func38 (by kernel_rfl) rfl)
    (digits_stops (n - 1) (by omega) (w.heap.size + 1 + 1) x hx) (by omega) (fun W hb => (hb.block _ (by omega)).trans b2) (fun _ => rfl)
    (fun pre W => (txtOk W w.heap.size pre ∧ Boxed W (w.heap.size + 1) 3 (.int .i64 (13 - (pre.length : Int)))) ∧ Below w.heap.size w W)
    (OwnFrom.and (OwnFrom.and (OwnFrom.and (ownFrom_pure _ _) (Own.from (row_own w.heap.size 48 (fun pre => (txt pre).toArray)) _)) (Own.from (boxed_own _ _ (fun pre : List (Fin 32) => Value.int .i64 (13 - (pre.length : Int)))) _)) (ownFrom_below (Nat.le_refl _) (by omega)))
    (fun s W1 v h => ⟨⟨⟨h.1.1.1, (Below.heap_setCell _ _ _ _ (by simp; omega)).trans h.1.1.2⟩, h.1.2.other (by omega) v⟩, h.2.setCell (p := ⟨w.heap.size + 1 + 1, 0, none⟩) (by simp; omega) v⟩)
    ⟨⟨t0, b1⟩, hB0⟩
    (fun d => { tmps := #[.int .u64 (x : Int), undef, .string ⟨#[]⟩, .pointer (some ⟨w.heap.size, 0, none⟩), .pointer (some ⟨w.heap.size + 1, 0, none⟩), .int .u64 (d.val : Int), .int .u64 (x : Int), .func (.func 38) #[] #[.pointer (some ⟨w.heap.size + 1 + 1, 0, none⟩)], .int .u64 (d.val : Int), undef, undef, undef, undef, undef, undef, undef, undef], defers := [] }) ?assign ?body ?done
  case assign =>
    intro l d W K hK
    simp only [encD]
    gi_wp2
    exact hK
  case body =>
    rintro l pre d W ⟨⟨⟨hpl, ht⟩, hb1⟩, hB⟩ hlt
    have HT := Lib.hid ht
    have HB1 := Lib.hid hb1
    have HB := Lib.hid hB
    have c1 := hb1.cell
    have f1 := hb1.frozen
    clear ht hb1 hB b1 b2 hB0 t0
    obtain ⟨k, hk⟩ : ∃ k : Nat, pre.length + k + 1 = 13 := ⟨12 - pre.length, by omega⟩
    have hpk : (13 : Int) - (pre.length : Int) - 1 = (k : Int) := by omega
    gi_wp2_with fail
    have hb2 : Boxed (W.setCell ⟨w.heap.size + 1, 0, none⟩ (.int .i64 (k : Int))) (w.heap.size + 1) 3 (.int .i64 (k : Int)) := HB1.out.set _
    have hs2 : (W.setCell ⟨w.heap.size + 1, 0, none⟩ (.int .i64 (k : Int))).heap[w.heap.size]? = some (.cells (txt pre).toArray 48 (0, 0)) := (Below.heap_setCell _ _ _ _ (by simp)).trans HT.out
    have hbs2 : (W.setCell ⟨w.heap.size + 1, 0, none⟩ (.int .i64 (k : Int))).heap[w.heap.size + 1 + 1]? = W.heap[w.heap.size + 1 + 1]? := Below.heap_setCell _ _ _ _ (by simp)
    have hK2 : KeepsOthers W (W.setCell ⟨w.heap.size + 1, 0, none⟩ (.int .i64 (k : Int))) := KeepsOthers.setCell _ _ _
    have hB2 : Below w.heap.size w (W.setCell ⟨w.heap.size + 1, 0, none⟩ (.int .i64 (k : Int))) := HB.out.setCell (p := ⟨w.heap.size + 1, 0, none⟩) (by simp) _
    obtain ⟨W2, hW2⟩ : ∃ W2, W2 = W.setCell ⟨w.heap.size + 1, 0, none⟩ (.int .i64 (k : Int)) := ⟨_, rfl⟩
    rw [← hW2] at hb2 hs2 hbs2 hK2 hB2 ⊢
    have c2 := hb2.cell
    have hlen : (txt pre).length = 13 := by simp [txt]; omega
    obtain ⟨old, c3⟩ : ∃ old, W2.cell? ⟨w.heap.size, k, none⟩ = some old := ⟨(txt pre).toArray[k]'(by simp [hlen]; omega), by
      rw [cell_of_row _ _ k _ _ (0, 0) hs2]; exact Array.getElem?_eq_getElem _⟩
    have f3 : W2.frozen? ⟨w.heap.size, k, none⟩ = false := by simp [World.frozen?, hs2]
    have hidx := fun W => letters_index d W
    have HH := Lib.hid (And.intro hb2 (And.intro hs2 (And.intro hbs2 (And.intro hK2 hB2))))
    have HK := Lib.hid hk
    clear hb2 hs2 hbs2 hK2 hB2 hW2 hlen c1 f1 hpk hk hlt hpl
    have hk13 : (k : Int) < 13 := by have := HK.out; omega
    gi_region
    all_goals (
      obtain ⟨hb2, hs2, hbs2, hK2, hB2⟩ := HH.out
      have h3 : (W2.setCell ⟨w.heap.size, k, none⟩ (.int .u8 ((chr32 d.val).toNat : Int))).heap[w.heap.size]? = some (.cells (txt (pre ++ [d])).toArray 48 (0, 0)) := by
        rw [setCell_row _ _ _ _ _ hs2, txt_snoc pre d k HK.out]
      have hK4 := (hK2.trans (KeepsOthers.setCell W2 ⟨w.heap.size, k, none⟩ (.int .u8 ((chr32 d.val).toNat : Int)))).from W0.heap.size
      refine ⟨⟨hK4.size, hK4.same⟩, ?_, ⟨⟨?_, h3⟩, ?_⟩, ?_⟩
      · exact (Below.heap_setCell _ _ _ _ (by simp; omega)).trans hbs2
      · have := HK.out; simp; omega
      · have e : (13 : Int) - ((pre ++ [d]).length : Int) = (k : Int) := by have := HK.out; simp; omega
        rw [e]
        exact (Below.heap_setCell _ _ _ _ (by simp)).trans hb2
      · exact (hB2.setCell (p := ⟨w.heap.size, k, none⟩) (Nat.le_refl _) _).drew)
  case done =>
    rintro D ys W hD rfl ⟨⟨⟨hpl, ht⟩, hb1⟩, hB⟩ hK
    have hlt : (textN x).length = 13 := textN_length x
    have hconv : (convert 52 9 (.slice (some ⟨w.heap.size, 0, none⟩) 13 13)).run Try.prog W = .ok (.string ⟨(textN x).toArray⟩) W := by
      have := run_convert_bytes_back (P := Try.prog) W 52 9 5 ⟨w.heap.size, 0, none⟩ 13 (textN x) Try.underlying52 Try.underlying5 Try.underlying9 (fun j hj => by
        have hadd : (⟨w.heap.size, 0, none⟩ : Addr).add j = ⟨w.heap.size, j, none⟩ := by unfold Addr.add; split <;> simp_all
        rw [hadd, cell_of_row _ _ j _ _ (0, 0) ht, txt_done]
        simp [hj, U8v])
      rwa [hlt] at this
    have hsl := slice_text w.heap.size W
    have HC := Lib.hid hconv
    have HB := Lib.hid hB
    have HK := Lib.hid hK
    clear ht hb1 hB hK b1 b2 hB0 t0
    gi_wp2
    refine ⟨by simp, .inl ⟨_, _, rfl, run_takeDeferred HK.out, ?_⟩⟩
    refine ⟨.string ⟨(textN x).toArray⟩, ?_, rfl, HB.out.trans (belowK_b (w := w) (Nat.le_refl _) _ D _ _ (by omega) HK.out rfl rfl)⟩
    simp [results, Try.f22, go_sem]

theorem text_calls (x : Nat) (hx : x < 18446744073709551616) (w : World) :
    Calls Try.prog 22 #[.int .u64 (x : Int)] w fun e W' => e = .returned (.string ⟨(textN x).toArray⟩) ∧ Below w.heap.size w W' :=
  (callsIn_wide (n := 3)).1 (text_in 3 (by omega) x hx w)
end Go.Proofs.Ytnghalhmbjiefaa
