/-
  CONTRACTS of strconv.Itoa at these sizes, key.Text, key.begun and strings.Cut at one byte.
-/
import Derived.Test.YtapaccbffhcjdaaDoorKeyNext
import Derived.Test.YtapaccbffhcjdaaDoorShelf
import Derived.Shelf.SlSortCmp.QuietGrown
import Derived.Deep.RegionLaw
import Derived.Laws.Strings3
import Derived.Lib.Walk
import Derived.Lib.ItoaLen
namespace Go.Proofs.YtapaccbffhcjdaaDoor
open Go.RowKit Go.Shelf

/-- The table of powers of ten is what it should be. -/
def Tab (W : World) : Prop := Lib.TabIs Tryd.prog W "internal/strconv.uint64pow10" .u64 Lib.pow10Tab
theorem Tab.below {w w' : World} (h : Tab w) (hb : Below w.heap.size w w') : Tab w' := by
  have hs : (Tryd.prog.globalNamed "internal/strconv.uint64pow10").isSome = true := by kernel_rfl
  obtain ⟨g, hg⟩ := Option.isSome_iff_exists.1 hs
  unfold Tab Lib.TabIs World.var? at *
  rw [hg] at h ⊢
  simp only [Option.bind_some] at h ⊢
  cases hk : w.heap[g]? with
  | none => rw [hk] at h; cases h
  | some o => rw [hb.block g (Array.getElem?_eq_some_iff.1 hk).1]; exact h
theorem below_grow (W : World) (n : Nat) (os : Array Obj) : Below W.heap.size W (Go.Sort.grow (W.drewN n) os) := by
  refine ⟨rfl, rfl, rfl, by simp [Go.Sort.grow], fun k hk => ?_⟩
  show (W.heap ++ os)[k]? = W.heap[k]?
  exact Array.getElem?_append_left hk
/-- What Itoa of a number wants: the table, or no more than two digits. -/
def TabFor (W : World) (k : Ky) : Prop := Tab W ∨ (k.1 < 100 ∧ k.2.1 < 100 ∧ k.2.2 < 100)
theorem TabFor.below {w w' : World} {k : Ky} (h : TabFor w k) (hb : Below w.heap.size w w') : TabFor w' k := h.imp (fun t => t.below hb) id
open Go.Lib (decDigits)
theorem itoa_calls (x : Nat) (w : World) (hx : x ≤ 281474976710656) (h : Tab w ∨ x < 100) :
    Calls Tryd.prog 55 #[.int .i64 (x : Int)] w fun e w' => e = .returned (.string ⟨(decDigits x).toArray⟩) ∧ ∃ k os, w' = Go.Sort.grow (w.drewN k) os := by
  rcases h with h | h
  · have := Tryd.strconv_Itoa (x : Int) (by omega) (by omega) w h
    rwa [Lib.itoa_nonneg] at this
  · exact (Tryd.strconv_Itoa_small x h w).mono fun e w' ⟨he, hw⟩ => ⟨he, 0, #[], by rw [hw, Go.Sort.grow_empty]; rfl⟩

theorem bcat (x y : List UInt8) : (⟨x.toArray⟩ : ByteArray) ++ ⟨y.toArray⟩ = ⟨(x ++ y).toArray⟩ := by
  apply ByteArray.ext
  simp
theorem dec_len (x : Nat) (h : x ≤ 281474976710656) : (decDigits x).length ≤ 21 := by
  have := Lib.itoa_length_le (x : Int) (by omega) (by omega)
  rwa [Lib.itoa_nonneg] at this

set_option maxRecDepth 100000 in
set_option maxHeartbeats 1000000 in
theorem textK_yes (k : Ky) (w : World) (hr : RightK k) (ht : TabFor w k) :
    Calls Tryd.prog 18 #[.agg #[.int .i64 k.1, .int .i64 k.2.1, .int .i64 k.2.2]] w fun e w' => e = .returned (.tuple #[.string ⟨(textK k).toArray⟩, .int .i64 0]) ∧ Below w.heap.size w w' := by
  have HRt := Lib.hid (fun W => rightK_calls k W)
  rw [decide_eq_true hr] at HRt
  have HB := Lib.hid ((Below.refl w.heap.size w).alloc (Nat.le_refl _) (.cells #[.int .i64 k.1, .int .i64 k.2.1, .int .i64 k.2.2] 23))
  obtain ⟨a, b, c⟩ := k
  obtain ⟨⟨ha0, ha1⟩, ⟨hb0, hb1⟩, ⟨hc0, hc1⟩⟩ := hr
  dsimp only at ha0 ha1 hb0 hb1 hc0 hc1 HRt HB ⊢
  obtain ⟨a, rfl⟩ : ∃ x : Nat, a = (x : Int) := ⟨a.toNat, by omega⟩
  obtain ⟨b, rfl⟩ : ∃ x : Nat, b = (x : Int) := ⟨b.toNat, by omega⟩
  obtain ⟨c, rfl⟩ : ∃ x : Nat, c = (x : Int) := ⟨c.toNat, by omega⟩
  have HTx := Lib.hid (show textK ((a : Int), (b : Int), (c : Int)) = decDigits a ++ [64] ++ decDigits b ++ [35] ++ decDigits c by unfold textK; simp only [Int.toNat_natCast])
  have mixed : Tryd.prog.follows .mixedOrders = true := by kernel_rfl
  have HTf := Lib.hid (fun W (hb : Below w.heap.size w W) => ht.below hb)
  have hk0 : KAt (w.alloc (.cells #[.int .i64 (a : Int), .int .i64 (b : Int), .int .i64 (c : Int)] 23)) w.heap.size ((a : Int), (b : Int), (c : Int)) := World.alloc_heap_new w _
  have HK0 := Lib.hid hk0
  clear hk0 ht
  go_enter Tryd.func18, Tryd.ntmps18
  go_wp2_with fail
  refine (HRt.out _).mono ?_
  rintro e w1 ⟨rfl, hb⟩
  have HB1 := Lib.hid (HB.out.trans (hb.mono HB.out.size))
  have hk1 : KAt w1 w.heap.size ((a : Int), (b : Int), (c : Int)) := (hb.block _ HK0.out.lt).trans HK0.out
  have hT1 := Lib.hid (fun n os => (HTf.out (Go.Sort.grow (w1.drewN n) os) (HB1.out.trans ((below_grow w1 n os).mono HB1.out.size))))
  have l0 := fun n os => Go.cell_grown (n := n) (os := os) (w := w1) (a := ⟨w.heap.size, 0, none⟩) hk1.lt (hk1.cells 0 (by omega)).1
  have l1 := fun n os => Go.cell_grown (n := n) (os := os) (w := w1) (a := ⟨w.heap.size, 1, none⟩) hk1.lt (hk1.cells 1 (by omega)).1
  have l2 := fun n os => Go.cell_grown (n := n) (os := os) (w := w1) (a := ⟨w.heap.size, 2, none⟩) hk1.lt (hk1.cells 2 (by omega)).1
  simp only [fldK] at l0 l1 l2
  have i0 := Lib.hid (fun n os => itoa_calls a (Go.Sort.grow (w1.drewN n) os) (by omega) ((hT1.out n os).imp id (fun h => by have := h.1; dsimp only at this; omega)))
  have i1 := Lib.hid (fun n os => itoa_calls b (Go.Sort.grow (w1.drewN n) os) (by omega) ((hT1.out n os).imp id (fun h => by have := h.2.1; dsimp only at this; omega)))
  have i2 := Lib.hid (fun n os => itoa_calls c (Go.Sort.grow (w1.drewN n) os) (by omega) ((hT1.out n os).imp id (fun h => by have := h.2.2; dsimp only at this; omega)))
  have la := dec_len a (by omega)
  have lb := dec_len b (by omega)
  have lc := dec_len c (by omega)
  clear hb hk1
  generalize decDigits a = da at *
  generalize decDigits b = db at *
  generalize decDigits c = dc at *
  have n1 : ¬ 9223372036854775807 < da.length + 1 := by omega
  have n2 : ¬ 9223372036854775807 < da.length + 1 + db.length := by omega
  have n3 : ¬ 9223372036854775807 < da.length + 1 + db.length + 1 := by omega
  have n4 : ¬ 9223372036854775807 < da.length + 1 + db.length + 1 + dc.length := by omega
  clear la lb lc
  go_wp2_with fail
  go_quiet_grown (first | exact Calls.grown_of (i0.out _ _) | exact Calls.grown_of (i1.out _ _) | exact Calls.grown_of (i2.out _ _))
  go_wp2
  go_ret2
  refine ⟨?_, HB1.out.trans ((below_grow w1 _ _).mono HB1.out.size)⟩
  show Ending.returned (.tuple #[.string ((⟨da.toArray⟩ : ByteArray) ++ ⟨([64] : List UInt8).toArray⟩ ++ ⟨db.toArray⟩ ++ ⟨([35] : List UInt8).toArray⟩ ++ ⟨dc.toArray⟩), .int .i64 0]) = _
  rw [HTx.out, bcat, bcat, bcat, bcat]
theorem textK_no (k : Ky) (w : World) (hr : ¬ RightK k) :
    Calls Tryd.prog 18 #[.agg #[.int .i64 k.1, .int .i64 k.2.1, .int .i64 k.2.2]] w fun e w' => e = .returned (.tuple #[.string ⟨#[]⟩, .int .i64 70]) ∧ Below w.heap.size w w' := by
  have HRt := Lib.hid (fun W => rightK_calls k W)
  rw [decide_eq_false hr] at HRt
  have HB := Lib.hid ((Below.refl w.heap.size w).alloc (Nat.le_refl _) (.cells #[.int .i64 k.1, .int .i64 k.2.1, .int .i64 k.2.2] 23))
  clear hr
  go_enter Tryd.func18, Tryd.ntmps18
  go_wp2_with fail
  refine (HRt.out _).mono ?_
  rintro e w1 ⟨rfl, hb⟩
  have HB1 := Lib.hid (HB.out.trans (hb.mono HB.out.size))
  clear hb
  go_wp2
  go_ret2
  exact ⟨rfl, HB1.out⟩

theorem begun_cons (c : UInt8) (r : List UInt8) : begunL (c :: r) = (c == 48 && r.isEmpty || ((c.toNat : Int) != 48)) := by
  have h48 : ((c.toNat : Int) != 48) = decide (c ≠ 48) := by
    by_cases h : c = 48
    · subst h; rfl
    · have : c.toNat ≠ 48 := fun e => h (UInt8.toNat_inj.1 e)
      rw [decide_eq_true h, bne_iff_ne]; omega
  rw [h48]
  unfold begunL
  by_cases h : c = 48
  · subst h
    cases r <;> simp
  · simp [h]
/-- What begun says. -/
theorem begun_calls (l : List UInt8) (w : World) :
    Calls Tryd.prog 57 #[.string ⟨l.toArray⟩] w fun e w' => e = .returned (.bool (begunL l)) ∧ w = w' := by
  cases l with
  | nil =>
    go_enter Tryd.func57, Tryd.ntmps57
    go_wp2
    go_ret
    exact ⟨rfl, rfl⟩
  | cons c r =>
    have hx : ∀ h, (⟨(c :: r).toArray⟩ : ByteArray)[0]'h = c := fun _ => rfl
    have hl1 : (0 : Int) < (r.length : Int) + 1 := by omega
    go_enter Tryd.func57, Tryd.ntmps57
    go_wp2
    · go_ret
      exact ⟨by rw [begun_cons]; rfl, rfl⟩
    · go_ret
      exact ⟨rfl, rfl⟩
    · rename_i h1
      exact absurd (Classical.not_not.1 (fun g => h1 (Classical.not_and_iff_not_or_not.1 g))) h

set_option maxRecDepth 100000 in
set_option maxHeartbeats 1000000 in
theorem cutliteK_calls (l : List UInt8) (c : UInt8) (w : World) (hl : l.length ≤ 9223372036854775807) :
    Calls Tryd.prog 82 #[.string ⟨l.toArray⟩, .string ⟨#[c]⟩] w fun e w' => e = .returned (.tuple #[.string ⟨(cutC c l).1.toArray⟩, .string ⟨(cutC c l).2.1.toArray⟩, .bool (cutC c l).2.2]) ∧ Below w.heap.size w w' := by
  have hI := Tryd.stringslite_Index_one ⟨l.toArray⟩ c w
  have hsz : (⟨l.toArray⟩ : ByteArray).size = l.length := by simp [ByteArray.size]
  rcases cutC_index c l with ⟨e1, e2⟩ | ⟨i, e1, hi, e2⟩
  · rw [e2]
    rw [show (⟨l.toArray⟩ : ByteArray).data.toList = l from rfl, e1] at hI
    have HI := Lib.hid hI
    clear hI e1 e2 hsz
    go_enter Tryd.func82, Tryd.ntmps82
    go_wp2_with fail
    refine HI.out.mono ?_
    rintro e w' ⟨rfl, rfl⟩
    go_wp2
    go_ret3
    exact ⟨rfl, Below.refl _ _⟩
  · rw [e2]
    rw [show (⟨l.toArray⟩ : ByteArray).data.toList = l from rfl, e1] at hI
    have HI := Lib.hid hI
    clear hI e1 e2
    have c1 : (0 : Int) ≤ (i : Int) := by omega
    have c2 : (i : Int) ≤ (l.length : Int) := by omega
    have c3 : (0 : Int) ≤ (i : Int) + 1 := by omega
    have c4 : (i : Int) + 1 ≤ (l.length : Int) := by omega
    go_enter Tryd.func82, Tryd.ntmps82
    go_wp2_with fail
    refine HI.out.mono ?_
    rintro e w' ⟨rfl, rfl⟩
    go_wp2_with fail
    go_region
    go_wp2
    go_ret3
    refine ⟨?_, (Below.refl _ _).drew⟩
    rw [Lib.extract_eq, Lib.extract_eq]
    simp
    exact List.take_of_length_le (by rw [List.length_drop]; omega)
set_option maxRecDepth 100000 in
set_option maxHeartbeats 1000000 in
theorem cutK_calls (l : List UInt8) (c : UInt8) (w : World) (hl : l.length ≤ 9223372036854775807) :
    Calls Tryd.prog 56 #[.string ⟨l.toArray⟩, .string ⟨#[c]⟩] w fun e w' => e = .returned (.tuple #[.string ⟨(cutC c l).1.toArray⟩, .string ⟨(cutC c l).2.1.toArray⟩, .bool (cutC c l).2.2]) ∧ Below w.heap.size w w' := by
  have HC := Lib.hid (fun W => cutliteK_calls l c W hl)
  generalize cutC c l = q at *
  clear hl
  go_enter Tryd.func56, Tryd.ntmps56
  go_wp2_with fail
  refine (HC.out _).mono ?_
  rintro e w' ⟨rfl, hb⟩
  have HB := Lib.hid hb
  clear hb
  go_wp2
  go_ret3
  exact ⟨rfl, HB.out⟩
end Go.Proofs.YtapaccbffhcjdaaDoor
