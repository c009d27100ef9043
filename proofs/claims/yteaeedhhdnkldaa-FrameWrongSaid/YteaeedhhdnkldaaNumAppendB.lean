/-
  CONTRACTS of num.Size, num.Append (at a slice of the call's own) and num.All: the forms of numbers; nothing that was there is written.
-/
import Derived.Test.YteaeedhhdnkldaaNumAppend
import Derived.Maps.AppendAt
import Derived.RangeFuncBox
namespace Go.Proofs.Yteaeedhhdnkldaa
open Go.RowKit Pl

theorem info_u8 : (Try.prog.info? 5).map (fun i => (i.zero, i.size, i.bytes)) = some (some (.int .u8 0), 1, 1) := by kernel_rfl
theorem info_digits : (Try.prog.info? 103).map (·.size) = some 8 := by kernel_rfl

theorem below_setRow {B : Nat} {a w : World} (h : Below B a w) (g : Nat) (c : Array Value) (hg : B ≤ g) : Below B a (w.setRow g c) :=
  h.trans ⟨rfl, rfl, rfl, by simp [World.setRow], fun k hk => setRow_other _ _ _ _ (by omega)⟩
theorem B8_one (l : List Nat) : ∀ u ∈ l.map B8, u.oneCell' = true := by
  intro u hu; simp only [List.mem_map] at hu; obtain ⟨d, _, rfl⟩ := hu; rfl

theorem dg_is_low (n : Nat) : ∀ x, dg n x = low (dg n x).length x := by
  induction n with
  | zero => intro x; rfl
  | succ n ih =>
    intro x
    unfold dg
    by_cases h : x = 0
    · rw [if_pos h]; rfl
    · rw [if_neg h, List.length_append, List.length_singleton, low_snoc, ← ih]
theorem arr_drop (x f : Nat) (hf : f = 8 - (digs x).length) : (arr f x).drop f = (digs x).map B8 := by
  have h8 := digs_length x
  have hd : digs x = low (8 - f) x := by
    have := dg_is_low 8 x
    rw [show 8 - f = (dg 8 x).length from by subst hf; show 8 - (8 - (digs x).length) = (digs x).length; omega]
    exact this
  unfold arr
  rw [← hd, List.map_append, List.drop_append_of_le_length (by simp)]
  simp

theorem array_digits : Try.prog.underlying 103 = some (.array (Try.prog.arrayLen 103) (Try.prog.elem 103)) := by kernel_rfl
theorem len_digits : Try.prog.arrayLen 103 = 8 := by kernel_rfl
theorem sizeOf_u8 (w : World) : (sizeOf (Try.prog.elem 103)).run Try.prog w = .ok 1 w := by kernel_rfl
theorem slice_digits (b f : Nat) (hf : f ≤ 7) (W : World) : (Instr.sliceAt 103 (.pointer (some ⟨b, 0, none⟩)) (some (.int .i64 f)) none none).run Try.prog W = .ok (.slice (some ⟨b, f, none⟩) (8 - f) (8 - f)) W := by
  rw [run_sliceAt_array_l W 103 ⟨b, 0, none⟩ array_digits .i64 f (by omega) (by rw [len_digits]; omega), sizeOf_u8, len_digits]
  simp only [Result.andThen, slicedAt, Int.toNat_natCast]
  rw [if_neg (by omega)]
  by_cases h0 : f = 0
  · subst h0; rfl
  · simp [Addr.add, h0]

set_option maxRecDepth 100000 in
set_option maxHeartbeats 1000000 in
theorem size_calls (x : Nat) (w : World) (hx : x < 18446744073709551616) :
    Calls Try.prog 14 #[.int .u64 x] w fun e w' => e = .returned (.int .i64 ((form x).length : Nat)) ∧ Below w.heap.size w w' := by
  by_cases h : x ≤ 246
  · have hF := Lib.hid (show (form x).length = 1 by unfold form; rw [if_pos h]; rfl)
    go_enter Try.func14, Try.ntmps14
    go_wp2
    go_ret
    exact ⟨ret_int (by rw [hF.out]; rfl), Below.refl _ _⟩
  · have hF := Lib.hid (show (form x).length = 1 + (digs x).length by unfold form; rw [if_neg h]; simp; omega)
    have hD := Lib.hid (digitsOf_calls x w hx)
    have hd8 := digs_length x
    have hd0 : 1 ≤ (digs x).length := by obtain ⟨d, r, e, _⟩ := digs_ne (x := x) (by omega) hx; rw [e]; simp
    obtain ⟨f, hf⟩ : ∃ f, f = 8 - (digs x).length := ⟨_, rfl⟩
    have hl := arr_length f x (by omega)
    have hone : ∀ u ∈ arr f x, u.oneCell' = true := by intro u hu; simp only [arr, List.mem_map] at hu; obtain ⟨d, _, rfl⟩ := hu; rfl
    have H1 := Lib.hid (show (Try.prog.info? 103).map (·.size) = some (arr f x).toArray.size by rw [List.size_toArray, hl]; exact info_digits)
    have H2 := Lib.hid (show 8 = (arr f x).toArray.size by rw [List.size_toArray, hl])
    have H3 := Lib.hid (show (arr f x).toArray.all (·.oneCell') = true by simpa using hone)
    clear hl hone
    rw [← hf] at hD
    generalize arr f x = c at *
    have hf7 : f ≤ 7 := by omega
    have hne : ¬ (8 = f) := by omega
    have hL := Lib.hid (show (form x).length = 9 - f by rw [hF.out]; omega)
    have hsl := fun b => slice_digits b f hf7
    clear hf hF hd8 hd0
    go_enter Try.func14, Try.ntmps14
    go_wp2_with (first
      | (go_at_call 69; refine hD.out.mono ?_; rintro e w' ⟨rfl, hb⟩)
      | (refine wpList_store_row rfl 103 _ _ rfl _ _ rfl rfl 103 _ (heap_alloc_last _ _) H1.out H2.out H3.out ?_; rw [World.setRow_alloc_new]))
    go_ret
    exact ⟨ret_int (by rw [hL.out]; omega), hb.alloc hb.size _⟩


/-- A slice of the call's own, holding just these bytes. -/
abbrev Own8 (w : World) (base : Nat) (v : Value) (l : List Nat) : Prop := w.ownsRow base 5 1 v l.length (l.map B8)

set_option maxRecDepth 100000 in
set_option maxHeartbeats 1000000 in
theorem append_small (x : Nat) (hx : x ≤ 246) (w : World) (base : Nat) (hbase : base ≤ w.heap.size) (v : Value) (l : List Nat) (hown : Own8 w base v l) (hl : l.length ≤ 140737488355000) :
    Calls Try.prog 62 #[v, .int .u64 x] w fun e w' => ∃ v', e = .returned v' ∧ Own8 w' base v' (l ++ form x) ∧ Below base w w' := by
  obtain ⟨i0, hi, hz0, hz1, hz2⟩ := info_parts info_u8
  have hF := Lib.hid (show form x = [x] by unfold form; rw [if_pos hx])
  have hO := Lib.hid hown
  have hI := Lib.hid hi
  have hZ0 := Lib.hid hz0
  have hZ1 := Lib.hid hz1
  have hZ2 := Lib.hid hz2
  have hw : IntKind.u8.wrap (x : Int) = x := IntWalk.u8_in _ ⟨by omega, by omega⟩
  clear hi hz0 hz1 hz2 hown
  go_enter Try.func62, Try.ntmps62
  go_wp2_with (at_builtin; refine wpList_append_own _ rfl _ _ 22 rfl base 5 i0 (.int .u8 0) 1 1 Try.underlying22 hI.out hZ0.out hZ1.out hZ2.out rfl (by decide) _ _ _ rfl (hO.out.alloc _) ⟨w.heap.size, 0, none⟩ 1 1 [B8 x] rfl rfl (cell_one_new _ _ _) (B8_one [x]) (by unfold maxLen; omega) (by omega) (by simp; omega) ?_; intro v' w1 hown1 hgrow1 _)
  go_ret
  refine ⟨v', rfl, ?_, ?_⟩
  · have e : l ++ form x = l ++ [x] := by rw [hF.out]
    rw [e]
    unfold Own8
    rw [List.length_append, List.map_append]
    exact hown1
  · exact ((Below.refl base w).alloc hbase _).grown hgrow1 (by simp; omega) (fun k hk => (hO.out.lt k hk).1)

theorem ownsRow_below {w w1 : World} {base : Nat} {e : TypeId} {size : Nat} {v : Value} {n : Nat} {xs : List Value} (h : w.ownsRow base e size v n xs) (hb : Below w.heap.size w w1) : w1.ownsRow base e size v n xs :=
  h.kept (row := none) ⟨hb.os, hb.tape, hb.output, hb.size, fun k hk _ => hb.block k hk⟩ (by cases hv : v.ownBlock <;> simp)

theorem cell_in_row {w : World} {g f : Nat} {c : List Value} {t : TypeId} (hg : w.heap[g]? = some (.cells c.toArray t (0, 0))) (news : List Value) (hd : c.drop f = news) : ∀ j u, news[j]? = some u → w.cell? ((⟨g, f, none⟩ : Addr).add j) = some u := by
  intro j u hu
  have hadd : (⟨g, f, none⟩ : Addr).add j = ⟨g, f + j, none⟩ := by unfold Addr.add; split <;> simp_all
  rw [hadd, cell_of_row w g (f + j) c.toArray t (0, 0) hg]
  rw [← hd, List.getElem?_drop] at hu
  simpa using hu

set_option maxRecDepth 100000 in
set_option maxHeartbeats 1000000 in
theorem append_large (x : Nat) (hx0 : 246 < x) (hx : x < 18446744073709551616) (w : World) (base : Nat) (hbase : base ≤ w.heap.size) (v : Value) (l : List Nat) (hown : Own8 w base v l) (hl : l.length ≤ 140737488355000) :
    Calls Try.prog 62 #[v, .int .u64 x] w fun e w' => ∃ v', e = .returned v' ∧ Own8 w' base v' (l ++ form x) ∧ Below base w w' := by
  obtain ⟨i0, hi, hz0, hz1, hz2⟩ := info_parts info_u8
  have hF := Lib.hid (show form x = (246 + (digs x).length) :: digs x by unfold form; rw [if_neg (by omega)])
  have hO := Lib.hid hown
  have hI := Lib.hid hi
  have hZ0 := Lib.hid hz0
  have hZ1 := Lib.hid hz1
  have hZ2 := Lib.hid hz2
  clear hi hz0 hz1 hz2 hown
  have hD := Lib.hid (digitsOf_calls x w hx)
  have hd8 := digs_length x
  have hd0 : 1 ≤ (digs x).length := by obtain ⟨d, r, e, _⟩ := digs_ne (x := x) hx0 hx; rw [e]; simp
  obtain ⟨f, hf⟩ : ∃ f, f = 8 - (digs x).length := ⟨_, rfl⟩
  have hl8 := arr_length f x (by omega)
  have hone : ∀ u ∈ arr f x, u.oneCell' = true := by intro u hu; simp only [arr, List.mem_map] at hu; obtain ⟨d, _, rfl⟩ := hu; rfl
  have H1 := Lib.hid (show (Try.prog.info? 103).map (·.size) = some (arr f x).toArray.size by rw [List.size_toArray, hl8]; exact info_digits)
  have H2 := Lib.hid (show 8 = (arr f x).toArray.size by rw [List.size_toArray, hl8])
  have H3 := Lib.hid (show (arr f x).toArray.all (·.oneCell') = true by simpa using hone)
  have H4 := Lib.hid (arr_drop x f hf)
  clear hl8 hone
  rw [← hf] at hD
  generalize arr f x = c at *
  have hf7 : f ≤ 7 := by omega
  have hne : ¬ (8 = f) := by omega
  have hk := Lib.hid (show (digs x).length = 8 - f by omega)
  have hsl := fun b => slice_digits b f hf7
  clear hf hd8 hd0
  go_enter Try.func62, Try.ntmps62
  go_wp2_with (first
    | (go_at_call 69; refine hD.out.mono ?_; rintro e w1 ⟨rfl, hb⟩; have hO1 := Lib.hid (ownsRow_below hO.out hb); have hlt := hb.size; have hG := Lib.hid (fun k (h : v.ownBlock = some k) => (hO.out.lt k h)))
    | (refine wpList_store_row rfl 103 _ _ rfl _ _ rfl rfl 103 _ (heap_alloc_last _ _) H1.out H2.out H3.out ?_; rw [World.setRow_alloc_new])
    | (at_builtin; refine wpList_append_own _ rfl (.tmp 19) (.tmp 25) 22 rfl base 5 i0 (.int .u8 0) 1 1 Try.underlying22 hI.out hZ0.out hZ1.out hZ2.out rfl (by decide) _ _ _ rfl ((hO1.out.alloc _).alloc _) ⟨w1.heap.size + 1, 0, none⟩ 1 1 [.int .u8 (246 + ((8 - f : Nat) : Int))] rfl rfl (by have := cell_one_new (w1.alloc (.cells c.toArray 103)) (.int .u8 (246 + ((8 - f : Nat) : Int))) 5; rwa [World.size_alloc] at this) (by intro u hu; simp at hu; subst hu; rfl) (by unfold maxLen; omega) (by omega) (by simp; omega) ?_; intro v2 w2 hown2 hgrow2 _; have hB2 := Lib.hid ((hgrow2.block w1.heap.size (by simp; omega) (fun e => by have := (hG.out _ e.symm).2; omega)).trans (heap_alloc2_old _ _ _)); have hO2 := Lib.hid hown2; have hG2 := Lib.hid hgrow2; clear hown2 hgrow2; have hs2 := hG2.out.size; rw [World.size_alloc, World.size_alloc] at hs2)
    | (at_builtin; refine wpList_append_own _ rfl (.tmp 27) (.tmp 29) 22 rfl base 5 i0 (.int .u8 0) 1 1 Try.underlying22 hI.out hZ0.out hZ1.out hZ2.out rfl (by decide) _ _ _ rfl hO2.out ⟨w1.heap.size, f, none⟩ (8 - f) (8 - f) ((digs x).map B8) rfl (by rw [List.length_map, hk.out, Nat.mul_one]) (cell_in_row hB2.out _ H4.out) (B8_one _) (by unfold maxLen; omega) (by omega) (by omega) ?_; intro v3 w3 hown3 hgrow3 _; have hO3 := Lib.hid hown3; have hG3 := Lib.hid hgrow3; clear hown3 hgrow3))
  go_ret
  refine ⟨v3, rfl, ?_, ?_⟩
  · have e : (l ++ form x) = l ++ [246 + (8 - f)] ++ digs x := by rw [hF.out, hk.out]; simp
    have e2 : (l ++ form x).length = l.length + 1 + (8 - f) := by rw [e, List.length_append, List.length_append, hk.out]; rfl
    unfold Own8
    rw [e2, e, List.map_append, List.map_append]
    exact hO3.out
  · have h1 : Below base w w1 := hb.mono hbase
    have h2 : Below base w w2 := ((h1.alloc (by omega) _).alloc (by simp; omega) _).grown hG2.out (by simp; omega) (fun k hk => (hG.out k hk).1)
    exact h2.grown hG3.out (by omega) (fun k hk => (hO2.out.lt k hk).1)

/-- num.Append, at a slice of the call's own. -/
theorem append_calls (x : Nat) (hx : x < 18446744073709551616) (w : World) (base : Nat) (hbase : base ≤ w.heap.size) (v : Value) (l : List Nat) (hown : Own8 w base v l) (hl : l.length ≤ 140737488355000) :
    Calls Try.prog 62 #[v, .int .u64 x] w fun e w' => ∃ v', e = .returned v' ∧ Own8 w' base v' (l ++ form x) ∧ Below base w w' := by
  by_cases h : x ≤ 246
  · exact append_small x h w base hbase v l hown hl
  · exact append_large x (by omega) hx w base hbase v l hown hl
theorem own8_nil (w : World) (base : Nat) : Own8 w base (.slice none 0 0) [] := World.ownsRow_nil _ _ _ _

end Go.Proofs.Yteaeedhhdnkldaa
