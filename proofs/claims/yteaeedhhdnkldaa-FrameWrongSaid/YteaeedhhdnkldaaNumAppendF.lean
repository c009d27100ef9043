/-
  CONTRACT of num.Append at a slice without spare room: the form lies in new memory, behind a copy of what was there; nothing that was there is written.
-/
import Derived.Test.YteaeedhhdnkldaaAppend8
import Derived.ArgAppend
import Derived.BigFrame
namespace Go.Proofs.Yteaeedhhdnkldaa
open Go.RowKit Pl

/-- THE LAW FOR THE WALK, AT AN APPEND BEHIND A GUARD that says yes. -/
theorem wpList_append8W {ops : Array Oper} {rest : List Oper} {o : Oper} {a : Act} {w : World} {Q : Exit → Act → World → Prop} (hw : Region.wanted o (yielded ops a.tmps) = true) (s x : Operand)
    (ho : o.op = .call { callee := .builtin .append, args := #[s, x], argTypes := #[22, 22] })
    (base : Nat) (v : Value) (l : List Nat) (hs : a.eval s = v) (hown : Own8 w base v l) (xv : Value) (m : List Nat) (hx : a.eval x = xv) (hrow : BRow w xv m)
    (hl : l.length + m.length ≤ 140737488355328) (hbase : base ≤ w.heap.size)
    (h : ∀ v' w', Own8 w' base v' (l ++ m) → w.grownBy w' v.ownBlock → wpList Try.prog ops Q rest (a.put o.dst v') w') : wpList Try.prog ops Q (o :: rest) a w :=
  BigFrame.wpList_want hw fun K hK => by
    obtain ⟨v', w', hr, h2, h3⟩ := run_append8 w o.type base hbase v l hown xv m hrow hl
    unfold Oper.wp execOp
    simp only [ho, resolve, invoke, builtin, Sem.run_bind, Sem.run_pure, Result.andThen_ok, List.map_toArray, List.map_cons, List.map_nil, hs, hx, hr]
    exact hK _ _ (h v' w' h2 h3)

theorem own8_le {w : World} {base : Nat} {a : Option Addr} {n c : Nat} {l : List Nat} (h : Own8 w base (.slice a n c) l) : n ≤ c := by
  rcases h.2 with ⟨hv, _⟩ | ⟨g, cap, cur, hv, h1, h2, h3, h4, h5, h6⟩
  · simp only [Value.slice.injEq] at hv
    omega
  · simp only [Value.slice.injEq] at hv
    omega
/-- What is owned from a block on is owned from an earlier one on. -/
theorem own_base {w : World} {base base' : Nat} {v : Value} {l : List Nat} (h : Own8 w base v l) (hb : base' ≤ base) : Own8 w base' v l := by
  refine ⟨h.1, ?_⟩
  rcases h.2 with h0 | ⟨g, cap, cur, h1, h2, h3⟩
  · exact .inl h0
  · exact .inr ⟨g, cap, cur, h1, by omega, h3⟩
theorem wpList_grow8 {ops : Array Oper} {rest : List Oper} {o : Oper} {a : Act} {w : World} {Q : Exit → Act → World → Prop} (hgd : o.guard = none) (s x : Operand)
    (ho : o.op = .call { callee := .builtin .append, args := #[s, x], argTypes := #[22, 22] })
    (b off : Nat) (l : List Nat) (hs : a.eval s = .slice (some ⟨b, off, none⟩) l.length l.length) (hcell : ∀ i, i < l.length → w.cell? ⟨b, off + i, none⟩ = some (.int .u8 (gt l i : Int)))
    (b' off' c' : Nat) (m : List Nat) (hx : a.eval x = .slice (some ⟨b', off', none⟩) m.length c') (hcell' : ∀ i, i < m.length → w.cell? ⟨b', off' + i, none⟩ = some (.int .u8 (gt m i : Int))) (hm : 1 ≤ m.length)
    (hl : l.length + m.length ≤ 140737488355328)
    (h : ∀ v' w', Own8 w' w.heap.size v' (l ++ m) → w.grownBy w' .none → wpList Try.prog ops Q rest (a.put o.dst v') w') : wpList Try.prog ops Q (o :: rest) a w :=
  wpList_plain hgd fun K hK => by
    obtain ⟨i0, hi, hz0, hz1, hz2⟩ := info_parts info_u8
    obtain ⟨v', w', hr, h2, h3⟩ := run_append_arg_grows (P := Try.prog) w 22 o.type 5 i0 (.int .u8 0) 1 1 Try.underlying22 hi hz0 hz1 hz2 rfl (by decide) ⟨b, off, none⟩ l.length l.length (l.map B8) (by simp) (brow_cells hcell) ⟨b', off', none⟩ m.length c' (m.map B8) (by simp) (brow_cells hcell') (by omega) (by unfold maxLen; omega) (by omega)
    unfold Oper.wp execOp
    simp only [ho, resolve, invoke, builtin, Sem.run_bind, Sem.run_pure, Result.andThen_ok, List.map_toArray, List.map_cons, List.map_nil, hs, hx, hr]
    refine hK _ _ (h v' w' ?_ h3)
    unfold Own8
    rw [List.length_append, List.map_append]
    exact h2

theorem grown_none_below {w w' : World} (h : w.grownBy w' none) : Below w.heap.size w w' :=
  (Below.refl _ w).grown h (Nat.le_refl _) (fun k e => by cases e)

set_option maxRecDepth 100000 in
set_option maxHeartbeats 1000000 in
theorem appendF_small (x : Nat) (hx : x ≤ 246) (w : World) (b off : Nat) (l : List Nat) (hrow : ∀ i, i < l.length → w.cell? ⟨b, off + i, none⟩ = some (.int .u8 (gt l i : Int))) (hl : l.length ≤ 140737488355000) :
    Calls Try.prog 62 #[.slice (some ⟨b, off, none⟩) l.length l.length, .int .u64 x] w fun e w' => ∃ v', e = .returned v' ∧ Own8 w' w.heap.size v' (l ++ form x) ∧ Below w.heap.size w w' := by
  have hF := Lib.hid (show form x = [x] by unfold form; rw [if_pos hx])
  have HR := Lib.hid (fun i hi => (((Below.refl _ w).alloc (Nat.le_refl _) (.cells #[.int .u8 (x : Int)] 5)).cell (p := ⟨b, off + i, none⟩) (block_lt_of_cell (hrow i hi))).trans (hrow i hi))
  have HN := Lib.hid (show ∀ i, i < [x].length → (w.alloc (.cells #[.int .u8 (x : Int)] 5)).cell? ⟨w.heap.size, 0 + i, none⟩ = some (.int .u8 (gt [x] i : Int)) from fun i hi => by
    obtain rfl : i = 0 := by simpa using hi
    rw [cell_of_row _ _ _ _ 5 (0, 0) (heap_alloc_new w _)]; rfl)
  clear hrow
  go_enter Try.func62, Try.ntmps62
  go_wp2_with (at_builtin; refine wpList_grow8 rfl _ _ rfl b off l rfl HR.out w.heap.size 0 1 [x] rfl HN.out (by simp) (by simp; omega) ?_; intro v' w1 hown1 hgrow1)
  go_ret
  rw [hF.out]
  exact ⟨v', rfl, own_base hown1 (by simp), ((Below.refl _ w).alloc (Nat.le_refl _) _).trans ((grown_none_below hgrow1).mono (by simp))⟩

set_option maxRecDepth 100000 in
set_option maxHeartbeats 1000000 in
theorem appendF_large (x : Nat) (hx0 : 246 < x) (hx : x < 18446744073709551616) (w : World) (b off : Nat) (l : List Nat) (hrow : ∀ i, i < l.length → w.cell? ⟨b, off + i, none⟩ = some (.int .u8 (gt l i : Int))) (hl : l.length ≤ 140737488355000) :
    Calls Try.prog 62 #[.slice (some ⟨b, off, none⟩) l.length l.length, .int .u64 x] w fun e w' => ∃ v', e = .returned v' ∧ Own8 w' w.heap.size v' (l ++ form x) ∧ Below w.heap.size w w' := by
  obtain ⟨i0, hi, hz0, hz1, hz2⟩ := info_parts info_u8
  have hF := Lib.hid (show form x = (246 + (digs x).length) :: digs x by unfold form; rw [if_neg (by omega)])
  have hO := Lib.hid hrow
  have hI := Lib.hid hi
  have hZ0 := Lib.hid hz0
  have hZ1 := Lib.hid hz1
  have hZ2 := Lib.hid hz2
  clear hi hz0 hz1 hz2 hrow
  have hD := Lib.hid (digitsOf_calls x w hx)
  have hd8 := digs_length x
  have hd0 : 1 ≤ (digs x).length := by obtain ⟨d, r, e, _⟩ := digs_ne (x := x) hx0 hx; rw [e]; simp
  obtain ⟨f, hf⟩ : ∃ f, f = 8 - (digs x).length := ⟨_, rfl⟩
  have hl8 := arr_length f x (by omega)
  have hone : ∀ u ∈ arr f x, u.oneCell' = true := by intro u hu; simp only [arr, List.mem_map] at hu; obtain ⟨d, _, rfl⟩ := hu; rfl
  have H1 := Lib.hid (show (Try.prog.info? 103).map (·.size) = some (arr f x).toArray.size by rw [List.size_toArray, hl8]; exact info_digits)
  have H2 := Lib.hid (show 8 = (arr f x).toArray.size by rw [List.size_toArray, hl8])
  have H3 := Lib.hid (show (arr f x).toArray.all (·.oneCell') = true by simpa using hone)
  have H4 := Lib.hid (arr_drop x f hf)
  clear hl8 hone
  rw [← hf] at hD
  generalize arr f x = c at *
  have hf7 : f ≤ 7 := by omega
  have hne : ¬ (8 = f) := by omega
  have hk := Lib.hid (show (digs x).length = 8 - f by omega)
  have hsl := fun b => slice_digits b f hf7
  clear hf hd8 hd0
  go_enter Try.func62, Try.ntmps62
  go_wp2_with (first
    | (go_at_call 69; refine hD.out.mono ?_; rintro e w1 ⟨rfl, hb⟩; have hlt := hb.size; have hBB := Lib.hid hb; have hO1 := Lib.hid (fun i hi => ((((hBB.out.alloc hlt (.cells c.toArray 103)).alloc (by simp; omega) (.cells #[.int .u8 (246 + ((8 - f : Nat) : Int))] 5)).cell (p := ⟨b, off + i, none⟩) (block_lt_of_cell (hO.out i hi))).trans (hO.out i hi))))
    | (refine wpList_store_row rfl 103 _ _ rfl _ _ rfl rfl 103 _ (heap_alloc_last _ _) H1.out H2.out H3.out ?_; rw [World.setRow_alloc_new])
    | (at_builtin; refine wpList_grow8 rfl (.tmp 19) (.tmp 25) rfl b off l rfl hO1.out (w1.heap.size + 1) 0 1 [254 - f] rfl (fun i hi => by obtain rfl : i = 0 := (by simpa using hi); rw [cell_of_row _ _ _ _ 5 (0, 0) (heap_alloc2_new _ _ _)]; first | (simp [gt]; done) | (simp [gt]; omega)) (by simp) (by simp; omega) ?_; intro v2 w2 hown2 hgrow2; have hB2 := Lib.hid ((hgrow2.block w1.heap.size (by simp; omega) (fun e => by cases e)).trans (heap_alloc2_old _ _ _)); have hO2 := Lib.hid hown2; have hG2 := Lib.hid hgrow2; clear hown2 hgrow2; have hs2 := hG2.out.size; rw [World.size_alloc, World.size_alloc] at hs2)
    | (at_builtin; refine wpList_append_own _ rfl (.tmp 27) (.tmp 29) 22 rfl (w1.heap.size + 2) 5 i0 (.int .u8 0) 1 1 Try.underlying22 hI.out hZ0.out hZ1.out hZ2.out rfl (by decide) _ _ _ rfl (own_base hO2.out (by simp)) ⟨w1.heap.size, f, none⟩ (8 - f) (8 - f) ((digs x).map B8) rfl (by rw [List.length_map, hk.out, Nat.mul_one]) (cell_in_row hB2.out _ H4.out) (B8_one _) (by unfold maxLen; simp; omega) (by simp; omega) (by omega) ?_; intro v3 w3 hown3 hgrow3 _; have hO3 := Lib.hid hown3; have hG3 := Lib.hid hgrow3; clear hown3 hgrow3))
  go_ret
  have h1 : Below w.heap.size w w1 := hb
  have h2 : Below w.heap.size w w2 := ((h1.alloc hlt _).alloc (by simp; omega) _).trans ((grown_none_below hG2.out).mono (by simp; omega))
  refine ⟨v3, rfl, ?_, ?_⟩
  · have e : (l ++ form x) = l ++ [254 - f] ++ digs x := by rw [hF.out, hk.out, show 246 + (8 - f) = 254 - f by omega]; simp
    have e2 : (l ++ form x).length = (l ++ [254 - f]).length + (8 - f) := by rw [e]; simp only [List.length_append, hk.out]
    refine own_base (base := w1.heap.size + 2) ?_ (by omega)
    unfold Own8
    rw [e2, e, List.map_append]
    exact hO3.out
  · exact h2.trans (((Below.refl (w1.heap.size + 2) w2).grown hG3.out (by omega) (fun k hk => ((own_base hO2.out (by simp) : Own8 w2 (w1.heap.size + 2) v2 (l ++ [254 - f])).lt k hk).1)).mono (by omega))

/-- num.Append, at the whole of a slice of the call's own, without its spare room. -/
theorem appendF_calls (x : Nat) (hx : x < 18446744073709551616) (w : World) (base : Nat) (a : Option Addr) (n c : Nat) (l : List Nat) (hown : Own8 w base (.slice a n c) l) (hl : l.length ≤ 140737488355000) :
    Calls Try.prog 62 #[.slice a n n, .int .u64 x] w fun e w' => ∃ v', e = .returned v' ∧ Own8 w' w.heap.size v' (l ++ form x) ∧ Below w.heap.size w w' := by
  obtain ⟨hlen, ⟨hv, h0⟩ | ⟨g, cap, cur, hv, h1, h2, h3, h4, h5, h6⟩⟩ := hown
  · simp only [Value.slice.injEq] at hv
    obtain ⟨rfl, rfl, rfl⟩ := hv
    have : l = [] := List.eq_nil_of_length_eq_zero h0
    subst this
    exact append_calls x hx w w.heap.size (Nat.le_refl _) _ [] (own8_nil _ _) (by simp)
  · simp only [Value.slice.injEq] at hv
    obtain ⟨rfl, rfl, rfl⟩ := hv
    have hrow : ∀ i, i < l.length → w.cell? ⟨g, 0 + i, none⟩ = some (.int .u8 (gt l i : Int)) := fun i hi => by
      rw [Nat.zero_add, cell_of_row w g i cur _ (0, 0) h2]
      have e : (cur.toList.take (l.length * 1))[i]? = (l.map B8)[i]? := by rw [h6]
      rw [List.getElem?_take, if_pos (by omega)] at e
      simp only [Array.getElem?_toList] at e
      rw [e]
      simp [gt, hi, B8]
    by_cases h : x ≤ 246
    · exact appendF_small x h w g 0 l hrow hl
    · exact appendF_large x (by omega) hx w g 0 l hrow hl
end Go.Proofs.Yteaeedhhdnkldaa
