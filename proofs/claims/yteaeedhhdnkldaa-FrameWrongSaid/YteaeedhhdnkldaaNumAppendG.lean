/-
  CONTRACT of num.Append at a slice of the call's own, once more: which blocks it leaves alone, and where the new slice lies.
-/
import Derived.Test.YteaeedhhdnkldaaAppend8
namespace Go.Proofs.Yteaeedhhdnkldaa
open Go.RowKit Pl

/-- Where the new slice lies: where the old one does, or in a block that was made since. -/
def At8 (w : World) (v v' : Value) : Prop := v'.ownBlock = v.ownBlock ∨ ∃ g, v'.ownBlock = some g ∧ w.heap.size ≤ g
theorem grownBy_chain {a b c : World} {r r2 : Option Nat} (h : a.grownBy b r) (k : b.grownBy c r2) (hr : r2 = r ∨ ∀ j, r2 = some j → a.heap.size ≤ j) : a.grownBy c r :=
  ⟨k.os.trans h.os, k.tape.trans h.tape, k.output.trans h.output, Nat.le_trans h.size k.size, fun i hi hne => (k.block i (Nat.lt_of_lt_of_le hi h.size) (by
    rcases hr with rfl | hr
    · exact hne
    · intro e
      have := hr i e.symm
      omega)).trans (h.block i hi hne)⟩
theorem grownBy_of_below {w w' : World} (h : Below w.heap.size w w') (r : Option Nat) : w.grownBy w' r := ⟨h.os, h.tape, h.output, h.size, fun k hk _ => h.block k hk⟩
theorem at8_of {w w1 : World} {v v' : Value} (h : w.heap.size ≤ w1.heap.size) (hat : v'.ownBlock = v.ownBlock ∨ v'.ownBlock = some w1.heap.size) : At8 w v v' :=
  hat.imp id fun e => ⟨_, e, h⟩
theorem at8_row {w w1 : World} {v v' : Value} {o o' : Obj} (hlt : w.heap.size ≤ w1.heap.size) (hat : v'.ownBlock = v.ownBlock ∨ v'.ownBlock = some ((w1.alloc o).alloc o').heap.size) : v'.ownBlock = v.ownBlock ∨ ∀ j, v'.ownBlock = some j → w.heap.size ≤ j :=
  hat.imp id fun e j h => by
    rw [e] at h
    simp at h
    omega
theorem at8_trans {w w1 w2 : World} {v v2 v3 : Value} {o o' : Obj} (hlt : w.heap.size ≤ w1.heap.size) (h2 : v2.ownBlock = v.ownBlock ∨ v2.ownBlock = some ((w1.alloc o).alloc o').heap.size) (h3 : v3.ownBlock = v2.ownBlock ∨ v3.ownBlock = some w2.heap.size) (hs : w1.heap.size + 1 + 1 ≤ w2.heap.size) : At8 w v v3 := by
  rcases h3 with e | e
  · rcases h2 with f | f
    · exact .inl (e.trans f)
    · exact .inr ⟨_, e.trans f, by simp; omega⟩
  · exact .inr ⟨_, e, by omega⟩

set_option maxRecDepth 100000 in
set_option maxHeartbeats 1000000 in
theorem append_small_g (x : Nat) (hx : x ≤ 246) (w : World) (base : Nat) (hbase : base ≤ w.heap.size) (v : Value) (l : List Nat) (hown : Own8 w base v l) (hl : l.length ≤ 140737488355000) :
    Calls Try.prog 62 #[v, .int .u64 x] w fun e w' => ∃ v', e = .returned v' ∧ Own8 w' base v' (l ++ form x) ∧ w.grownBy w' v.ownBlock ∧ At8 w v v' := by
  obtain ⟨i0, hi, hz0, hz1, hz2⟩ := info_parts info_u8
  have hF := Lib.hid (show form x = [x] by unfold form; rw [if_pos hx])
  have hO := Lib.hid hown
  have hI := Lib.hid hi
  have hZ0 := Lib.hid hz0
  have hZ1 := Lib.hid hz1
  have hZ2 := Lib.hid hz2
  have hw : IntKind.u8.wrap (x : Int) = x := IntWalk.u8_in _ ⟨by omega, by omega⟩
  clear hi hz0 hz1 hz2 hown
  go_enter Try.func62, Try.ntmps62
  go_wp2_with (at_builtin; refine wpList_append_own_at _ rfl _ _ 22 rfl base 5 i0 (.int .u8 0) 1 1 Try.underlying22 hI.out hZ0.out hZ1.out hZ2.out rfl (by decide) _ _ _ rfl (hO.out.alloc _) ⟨w.heap.size, 0, none⟩ 1 1 [B8 x] rfl rfl (cell_one_new _ _ _) (B8_one [x]) (by unfold maxLen; omega) (by omega) (by simp; omega) ?_; intro v' w1 hown1 hgrow1 _ hat1)
  go_ret
  refine ⟨v', rfl, ?_, ?_, ?_⟩
  · have e : l ++ form x = l ++ [x] := by rw [hF.out]
    rw [e]
    unfold Own8
    rw [List.length_append, List.map_append]
    exact hown1
  · exact (World.grownBy_alloc w _ _).trans hgrow1
  · exact at8_of (by simp) hat1

set_option maxRecDepth 100000 in
set_option maxHeartbeats 1000000 in
theorem append_large_g (x : Nat) (hx0 : 246 < x) (hx : x < 18446744073709551616) (w : World) (base : Nat) (hbase : base ≤ w.heap.size) (v : Value) (l : List Nat) (hown : Own8 w base v l) (hl : l.length ≤ 140737488355000) :
    Calls Try.prog 62 #[v, .int .u64 x] w fun e w' => ∃ v', e = .returned v' ∧ Own8 w' base v' (l ++ form x) ∧ w.grownBy w' v.ownBlock ∧ At8 w v v' := by
  obtain ⟨i0, hi, hz0, hz1, hz2⟩ := info_parts info_u8
  have hF := Lib.hid (show form x = (246 + (digs x).length) :: digs x by unfold form; rw [if_neg (by omega)])
  have hO := Lib.hid hown
  have hI := Lib.hid hi
  have hZ0 := Lib.hid hz0
  have hZ1 := Lib.hid hz1
  have hZ2 := Lib.hid hz2
  clear hi hz0 hz1 hz2 hown
  have hD := Lib.hid (digitsOf_calls x w hx)
  have hd8 := digs_length x
  have hd0 : 1 ≤ (digs x).length := by obtain ⟨d, r, e, _⟩ := digs_ne (x := x) hx0 hx; rw [e]; simp
  obtain ⟨f, hf⟩ : ∃ f, f = 8 - (digs x).length := ⟨_, rfl⟩
  have hl8 := arr_length f x (by omega)
  have hone : ∀ u ∈ arr f x, u.oneCell' = true := by intro u hu; simp only [arr, List.mem_map] at hu; obtain ⟨d, _, rfl⟩ := hu; rfl
  have H1 := Lib.hid (show (Try.prog.info? 103).map (·.size) = some (arr f x).toArray.size by rw [List.size_toArray, hl8]; exact info_digits)
  have H2 := Lib.hid (show 8 = (arr f x).toArray.size by rw [List.size_toArray, hl8])
  have H3 := Lib.hid (show (arr f x).toArray.all (·.oneCell') = true by simpa using hone)
  have H4 := Lib.hid (arr_drop x f hf)
  clear hl8 hone
  rw [← hf] at hD
  generalize arr f x = c at *
  have hf7 : f ≤ 7 := by omega
  have hne : ¬ (8 = f) := by omega
  have hk := Lib.hid (show (digs x).length = 8 - f by omega)
  have hsl := fun b => slice_digits b f hf7
  clear hf hd8 hd0
  go_enter Try.func62, Try.ntmps62
  go_wp2_with (first
    | (go_at_call 69; refine hD.out.mono ?_; rintro e w1 ⟨rfl, hb⟩; have hO1 := Lib.hid (ownsRow_below hO.out hb); have hlt := hb.size; have hG := Lib.hid (fun k (h : v.ownBlock = some k) => (hO.out.lt k h)))
    | (refine wpList_store_row rfl 103 _ _ rfl _ _ rfl rfl 103 _ (heap_alloc_last _ _) H1.out H2.out H3.out ?_; rw [World.setRow_alloc_new])
    | (at_builtin; refine wpList_append_own_at _ rfl (.tmp 19) (.tmp 25) 22 rfl base 5 i0 (.int .u8 0) 1 1 Try.underlying22 hI.out hZ0.out hZ1.out hZ2.out rfl (by decide) _ _ _ rfl ((hO1.out.alloc _).alloc _) ⟨w1.heap.size + 1, 0, none⟩ 1 1 [.int .u8 (246 + ((8 - f : Nat) : Int))] rfl rfl (by have := cell_one_new (w1.alloc (.cells c.toArray 103)) (.int .u8 (246 + ((8 - f : Nat) : Int))) 5; rwa [World.size_alloc] at this) (by intro u hu; simp at hu; subst hu; rfl) (by unfold maxLen; omega) (by omega) (by simp; omega) ?_; intro v2 w2 hown2 hgrow2 _ hat2; have HT2 := Lib.hid hat2; clear hat2; have hB2 := Lib.hid ((hgrow2.block w1.heap.size (by simp; omega) (fun e => by have := (hG.out _ e.symm).2; omega)).trans (heap_alloc2_old _ _ _)); have hO2 := Lib.hid hown2; have hG2 := Lib.hid hgrow2; clear hown2 hgrow2; have hs2 := hG2.out.size; rw [World.size_alloc, World.size_alloc] at hs2)
    | (at_builtin; refine wpList_append_own_at _ rfl (.tmp 27) (.tmp 29) 22 rfl base 5 i0 (.int .u8 0) 1 1 Try.underlying22 hI.out hZ0.out hZ1.out hZ2.out rfl (by decide) _ _ _ rfl hO2.out ⟨w1.heap.size, f, none⟩ (8 - f) (8 - f) ((digs x).map B8) rfl (by rw [List.length_map, hk.out, Nat.mul_one]) (cell_in_row hB2.out _ H4.out) (B8_one _) (by unfold maxLen; omega) (by omega) (by omega) ?_; intro v3 w3 hown3 hgrow3 _ hat3; have HT3 := Lib.hid hat3; clear hat3; have hO3 := Lib.hid hown3; have hG3 := Lib.hid hgrow3; clear hown3 hgrow3))
  go_ret
  refine ⟨v3, rfl, ?_, ?_, ?_⟩
  · have e : (l ++ form x) = l ++ [246 + (8 - f)] ++ digs x := by rw [hF.out, hk.out]; simp
    have e2 : (l ++ form x).length = l.length + 1 + (8 - f) := by rw [e, List.length_append, List.length_append, hk.out]; rfl
    unfold Own8
    rw [e2, e, List.map_append, List.map_append]
    exact hO3.out
  · exact grownBy_chain (grownBy_chain ((grownBy_of_below hb _).trans ((World.grownBy_alloc w1 _ _).trans (World.grownBy_alloc _ _ _))) hG2.out (.inl rfl)) hG3.out (at8_row hlt HT2.out)
  · exact at8_trans hlt HT2.out HT3.out hs2

/-- num.Append, at a slice of the call's own. -/
theorem append_calls_g (x : Nat) (hx : x < 18446744073709551616) (w : World) (base : Nat) (hbase : base ≤ w.heap.size) (v : Value) (l : List Nat) (hown : Own8 w base v l) (hl : l.length ≤ 140737488355000) :
    Calls Try.prog 62 #[v, .int .u64 x] w fun e w' => ∃ v', e = .returned v' ∧ Own8 w' base v' (l ++ form x) ∧ w.grownBy w' v.ownBlock ∧ At8 w v v' := by
  by_cases h : x ≤ 246
  · exact append_small_g x h w base hbase v l hown hl
  · exact append_large_g x (by omega) hx w base hbase v l hown hl

theorem run_append8_at (w : World) (ty : TypeId) (base : Nat) (hbase : base ≤ w.heap.size) (v : Value) (l : List Nat) (hown : Own8 w base v l) (x : Value) (m : List Nat) (hx : BRow w x m) (hl : l.length + m.length ≤ 140737488355328) :
    ∃ v' w', (Builtin.append_ #[22, 22] ty #[v, x]).run Try.prog w = .ok v' w' ∧ Own8 w' base v' (l ++ m) ∧ w.grownBy w' v.ownBlock ∧ At8 w v v' := by
  obtain ⟨i0, hi, hz0, hz1, hz2⟩ := info_parts info_u8
  have fin : ∀ (ad : Addr) (c : Nat), x = .slice (some ad) m.length c → (∀ j u, (m.map B8)[j]? = some u → w.cell? (ad.add j) = some u) →
      ∃ v' w', (Builtin.append_ #[22, 22] ty #[v, x]).run Try.prog w = .ok v' w' ∧ Own8 w' base v' (l ++ m) ∧ w.grownBy w' v.ownBlock ∧ At8 w v v' := by
    rintro ad c rfl hcells
    obtain ⟨v', w', hr, ho, hg, _, hat⟩ := run_append_own_at (P := Try.prog) w base 22 ty 5 i0 (.int .u8 0) 1 1 Try.underlying22 hi hz0 hz1 hz2 rfl (by decide) v l.length (l.map B8) hown ad m.length c (m.map B8) (by simp) hcells (B8_one m) (by unfold maxLen; omega) (by omega) hbase
    refine ⟨v', w', hr, ?_, hg, hat.imp id fun e => ⟨_, e, Nat.le_refl _⟩⟩
    unfold Own8
    rw [List.length_append, List.map_append]
    exact ho
  obtain ⟨_, ⟨a, c, rfl, rfl, hc⟩ | ⟨b, off, cap, rfl, h1, h2, h3⟩⟩ := hx
  · cases a with
    | some ad => exact fin ad c rfl (fun j u hu => by simp at hu)
    | none =>
      refine ⟨v, w, ?_, by simpa using hown, ⟨rfl, rfl, rfl, Nat.le_refl _, fun _ _ _ => rfl⟩, .inl rfl⟩
      rcases hown.2 with ⟨rfl, _⟩ | ⟨g, cap, cur, rfl, _, hg, hnc, _⟩
      · simp [Builtin.append_, run_underlying Try.underlying22, sizeOf, typeInfo, hi, Builtin.lenOf, Builtin.firstCells]
      · simp [Builtin.append_, run_underlying Try.underlying22, sizeOf, typeInfo, hi, Builtin.lenOf, Builtin.firstCells, hnc, storeCells]
  · exact fin ⟨b, off, none⟩ cap rfl (brow_cells h3)

/-- THE LAW FOR THE WALK. -/
theorem wpList_append8_at {ops : Array Oper} {rest : List Oper} {o : Oper} {a : Act} {w : World} {Q : Exit → Act → World → Prop} (hgd : o.guard = none) (s x : Operand)
    (ho : o.op = .call { callee := .builtin .append, args := #[s, x], argTypes := #[22, 22] })
    (base : Nat) (v : Value) (l : List Nat) (hs : a.eval s = v) (hown : Own8 w base v l) (xv : Value) (m : List Nat) (hx : a.eval x = xv) (hrow : BRow w xv m)
    (hl : l.length + m.length ≤ 140737488355328) (hbase : base ≤ w.heap.size)
    (h : ∀ v' w', Own8 w' base v' (l ++ m) → w.grownBy w' v.ownBlock → At8 w v v' → wpList Try.prog ops Q rest (a.put o.dst v') w') : wpList Try.prog ops Q (o :: rest) a w :=
  wpList_plain hgd fun K hK => by
    obtain ⟨v', w', hr, h2, h3, h4⟩ := run_append8_at w o.type base hbase v l hown xv m hrow hl
    unfold Oper.wp execOp
    simp only [ho, resolve, invoke, builtin, Sem.run_bind, Sem.run_pure, Result.andThen_ok, List.map_toArray, List.map_cons, List.map_nil, hs, hx, hr]
    exact hK _ _ (h v' w' h2 h3 h4)

theorem at8_ne {w : World} {v v' : Value} {F : Nat} (h : At8 w v v') (hF : F < w.heap.size) (hv : v.ownBlock ≠ some F) : v'.ownBlock ≠ some F := by
  rcases h with e | ⟨g, e, hg⟩
  · rw [e]; exact hv
  · rw [e]; intro e'; cases e'; omega
end Go.Proofs.Yteaeedhhdnkldaa
