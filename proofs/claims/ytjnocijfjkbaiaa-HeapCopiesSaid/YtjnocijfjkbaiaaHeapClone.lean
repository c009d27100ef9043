/-
  CONTRACTS of slices.Clone at entries and at ints, and of Copy.
-/
import Derived.Test.YtjnocijfjkbaiaaHeapK
namespace Go.Proofs.Ytjnocijfjkbaiaa
open Go.RowKit Go.Shelf

/-- append of some cells to a row of the call's own, of any element. -/
theorem wpList_appG {ops : Array Oper} {rest : List Oper} {o : Oper} {a : Act} {w : World} {Q : Exit → Act → World → Prop} (hgd : o.guard = none) (s x : Operand) (T E : TypeId) (i : TypeInfo) (z : Value) (size bytes : Nat)
    (hT : Try.prog.underlying T = some (.slice E)) (hi : Try.prog.info? E = some i) (hz : i.zero = some z) (hsize : i.size = size) (hby : i.bytes = bytes) (hzs : z.cells.size = size) (hsz : 0 < size)
    (ho : o.op = .call { callee := .builtin .append, args := #[s, x], argTypes := #[T, T] })
    (base : Nat) (v : Value) (k : Nat) (xs : List Value) (hs : a.eval s = v) (hown : w.ownsRow base E size v k xs) (g m c : Nat) (V : List Value) (hx : a.eval x = .slice (some ⟨g, 0, none⟩) m c) (hl : V.length = m * size) (hV : ∀ j u, V[j]? = some u → w.cell? ⟨g, j, none⟩ = some u) (h1 : ∀ u ∈ V, u.oneCell' = true)
    (h63 : k + m ≤ maxLen) (hb : (k + m) * bytes ≤ 140737488355328) (hbase : base ≤ w.heap.size)
    (h : ∀ v' w', w'.ownsRow base E size v' (k + m) (xs ++ V) → w.grownBy w' v.ownBlock → (v' = .slice none 0 0 → v = .slice none 0 0) → (v'.ownBlock = v.ownBlock ∨ v'.ownBlock = some w.heap.size) → wpList Try.prog ops Q rest (a.put o.dst v') w') : wpList Try.prog ops Q (o :: rest) a w :=
  wpList_plain hgd fun K hK => by
    obtain ⟨v', w', hr, h2, h3, h4, h5⟩ := run_append_own_at (P := Try.prog) w base T o.type E i z size bytes hT hi hz hsize hby hzs hsz v k xs hown ⟨g, 0, none⟩ m c V hl (fun j u hu => by rw [Addr.add_lit, Nat.zero_add]; exact hV j u hu) h1 h63 hb hbase
    unfold Oper.wp execOp
    simp only [ho, resolve, invoke, builtin, Sem.run_bind, Sem.run_pure, Result.andThen_ok, List.map_toArray, List.map_cons, List.map_nil, hs, hx, hr]
    exact hK _ _ (h v' w' h2 h3 (fun e => (h4.1 e).1) h5)

set_option maxRecDepth 100000 in
set_option maxHeartbeats 1000000 in
theorem cloneE_calls {w : World} {tv : Value} {t : List En} (h : TV w tv t) (hn : t.length ≤ 100000) :
    Calls Try.prog 42 #[tv] w fun e w' => ∃ v', e = .returned v' ∧ TV w' v' t ∧ (∀ k, v'.ownBlock = some k → w.heap.size ≤ k) ∧ Below w.heap.size w w' := by
  have q : ∀ (W : World) (a : Option Addr) (n c n' c' : Nat), (binOp .eql 39 (.slice a n c) (.slice none n' c')).run Try.prog W = .ok (.bool a.isNone) W := fun W a n c n' c' => Lib.run_eql_slice_nil W _ _ a n c n' c' Try.underlying39
  obtain ⟨i0, hi, hz0, hz1, hz2⟩ := info_parts info_entry
  have HR := Lib.hid h.owns
  rcases h with ⟨rfl, rfl⟩ | ⟨g, cap, rfl, -, -⟩
  · go_enter Try.func42, Try.ntmps42
    go_wp2
    go_ret
    exact ⟨.slice none 0 0, rfl, .inl ⟨rfl, rfl⟩, (fun k (hk : Value.ownBlock (.slice none 0 0) = some k) => by cases hk), Below.refl _ _⟩
  · have HL := Lib.hid (World.ownsRow_lit (base := w.heap.size) (e := 81) (size := 4) w #[] 0 (Nat.le_refl _) (Nat.zero_le _) rfl)
    have HA := Lib.hid ((Below.refl w.heap.size w).alloc (Nat.le_refl _) (.cells #[] 81))
    have HC := Lib.hid (show ∀ j u, (cellsE t)[j]? = some u → (w.alloc (.cells #[] 81)).cell? ⟨g, j, none⟩ = some u from fun j u hu => by
      have hj : j < t.length * 4 := by rw [← cellsE_len t]; exact (List.getElem?_eq_some_iff.1 hu).1
      rw [(HR.out.alloc _).cellAt j hj]
      exact hu)
    go_enter Try.func42, Try.ntmps42
    go_wp2_with (at_builtin; go_must (refine wpList_appG rfl (.tmp 5) (.tmp 6) 39 81 i0 _ 4 32 Try.underlying39 hi hz0 hz1 hz2 rfl (by decide) (by rfl) w.heap.size _ 0 [] (by first | rfl | simp [Act.eval]) HL.out g t.length cap (cellsE t) (by first | rfl | simp [Act.eval]) (cellsE_len t) HC.out (cellsE_one t) (by unfold maxLen; omega) (by omega) HA.out.size ?_; intro v5 w5 hr5 hg5 hn5 hat5; have HR5 := Lib.hid hr5; have HB5 := Lib.hid (HA.out.grown hg5 HA.out.size (fun j hj => (HL.out.lt j hj).1)); clear hr5 hg5 hat5 hn5))
    go_ret
    have := HR5.out
    rw [Nat.zero_add, List.nil_append] at this
    exact ⟨_, rfl, (TV.of_owns this).1, (TV.of_owns this).2, HB5.out⟩

def cellsX (ix : Nat → Int) (n : Nat) : List Value := (List.range n).map fun p => .int .i64 (ix p)
theorem cellsX_get (ix : Nat → Int) (n j : Nat) (hj : j < n) : (cellsX ix n)[j]? = some (.int .i64 (ix j)) := by simp [cellsX, hj]
set_option maxRecDepth 100000 in
set_option maxHeartbeats 1000000 in
theorem cloneX_calls {w : World} {x n xc : Nat} {ix : Nat → Int} (h : XRow w x n ix) (hn : n ≤ 100000) :
    Calls Try.prog 43 #[.slice (some ⟨x, 0, none⟩) n xc] w fun e w' => ∃ x' xc', e = .returned (.slice (some ⟨x', 0, none⟩) n xc') ∧ XRow w' x' n ix ∧ w.heap.size ≤ x' ∧ n ≤ xc' ∧ xc' ≤ maxLen ∧ Below w.heap.size w w' := by
  have q : ∀ (W : World) (a : Option Addr) (n c n' c' : Nat), (binOp .eql 25 (.slice a n c) (.slice none n' c')).run Try.prog W = .ok (.bool a.isNone) W := fun W a n c n' c' => Lib.run_eql_slice_nil W _ _ a n c n' c' Try.underlying25
  obtain ⟨i0, hi, hz0, hz1, hz2⟩ := info_parts info_int
  have HL := Lib.hid (World.ownsRow_lit (base := w.heap.size) (e := 3) (size := 1) w #[] 0 (Nat.le_refl _) (Nat.zero_le _) rfl)
  have HA := Lib.hid ((Below.refl w.heap.size w).alloc (Nat.le_refl _) (.cells #[] 3))
  have hl : (cellsX ix n).length = n * 1 := by simp [cellsX]
  have h1 : ∀ u ∈ cellsX ix n, u.oneCell' = true := by
    intro u hu
    simp only [cellsX, List.mem_map] at hu
    obtain ⟨p, -, rfl⟩ := hu
    rfl
  have HC := Lib.hid (show ∀ j u, (cellsX ix n)[j]? = some u → (w.alloc (.cells #[] 3)).cell? ⟨x, j, none⟩ = some u from fun j u hu => by
    have hj : j < n := by have := (List.getElem?_eq_some_iff.1 hu).1; omega
    rw [cellsX_get ix n j hj] at hu
    rw [cell_blk (HA.out.block x h.lt), h.cell j hj]
    exact hu)
  have HO := Lib.hid h1
  have HLn := Lib.hid hl
  clear h1 hl
  go_enter Try.func43, Try.ntmps43
  go_wp2_with (at_builtin; go_must (refine wpList_appG rfl (.tmp 5) (.tmp 6) 25 3 i0 _ 1 8 Try.underlying25 hi hz0 hz1 hz2 rfl (by decide) (by rfl) w.heap.size _ 0 [] (by first | rfl | simp [Act.eval]) HL.out x n xc (cellsX ix n) (by first | rfl | simp [Act.eval]) HLn.out HC.out HO.out (by unfold maxLen; omega) (by omega) HA.out.size ?_; intro v5 w5 hr5 hg5 hn5 hat5; have HR5 := Lib.hid hr5; have HN5 := Lib.hid hn5; have HB5 := Lib.hid (HA.out.grown hg5 HA.out.size (fun j hj => (HL.out.lt j hj).1)); clear hr5 hg5 hat5 hn5))
  go_ret
  have := HR5.out
  rw [Nat.zero_add, List.nil_append] at this
  have hrow := this
  obtain ⟨_, ⟨e, -⟩ | ⟨g, cap, cur, rfl, hb, hc, hn1, hm, hs, ht⟩⟩ := this
  · have := HN5.out e
    cases this
  · refine ⟨g, cap, rfl, ⟨⟨cur, hc⟩, fun p hp => ?_⟩, hb, hn1, hm, HB5.out⟩
    rw [hrow.cellAt p (by omega), cellsX_get ix n p hp]

set_option maxRecDepth 100000 in
set_option maxHeartbeats 2000000 in
/-- Copy: a heap of its own, with the same places. -/
theorem copy_calls {w : World} {q : Nat} {F : Nat → Prop} {n : Nat} {M : Mp} (h : HA w q F n M) :
    Calls Try.prog 22 #[.pointer (some ⟨q, 0, none⟩)] w fun e w' => ∃ q', e = .returned (.pointer (some ⟨q', 0, none⟩)) ∧ HNew w w' q' n M := by
  have mixed : Try.prog.follows .mixedOrders = true := by kernel_rfl
  obtain ⟨tv, x, xc, t, ix, hd, ho, hh, hF⟩ := h.ex
  have ht : t.length ≤ 100000 := by have := hd.agr.len; have := hd.caps.2.2; omega
  have hn : n ≤ 100000 := by have := hd.caps.2.2; omega
  obtain ⟨c0, c1, c2, cf⟩ := hd.cells
  have HI := Lib.hid (is_calls hd.own)
  have hq : q < w.heap.size := hd.lt q (.inl rfl)
  have CE := Lib.hid (show ∀ W, Below w.heap.size w W → Calls Try.prog 42 #[tv] W fun e w' => ∃ a' c', e = .returned (.slice a' t.length c') ∧ Below w.heap.size w w' ∧ (TV w' (.slice a' t.length c') t ∧ ∀ k, (Value.slice a' t.length c').ownBlock = some k → w.heap.size ≤ k) ∧ w'.cell? ⟨q, 1, none⟩ = some (.slice (some ⟨x, 0, none⟩) n xc) from fun W hb => (cloneE_calls (hd.tree.below hb) ht).mono fun e w' hh => by
    obtain ⟨v', rfl, h1, h2, h3⟩ := hh
    have hb2 := hb.trans (h3.mono hb.size)
    obtain ⟨a', c', rfl, -, -⟩ := h1.shape
    exact ⟨a', c', rfl, hb2, ⟨h1, fun k hk => by have := h2 k hk; have := hb.size; omega⟩, by rw [cell_blk (hb2.block q hq)]; exact c1⟩)
  have CX := Lib.hid (show ∀ W v', Below w.heap.size w W → (TV W v' t ∧ ∀ k, v'.ownBlock = some k → w.heap.size ≤ k) → Calls Try.prog 43 #[.slice (some ⟨x, 0, none⟩) n xc] W fun e w' => ∃ x' xc', e = .returned (.slice (some ⟨x', 0, none⟩) n xc') ∧ XRow w' x' n ix ∧ W.heap.size ≤ x' ∧ n ≤ xc' ∧ xc' ≤ maxLen ∧ Below w.heap.size w w' ∧ TV w' v' t ∧ (∀ k, v'.ownBlock = some k → w.heap.size ≤ k) ∧ v'.ownBlock ≠ some x' from fun W v' hb ht' => (cloneX_calls (hd.index.keep (hb.block _ hd.index.lt)) hn).mono fun e w' hh => by
    obtain ⟨x', xc', rfl, h1, h2, h3, h4, h5⟩ := hh
    exact ⟨x', xc', rfl, h1, h2, h3, h4, hb.trans (h5.mono hb.size), ht'.1.below h5, ht'.2, fun e => by have := ht'.1.lt x' e; omega⟩)
  have HD := Lib.hid hd
  have HO := Lib.hid ho
  have HH := Lib.hid hh
  have b0 : Below w.heap.size w w := Below.refl _ _
  have b0d : Below w.heap.size w w.drew := (Below.refl _ _).drew
  have d0 : w.drew.cell? ⟨q, 0, none⟩ = some tv := c0
  have d1 : w.drew.cell? ⟨q, 1, none⟩ = some (.slice (some ⟨x, 0, none⟩) n xc) := c1
  clear h hd ho hh hF ht hn
  go_enter Try.func22, Try.ntmps22
  go_wp2_with (go_at_call 35; refine HI.out.mono ?_; rintro e w2 ⟨rfl, rfl⟩)
  go_region_law (first
    | (go_simp; go_at_call 42; refine (CE.out _ (by with_reducible assumption)).mono ?_; rintro e w5 ⟨a5, c5, rfl, b5, t5, y1⟩)
    | (go_simp; go_at_call 43; refine (CX.out _ _ (by with_reducible assumption) (by with_reducible assumption)).mono ?_; rintro e w6 ⟨x6, xc6, rfl, r6, g6, m6, n6, b6, t6, k6, o6⟩)
    | fail)
  all_goals
    simp [Act.put]
    go_wp2
    go_ret
    have hb := b6.alloc b6.size (.cells #[.slice a5 t.length c5, .slice (some ⟨x6, 0, none⟩) n xc6, .bool true] 41)
    have hnew := World.alloc_heap_new w6 (.cells #[.slice a5 t.length c5, .slice (some ⟨x6, 0, none⟩) n xc6, .bool true] 41)
    have h6 := b6.size
    refine ⟨_, rfl, Foot w6.heap.size (.slice a5 t.length c5) x6, ⟨.slice a5 t.length c5, x6, xc6, t, ix, ⟨hnew, t6.below ((Below.refl _ _).alloc (Nat.le_refl _) _), r6.keep (Below.heap_alloc _ _ _ r6.lt), ⟨by have := r6.lt; omega, fun e => by have := t6.lt _ e; omega, o6⟩, ⟨m6, n6, HD.out.caps.2.2⟩, HD.out.agr⟩, HO.out, HH.out, fun _ => Iff.rfl⟩, hb, ?_⟩
    rintro k (rfl | e | rfl)
    · omega
    · exact k6 k e
    · have := b5.size; omega
end Go.Proofs.Ytjnocijfjkbaiaa
