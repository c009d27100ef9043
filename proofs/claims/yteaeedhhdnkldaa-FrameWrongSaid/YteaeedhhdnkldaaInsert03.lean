/-
  CONTRACTS of slices.Clone and slices.Insert at rows of rows of bytes.
-/
import Derived.Test.YteaeedhhdnkldaaLeast03
import Derived.Test.YteaeedhhdnkldaaPlayed
import Derived.Lib.Overlaps
import Derived.Lib.AppendZerosOnto
import Derived.Laws.CopyOwn
import Derived.Laws.NewBlocks
namespace Go.Proofs.Yteaeedhhdnkldaa
open Go.RowKit Go.Shelf Pl

theorem ins_grow {α : Type} (L0 V : List α) (u : α) (i n : Nat) (hV : V.length = n) (hi : i ≤ n) (h0 : L0.take i = V.take i) : (splice (splice L0 i [u]) (i + 1) (V.drop i)).take (n + 1) = V.take i ++ u :: V.drop i := by
  have hA : (V.take i).length = i := by rw [List.length_take]; omega
  have hD : (V.drop i).length = n - i := by rw [List.length_drop]; omega
  have e1 : (splice L0 i [u]).take (i + 1) = V.take i ++ [u] := by
    unfold splice
    rw [h0, ← List.append_assoc, List.take_append_of_le_length (by simp [hA]), List.take_of_length_le (by simp [hA])]
  have e2 : splice (splice L0 i [u]) (i + 1) (V.drop i) = (splice L0 i [u]).take (i + 1) ++ (V.drop i ++ (splice L0 i [u]).drop (i + 1 + (V.drop i).length)) := rfl
  rw [e2, e1, ← List.append_assoc, List.take_append_of_le_length (by simp [hA, hD]; omega), List.take_of_length_le (by simp [hA, hD]; omega)]
  simp
theorem ins_shift {α : Type} (L0 V : List α) (u : α) (i n : Nat) (hV : V.length = n) (hi : i ≤ n) (h0 : L0.take n = V) (hl : n + 1 ≤ L0.length) : (splice (splice L0 (i + 1) (V.drop i)) i [u]).take (n + 1) = V.take i ++ u :: V.drop i := by
  have hA : (V.take i).length = i := by rw [List.length_take]; omega
  have hD : (V.drop i).length = n - i := by rw [List.length_drop]; omega
  have hT : (L0.take (i + 1)).length = i + 1 := by rw [List.length_take]; omega
  have e0 : L0.take i = V.take i := by rw [← h0, List.take_take, Nat.min_eq_left hi]
  have e1 : (splice L0 (i + 1) (V.drop i)).take i = V.take i := by
    unfold splice
    rw [List.take_append_of_le_length (by omega), List.take_take, Nat.min_eq_left (by omega), e0]
  have e2 : (splice L0 (i + 1) (V.drop i)).drop (i + 1) = V.drop i ++ L0.drop (i + 1 + (V.drop i).length) := by
    unfold splice
    rw [List.drop_left' hT]
  have e3 : splice (splice L0 (i + 1) (V.drop i)) i [u] = (splice L0 (i + 1) (V.drop i)).take i ++ ([u] ++ (splice L0 (i + 1) (V.drop i)).drop (i + 1)) := rfl
  rw [e3, e1, e2, ← List.append_assoc, ← List.append_assoc, List.take_append_of_le_length (by simp [hA, hD]; omega), List.take_of_length_le (by simp [hA, hD]; omega)]
  simp

set_option maxRecDepth 100000 in
set_option maxHeartbeats 1000000 in
/-- slices.Clone of a row of rows of the call's own. -/
theorem cloneM_calls (b0 n : Nat) (v : Value) (V : List Value) (w : World) (h : w.ownsRow b0 22 1 v n V) (h1 : ∀ u ∈ V, u.oneCell' = true) (hn : n ≤ 100000) :
    Calls Try.prog 48 #[v] w fun e w' => ∃ v', e = .returned v' ∧ w'.ownsRow w.heap.size 22 1 v' n V ∧ Below w.heap.size w w' := by
  have q : ∀ (W : World) (a : Option Addr) (n c n' c' : Nat), (binOp .eql 45 (.slice a n c) (.slice none n' c')).run Try.prog W = .ok (.bool a.isNone) W := fun W a n c n' c' => Lib.run_eql_slice_nil W _ _ a n c n' c' Try.underlying45
  have HR := Lib.hid h
  have HO := Lib.hid h1
  obtain ⟨hlen, ⟨rfl, h0⟩ | ⟨g, cap, cur, rfl, -, -, -, -, -, -⟩⟩ := h
  · subst h0
    have hV : V = [] := List.eq_nil_of_length_eq_zero (by simpa using hlen)
    subst hV
    go_enter Try.func48, Try.ntmps48
    go_wp2
    go_ret
    exact ⟨_, rfl, World.ownsRow_nil _ _ _ _, Below.refl _ _⟩
  · have HL := Lib.hid (World.ownsRow_lit (base := w.heap.size) (e := 22) (size := 1) w #[] 0 (Nat.le_refl _) (Nat.zero_le _) rfl)
    have HA := Lib.hid ((Below.refl w.heap.size w).alloc (Nat.le_refl _) (.cells #[] 22))
    clear hlen h1
    go_enter Try.func48, Try.ntmps48
    go_wp2_with (at_builtin; go_must (refine wpList_appendMM rfl (.tmp 5) (.tmp 6) (by rfl) w.heap.size _ 0 [] (by first | rfl | simp [Act.eval]) HL.out b0 n _ V (by first | rfl | simp [Act.eval]) (HR.out.alloc _) HO.out (by omega) HA.out.size ?_; intro v5 w5 hr5 hg5 hat5; have HR5 := Lib.hid hr5; have HB5 := Lib.hid (HA.out.grown hg5 HA.out.size (fun j hj => (HL.out.lt j hj).1)); clear hr5 hg5 hat5))
    go_ret
    refine ⟨_, rfl, ?_, HB5.out⟩
    have := HR5.out
    rw [Nat.zero_add, List.nil_append] at this
    exact this

theorem wp_copyM {o : Oper} {a : Act} {w : World} {K : Act → World → Prop} {Q : Exit → Act → World → Prop} (d x : Operand)
    (ho : o.op = .call { callee := .builtin .copy, args := #[d, x], argTypes := #[45, 45] }) (v u : Value) (hd : a.eval d = v) (hx : a.eval x = u) {v' : Value} {w' : World}
    (hr : (Builtin.copy_ #[45, 45] o.type #[v, u]).run Try.prog w = .ok v' w') (h : K (a.put o.dst v') w') : o.wp Try.prog a w K Q := by
  unfold Oper.wp execOp
  simp only [ho, resolve, invoke, builtin, Sem.run_bind, Sem.run_pure, Result.andThen_ok, List.map_toArray, List.map_cons, List.map_nil, hd, hx, hr]
  exact h
theorem wpList_copyM {ops : Array Oper} {rest : List Oper} {o : Oper} {a : Act} {w : World} {Q : Exit → Act → World → Prop} (hgd : o.guard = none) (d x : Operand)
    (ho : o.op = .call { callee := .builtin .copy, args := #[d, x], argTypes := #[45, 45] }) (v u : Value) (hd : a.eval d = v) (hx : a.eval x = u) {v' : Value} {w' : World}
    (hr : (Builtin.copy_ #[45, 45] o.type #[v, u]).run Try.prog w = .ok v' w') (h : wpList Try.prog ops Q rest (a.put o.dst v') w') : wpList Try.prog ops Q (o :: rest) a w :=
  wpList_plain hgd fun _ hK => wp_copyM d x ho v u hd hx hr (hK _ _ h)
theorem step_copyM {ops : Array Oper} {o : Oper} {a : Act} {w : World} {K : Act → World → Prop} {Q : Exit → Act → World → Prop} {E : Prop} (hg : o.guard = none) (d x : Operand)
    (ho : o.op = .call { callee := .builtin .copy, args := #[d, x], argTypes := #[45, 45] }) (v u : Value) (hd : a.eval d = v) (hx : a.eval x = u) {v' : Value} {w' : World}
    (hr : (Builtin.copy_ #[45, 45] o.type #[v, u]).run Try.prog w = .ok v' w') (h : K (a.put o.dst v') w') : if Region.wanted o (yielded ops a.tmps) = true then Oper.wp Try.prog o a w K Q else E := by
  rw [if_pos (by simp [Region.wanted, hg])]
  exact wp_copyM d x ho v u hd hx hr h
theorem size1_row : (Try.prog.info? 22).map (·.size) = some 1 := by kernel_rfl
set_option maxRecDepth 100000 in
set_option maxHeartbeats 4000000 in
/-- slices.Insert of one row into a row of rows of the call's own. -/
theorem insertM_calls (base n i vb : Nat) (v u : Value) (V : List Value) (w : World) (hbase : base ≤ w.heap.size) (h : w.ownsRow base 22 1 v n V) (hu : w.heap[vb]? = some (.cells #[u] 22 (0, 0))) (hne : v.ownBlock ≠ some vb) (hi : i ≤ n) (hn : n ≤ 1000) (h1 : ∀ x ∈ V, x.oneCell' = true) (h1u : u.oneCell' = true) :
    Calls Try.prog 47 #[v, .int .i64 i, .slice (some ⟨vb, 0, none⟩) 1 1] w fun e w' => ∃ v', e = .returned v' ∧ w'.ownsRow base 22 1 v' (n + 1) (V.take i ++ u :: V.drop i) ∧ Below base w w' := by
  have hcu : ∀ j x, [u][j]? = some x → w.cell? ((⟨vb, 0, none⟩ : Addr).add j) = some x := by
    intro j x hx
    have hj : j = 0 := by
      rcases Nat.eq_zero_or_pos j with h | h
      · exact h
      · rw [List.getElem?_eq_none (by simp only [List.length_cons, List.length_nil]; omega)] at hx; cases hx
    subst hj
    simp only [List.getElem?_cons_zero, Option.some.injEq] at hx
    subst hx
    have hadd : (⟨vb, 0, none⟩ : Addr).add 0 = ⟨vb, 0, none⟩ := by unfold Addr.add; split <;> simp_all
    rw [hadd, cell_of_row w vb 0 _ _ (0, 0) hu]
    rfl
  have h1x : ∀ x ∈ [u], x.oneCell' = true := fun x hx => by rw [List.mem_singleton.1 hx]; exact h1u
  have HCu := Lib.hid hcu
  have H1x := Lib.hid h1x
  have HR := Lib.hid h
  have hvl : V.length = n := by have := h.1; omega
  by_cases hin : i = n
  · subst hin
    have hfin : V.take i ++ u :: V.drop i = V ++ [u] := by rw [← hvl, List.take_length, List.drop_length]
    rw [hfin]
    have HB := Lib.hid hbase
    clear hfin hu hcu h1x h1 h1u hne hvl hi
    rcases h.2 with ⟨rfl, h0⟩ | ⟨g, cap, cur, rfl, _, _, hcap, hmax, _, _⟩
    · subst h0
      clear h
      go_enter Try.func47, Try.ntmps47
      go_wp2_with (at_builtin; go_must (refine wpList_appendM rfl (.tmp 23) (.tmp 24) (by rfl) base _ 0 V (by first | rfl | simp [Act.eval]) HR.out ⟨vb, 0, none⟩ 1 1 [u] (by first | rfl | simp [Act.eval]) rfl HCu.out H1x.out (by omega) HB.out ?_; intro v5 w5 hr5 hg5 hat5; have HR5 := Lib.hid hr5; have HB5 := Lib.hid ((Below.refl base w).grown hg5 HB.out (fun j hj => (HR.out.lt j hj).1)); clear hr5 hg5 hat5))
      go_ret
      exact ⟨_, rfl, HR5.out, HB5.out⟩
    · unfold maxLen at hmax
      have hci : (i : Int) ≤ (cap : Int) := by omega
      clear h
      go_enter Try.func47, Try.ntmps47
      go_wp2_with (at_builtin; go_must (refine wpList_appendM rfl (.tmp 23) (.tmp 24) (by rfl) base _ i V (by first | rfl | simp [Act.eval]) HR.out ⟨vb, 0, none⟩ 1 1 [u] (by first | rfl | simp [Act.eval]) rfl HCu.out H1x.out (by omega) HB.out ?_; intro v5 w5 hr5 hg5 hat5; have HR5 := Lib.hid hr5; have HB5 := Lib.hid ((Below.refl base w).grown hg5 HB.out (fun j hj => (HR.out.lt j hj).1)); clear hr5 hg5 hat5))
      all_goals
        go_ret
        exact ⟨_, rfl, HR5.out, HB5.out⟩
  · obtain ⟨_, ⟨rfl, h0⟩ | ⟨g, cap, cur, rfl, hg, hheap, hcap, hmax, hsz, htk⟩⟩ := h
    · omega
    have hgw : g < w.heap.size := (Array.getElem?_eq_some_iff.1 hheap).1
    have hvw : vb < w.heap.size := (Array.getElem?_eq_some_iff.1 hu).1
    have hgv : g ≠ vb := fun e => hne (by rw [e]; rfl)
    have hck : cur.toList.length = cap := by rw [Array.length_toList]; omega
    have htk : cur.toList.take n = V := by rw [← htk, Nat.mul_one]
    have hsrc : ∀ j x, (V.drop i)[j]? = some x → w.cell? ⟨g, i + j, none⟩ = some x := fun j x hx => by
      rw [List.getElem?_drop, ← htk, List.getElem?_take] at hx
      split at hx
      · rw [cell_of_row w g (i + j) _ _ (0, 0) hheap]
        simpa using hx
      · cases hx
    unfold maxLen at hmax
    have hdl : (V.drop i).length = n - i := by rw [List.length_drop]; omega
    have hilt : i < n := by omega
    have hBx := Lib.hid hbase
    have hw1 : IntKind.i64.wrap ((i : Int) + 1) = (i : Int) + 1 := IntWalk.i64_in _ (by omega)
    have hb1 : (0 : Int) ≤ (i : Int) + 1 := by omega
    have htn : ((i : Int) + 1).toNat = i + 1 := by omega
    have hi0 : (0 : Int) ≤ (i : Int) := by omega
    have hii : ¬ ((i : Int) = (n : Int)) := by omega
    have hinn : (i : Int) ≤ (n : Int) := by omega
    have h1d : ∀ x ∈ V.drop i, x.oneCell' = true := fun x hx => h1 x (List.mem_of_mem_drop hx)
    by_cases hroom : n + 1 ≤ cap
    · have hov : ∀ lb cb, (callFunc 109 #[.slice (some ⟨vb, 0, none⟩) 1 1, .slice (some ⟨g, i + 1, none⟩) lb cb]).run Try.prog w = .ok (.value (.bool false)) w := fun lb cb => by
        rw [run_callFunc_extern Try.func109 (by kernel_rfl) (by kernel_rfl) (by kernel_rfl) (e := Extern.SlicesOverlaps.overlaps #[45, 45] #[4]) (by kernel_rfl),
          Lib.run_overlaps_apart w 45 4 22 Try.underlying45 1 Try.sizeOf22 ⟨vb, 0, none⟩ ⟨g, i + 1, none⟩ 1 1 lb cb (by exact fun e => hgv e.symm) 22 22 1 cap (by simp [World.shape?, hu]) (by simp [World.shape?, hheap]; omega) (by omega) (by simp [World.frozen?, hu]) (by simp [World.frozen?, hu])]
        rfl
      have hci : ¬ (cap = i + 1) := by omega
      have hci2 : ¬ (cap = i) := by omega
      have hcn : (n : Int) + 1 ≤ (cap : Int) := by omega
      have hn1 : (i : Int) ≤ (n : Int) + 1 := by omega
      have hn2 : (i : Int) + 1 ≤ (n : Int) + 1 := by omega
      obtain ⟨W1, hW1⟩ : ∃ W1, W1 = w.drew.setRow g (splice cur.toList (i + 1) (V.drop i)).toArray := ⟨_, rfl⟩
      have hh1 : W1.heap[g]? = some (.cells (splice cur.toList (i + 1) (V.drop i)).toArray 22 (0, 0)) := by rw [hW1]; exact setRow_heap w.drew g cur _ 22 (0, 0) hheap
      have hs1 : (splice cur.toList (i + 1) (V.drop i)).length = cap := by rw [length_splice _ _ _ (by omega)]; exact hck
      have hu1 : ∀ j x, [u][j]? = some x → W1.cell? ((⟨vb, 0, none⟩ : Addr).add j) = some x := fun j x hx => by
        rw [← hcu j x hx, hW1]
        exact World.cell?_of_block (a := (⟨vb, 0, none⟩ : Addr).add j) (by
          have : ((⟨vb, 0, none⟩ : Addr).add j).block = vb := by unfold Addr.add; split <;> rfl
          rw [this]
          exact setRow_other w.drew g vb _ (Ne.symm hgv))
      obtain ⟨W2, hW2⟩ : ∃ W2, W2 = W1.setRow g (splice (splice cur.toList (i + 1) (V.drop i)) i [u]).toArray := ⟨_, rfl⟩
      have hh2 : W2.heap[g]? = some (.cells (splice (splice cur.toList (i + 1) (V.drop i)) i [u]).toArray 22 (0, 0)) := by rw [hW2]; exact setRow_heap W1 g _ _ 22 (0, 0) hh1
      have hs2 : (splice (splice cur.toList (i + 1) (V.drop i)) i [u]).length = cap := by rw [length_splice _ _ _ (by rw [hs1]; simp; omega)]; exact hs1
      have hb0 : Below base w w.drew := ⟨rfl, rfl, rfl, Nat.le_refl _, fun _ _ => rfl⟩
      have hb2 : Below base w W2 := by rw [hW2, hW1]; exact Go.below_setRow (Go.below_setRow hb0 hg _) hg _
      have hfin : W2.ownsRow base 22 1 (.slice (some ⟨g, 0, none⟩) (n + 1) cap) (n + 1) (V.take i ++ u :: V.drop i) := by
        refine ⟨by simp; omega, .inr ⟨g, cap, _, rfl, hg, hh2, hroom, hmax, by rw [List.size_toArray, Nat.mul_one]; exact hs2, ?_⟩⟩
        rw [Nat.mul_one]
        exact ins_shift cur.toList V u i n hvl (by omega) htk (by omega)
      have HFin := Lib.hid hfin
      have HB2 := Lib.hid hb2
      have hcp1 : ∀ ty, (Builtin.copy_ #[45, 45] ty #[.slice (some ⟨g, i + 1, none⟩) (n - i) (cap - (i + 1)), .slice (some ⟨g, i, none⟩) (n + 1 - i) (cap - i)]).run Try.prog w.drew = .ok (goInt (V.drop i).length) W1 := fun ty => by
        have := run_copy_row (P := Try.prog) w.drew 45 45 ty 22 g (i + 1) (n - i) (cap - (i + 1)) ⟨g, i, none⟩ (n + 1 - i) (cap - i) cur 22 (V.drop i) Try.underlying45 size1_row hheap (by rw [hdl]; show n - i = min (n + 1 - i) (n - i); omega) (fun j x hx => by rw [Addr.add_lit]; exact hsrc j x hx) (by rw [hdl, ← Array.length_toList]; omega) h1d
        rw [this, hW1]
        unfold splice
        rw [List.append_assoc]
      have hcp2 : ∀ ty, (Builtin.copy_ #[45, 45] ty #[.slice (some ⟨g, i, none⟩) (n + 1 - i) (cap - i), .slice (some ⟨vb, 0, none⟩) 1 1]).run Try.prog W1 = .ok (goInt 1) W2 := fun ty => by
        have := run_copy_row (P := Try.prog) W1 45 45 ty 22 g i (n + 1 - i) (cap - i) ⟨vb, 0, none⟩ 1 1 _ 22 [u] Try.underlying45 size1_row hh1 (by show 1 = min 1 (n + 1 - i); omega) hu1 (by rw [List.size_toArray, hs1]; simp; omega) h1x
        rw [this, hW2]
        unfold splice
        rw [List.append_assoc]
        rfl
      have HC1 := Lib.hid hcp1
      have HC2 := Lib.hid hcp2
      clear hfin hb2 hb0 hs2 hh2 hW2 hu1 hs1 hh1 hW1 hcp1 hcp2 hcu h1x h1 h1d h1u hne hvl hheap htk hsz hsrc hdl hck hu hin hgw hvw
      go_enter Try.func47, Try.ntmps47
      go_wp2_with (simp only [hov])
      go_region_law (first
        | (refine step_copyM rfl (.tmp 73) (.tmp 76) (by rfl) (.slice (some ⟨g, i + 1, none⟩) (n - i) (cap - (i + 1))) (.slice (some ⟨g, i, none⟩) (n + 1 - i) (cap - i)) (by simp [Act.eval, Act.put]) (by simp [Act.eval, Act.put]) (HC1.out _) ?_)
        | fail)
      all_goals
        go_wp2_with (refine wpList_copyM rfl (.tmp 80) (.tmp 81) (by rfl) (.slice (some ⟨g, i, none⟩) (n + 1 - i) (cap - i)) (.slice (some ⟨vb, 0, none⟩) 1 1) (by first | rfl | simp [Act.eval]) (by first | rfl | simp [Act.eval]) (HC2.out _) ?_)
        go_ret
        exact ⟨_, rfl, HFin.out, HB2.out⟩
    · obtain rfl : cap = n := by omega
      obtain ⟨i0, hi0', hz0, hzs, hzb⟩ := info_parts info_row
      have hold : (Builtin.firstCells i0.size i (.slice (some ⟨g, 0, none⟩) i cap)).run Try.prog w.drew = .ok (V.take i).toArray w.drew := by
        rw [hzs]
        exact run_firstCells_some w.drew 1 i ⟨g, 0, none⟩ i cap (V.take i) (by rw [List.length_take]; omega) (fun j x hj => by
          rw [Addr.add_lit, Nat.zero_add]
          rw [List.getElem?_take] at hj
          split at hj
          · show w.cell? ⟨g, j, none⟩ = some x
            rw [← htk, List.getElem?_take] at hj
            split at hj
            · rw [cell_of_row w g j _ _ (0, 0) hheap]
              simpa using hj
            · cases hj
          · cases hj)
      obtain ⟨G, hG⟩ : ∃ G, G = grownCap w (cap + 1) cap 22 := ⟨_, rfl⟩
      obtain ⟨ROW, hROW⟩ : ∃ ROW : Array Value, ROW = (V.take i).toArray ++ Builtin.zeroCells (Value.slice none 0 0).cells (cap + 1 - i) ++ Builtin.zeroCells (Value.slice none 0 0).cells (G - (cap + 1)) := ⟨_, rfl⟩
      have hGn : cap + 1 ≤ G := by rw [hG]; exact grownCap_ge w _ _ _
      have hGm : G ≤ maxLen := by rw [hG]; exact grownCap_le_maxLen w _ _ _ (by unfold maxLen; omega)
      have hkk : (cap : Int) + 1 - (i : Int) = ((cap + 1 - i : Nat) : Int) := by omega
      have hrz : ∀ ty, (Builtin.append_ #[45, 3] ty #[.slice (some ⟨g, 0, none⟩) i cap, .int .i64 ((cap : Int) + 1 - (i : Int))]).run Try.prog w = .ok (.slice (some ⟨w.heap.size, 0, none⟩) (cap + 1) G) (w.drew.alloc (.cells ROW 22)) := fun ty => by
        have h := Lib.run_append_grow_zeros w 45 3 ty 22 i0 _ .i64 .i64 Try.underlying45 Try.underlying3 hi0' hz0 (some ⟨g, 0, none⟩) i cap (V.take i) hold (cap + 1 - i) (by omega) (by omega) (by omega) (by omega) (by rw [hzb]; omega) (by rw [hzb, show i + (cap + 1 - i) = cap + 1 by omega]; exact growslice_fits (by omega) (by omega))
        rw [show i + (cap + 1 - i) = cap + 1 by omega, ← hG, ← hROW] at h
        rw [hkk]
        exact h
      have hsl : (Value.slice none 0 0).cells.size = 1 := rfl
      have hRl : ROW.size = G := by
        rw [hROW]
        simp only [Array.size_append, List.size_toArray, size_zeroCells, hsl, List.length_take]
        omega
      obtain ⟨W1, hW1⟩ : ∃ W1, W1 = w.drew.alloc (.cells ROW 22) := ⟨_, rfl⟩
      rw [← hW1] at hrz
      have hh1 : W1.heap[w.heap.size]? = some (.cells ROW 22 (0, 0)) := by rw [hW1]; exact World.alloc_heap_new w.drew _
      have hu1 : ∀ j x, [u][j]? = some x → W1.cell? ((⟨vb, 0, none⟩ : Addr).add j) = some x := fun j x hx => by
        rw [← hcu j x hx, hW1]
        exact World.cell?_of_block (a := (⟨vb, 0, none⟩ : Addr).add j) (by
          have : ((⟨vb, 0, none⟩ : Addr).add j).block = vb := by unfold Addr.add; split <;> rfl
          rw [this]
          exact heap_alloc_old w.drew _ hvw)
      obtain ⟨W2, hW2⟩ : ∃ W2, W2 = W1.setRow w.heap.size (splice ROW.toList i [u]).toArray := ⟨_, rfl⟩
      have hh2 : W2.heap[w.heap.size]? = some (.cells (splice ROW.toList i [u]).toArray 22 (0, 0)) := by rw [hW2]; exact setRow_heap W1 w.heap.size ROW _ 22 (0, 0) hh1
      have hl2 : (splice ROW.toList i [u]).length = G := by rw [length_splice _ _ _ (by rw [Array.length_toList]; simp; omega), Array.length_toList, hRl]
      have hsrc2 : ∀ j x, (V.drop i)[j]? = some x → W2.drew.cell? ⟨g, i + j, none⟩ = some x := fun j x hx => by
        rw [← hsrc j x hx]
        refine World.cell?_of_block (w' := W2.drew) (w := w) (a := ⟨g, i + j, none⟩) ?_
        show W2.heap[g]? = w.heap[g]?
        rw [hW2, setRow_other W1 w.heap.size g _ (by omega), hW1]
        exact heap_alloc_old w.drew _ hgw
      obtain ⟨W3, hW3⟩ : ∃ W3, W3 = W2.drew.setRow w.heap.size (splice (splice ROW.toList i [u]) (i + 1) (V.drop i)).toArray := ⟨_, rfl⟩
      have hh3 : W3.heap[w.heap.size]? = some (.cells (splice (splice ROW.toList i [u]) (i + 1) (V.drop i)).toArray 22 (0, 0)) := by rw [hW3]; exact setRow_heap W2.drew w.heap.size _ _ 22 (0, 0) hh2
      have hl3 : (splice (splice ROW.toList i [u]) (i + 1) (V.drop i)).length = G := by rw [length_splice _ _ _ (by rw [hl2, hdl]; omega)]; exact hl2
      have hba : Below base w (w.drew.alloc (.cells ROW 22)) := (show Below base w w.drew from ⟨rfl, rfl, rfl, Nat.le_refl _, fun _ _ => rfl⟩).trans ((Below.refl base w.drew).alloc hbase _)
      have hb3 : Below base w W3 := by
        have hx2 : Below base w W2 := by rw [hW2, hW1]; exact Go.below_setRow hba hbase _
        have hx3 : Below base w W2.drew := hx2.trans (show Below base W2 W2.drew from ⟨rfl, rfl, rfl, Nat.le_refl _, fun _ _ => rfl⟩)
        rw [hW3]
        exact Go.below_setRow hx3 hbase _
      have hrt : ROW.toList.take i = V.take i := by
        rw [hROW]
        simp only [Array.toList_append, List.append_assoc]
        rw [List.take_append_of_le_length (by simp; omega), List.take_of_length_le (by simp; omega)]
      have hfin : W3.ownsRow base 22 1 (.slice (some ⟨w.heap.size, 0, none⟩) (cap + 1) G) (cap + 1) (V.take i ++ u :: V.drop i) := by
        refine ⟨by simp; omega, .inr ⟨w.heap.size, G, _, rfl, hbase, hh3, hGn, hGm, by rw [List.size_toArray, Nat.mul_one]; exact hl3, ?_⟩⟩
        rw [Nat.mul_one]
        exact ins_grow ROW.toList V u i cap hvl (by omega) hrt
      have HFin := Lib.hid hfin
      have HB3 := Lib.hid hb3
      have hcp1 : ∀ ty, (Builtin.copy_ #[45, 45] ty #[.slice (some ⟨w.heap.size, i, none⟩) (cap + 1 - i) (G - i), .slice (some ⟨vb, 0, none⟩) 1 1]).run Try.prog W1 = .ok (goInt 1) W2 := fun ty => by
        have := run_copy_row (P := Try.prog) W1 45 45 ty 22 w.heap.size i (cap + 1 - i) (G - i) ⟨vb, 0, none⟩ 1 1 ROW 22 [u] Try.underlying45 size1_row hh1 (by show 1 = min 1 (cap + 1 - i); omega) hu1 (by rw [hRl]; simp; omega) h1x
        rw [this, hW2]
        unfold splice
        rw [List.append_assoc]
        rfl
      have hcp2 : ∀ ty, (Builtin.copy_ #[45, 45] ty #[.slice (some ⟨w.heap.size, i + 1, none⟩) (cap - i) (G - (i + 1)), .slice (some ⟨g, i, none⟩) (cap - i) (cap - i)]).run Try.prog W2.drew = .ok (goInt (V.drop i).length) W3 := fun ty => by
        have := run_copy_row (P := Try.prog) W2.drew 45 45 ty 22 w.heap.size (i + 1) (cap - i) (G - (i + 1)) ⟨g, i, none⟩ (cap - i) (cap - i) _ 22 (V.drop i) Try.underlying45 size1_row hh2 (by rw [hdl]; show cap - i = min (cap - i) (cap - i); omega) (fun j x hx => by rw [Addr.add_lit]; exact hsrc2 j x hx) (by rw [hdl, List.size_toArray, hl2]; omega) h1d
        rw [this, hW3]
        unfold splice
        rw [List.append_assoc]
      have HC1 := Lib.hid hcp1
      have HC2 := Lib.hid hcp2
      have HRz := Lib.hid hrz
      have hg1 : ¬ (G = i) := by omega
      have hg2 : ¬ (G = i + 1) := by omega
      have hg3 : ¬ (cap = i) := by omega
      have hg4 : (i : Int) ≤ (cap : Int) + 1 := by omega
      have hg5 : (i : Int) + 1 ≤ (cap : Int) + 1 := by omega
      have hg6 : G ≤ 9223372036854775807 := by unfold maxLen at hGm; omega
      have hg7 : (i : Int) ≤ (G : Int) := by omega
      clear hfin hb3 hrt hba hl3 hh3 hW3 hsrc2 hl2 hh2 hW2 hu1 hh1 hW1 hRl hsl hrz hkk hROW hG hGm hold hi0' hz0 hzs hzb hcp1 hcp2 hcu h1x h1 h1d h1u hne hvl hheap htk hsz hsrc hdl hck hu hin hgw hvw
      go_enter Try.func47, Try.ntmps47
      go_wp2_with (first
        | (at_builtin; go_must (refine Lib.wpList_append_run _ rfl _ _ _ _ rfl _ _ rfl rfl _ _ (HRz.out _) ?_))
        | (refine wpList_copyM rfl (.tmp 43) (.tmp 44) (by rfl) (.slice (some ⟨w.heap.size, i, none⟩) (cap + 1 - i) (G - i)) (.slice (some ⟨vb, 0, none⟩) 1 1) (by first | rfl | simp [Act.eval]) (by first | rfl | simp [Act.eval]) (HC1.out _) ?_)
        | fail)
      go_region_law (first
        | (refine step_copyM rfl (.tmp 50) (.tmp 53) (by rfl) (.slice (some ⟨w.heap.size, i + 1, none⟩) (cap - i) (G - (i + 1))) (.slice (some ⟨g, i, none⟩) (cap - i) (cap - i)) (by simp [Act.eval, Act.put]) (by simp [Act.eval, Act.put]) (HC2.out _) ?_)
        | fail)
      all_goals
        go_wp2
        go_ret
        exact ⟨_, rfl, HFin.out, HB3.out⟩
end Go.Proofs.Yteaeedhhdnkldaa
