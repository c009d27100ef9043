import Derived.Laws.CopyRow
import Derived.Test.YtcjkeobjojmpfaaGreatMHeapK
import Derived.Test.YtcjkeobjojmpfaaGreatMEvqEq
import Derived.Lib.Overlaps
import Derived.Lib.AppendZerosOnto
import Derived.Laws.CopyOwn
import Derived.Laws.NewBlocks
section
/-
  THE BUILTIN copy AT ELEMENTS OF ANY SIZE (the library's law speaks of elements of one cell). No program is named here.
-/
namespace Go.Proofs.YtcjkeobjojmpfaaGreat
open Go

theorem run_copy_rowK {P : Program} (s : Nat) (w : World) (dT sT ty elem : TypeId) (g o dLen dCap : Nat) (a : Addr) (sLen sCap : Nat) (cur : Array Value) (t : TypeId) (cs : List Value) (n : Nat)
    (hu : P.underlying dT = some (.slice elem)) (hs : (P.info? elem).map (·.size) = some s)
    (hg : w.heap[g]? = some (.cells cur t (0, 0))) (hn : n = Nat.min sLen dLen) (hc : cs.length = n * s)
    (hsrc : ∀ j v, cs[j]? = some v → w.cell? (a.add j) = some v) (hfit : o + cs.length ≤ cur.size) (h1 : ∀ v ∈ cs, v.oneCell' = true) :
    (Builtin.copy_ #[dT, sT] ty #[.slice (some ⟨g, o, none⟩) dLen dCap, .slice (some a) sLen sCap]).run P w =
      .ok (goInt n) (w.setRow g (cur.toList.take o ++ cs ++ cur.toList.drop (o + cs.length)).toArray) := by
  have hl := run_loadCells_list (P := P) w a cs hsrc
  have hst := run_storeCells_at P g o t cs 0 cur w hg (by simpa using hfit) h1
  cases hq : P.info? elem with
  | none => simp [hq] at hs
  | some i =>
    have hi : i.size = s := by simpa [hq] using hs
    simp [Builtin.copy_, run_underlying hu, Builtin.lenOf, Builtin.firstCells, sizeOf, typeInfo, hq, hi, ← hn, ← hc, hl, hst]
end Go.Proofs.YtcjkeobjojmpfaaGreat
end

section
/-
  CONTRACTS of slices.Clone at entries and at ints, and of Copy.
-/
namespace Go.Proofs.YtcjkeobjojmpfaaGreat
open Go.RowKit Go.Shelf

/-- append of some cells to a row of the call's own, of any element. -/
theorem wpList_appG {ops : Array Oper} {rest : List Oper} {o : Oper} {a : Act} {w : World} {Q : Exit → Act → World → Prop} (hgd : o.guard = none) (s x : Operand) (T E : TypeId) (i : TypeInfo) (z : Value) (size bytes : Nat)
    (hT : Tryz.prog.underlying T = some (.slice E)) (hi : Tryz.prog.info? E = some i) (hz : i.zero = some z) (hsize : i.size = size) (hby : i.bytes = bytes) (hzs : z.cells.size = size) (hsz : 0 < size)
    (ho : o.op = .call { callee := .builtin .append, args := #[s, x], argTypes := #[T, T] })
    (base : Nat) (v : Value) (k : Nat) (xs : List Value) (hs : a.eval s = v) (hown : w.ownsRow base E size v k xs) (g m c : Nat) (V : List Value) (hx : a.eval x = .slice (some ⟨g, 0, none⟩) m c) (hl : V.length = m * size) (hV : ∀ j u, V[j]? = some u → w.cell? ⟨g, j, none⟩ = some u) (h1 : ∀ u ∈ V, u.oneCell' = true)
    (h63 : k + m ≤ maxLen) (hb : (k + m) * bytes ≤ 140737488355328) (hbase : base ≤ w.heap.size)
    (h : ∀ v' w', w'.ownsRow base E size v' (k + m) (xs ++ V) → w.grownBy w' v.ownBlock → (v' = .slice none 0 0 → v = .slice none 0 0) → (v'.ownBlock = v.ownBlock ∨ v'.ownBlock = some w.heap.size) → wpList Tryz.prog ops Q rest (a.put o.dst v') w') : wpList Tryz.prog ops Q (o :: rest) a w :=
  wpList_plain hgd fun K hK => by
    obtain ⟨v', w', hr, h2, h3, h4, h5⟩ := run_append_own_at (P := Tryz.prog) w base T o.type E i z size bytes hT hi hz hsize hby hzs hsz v k xs hown ⟨g, 0, none⟩ m c V hl (fun j u hu => by rw [Addr.add_lit, Nat.zero_add]; exact hV j u hu) h1 h63 hb hbase
    unfold Oper.wp execOp
    simp only [ho, resolve, invoke, builtin, Sem.run_bind, Sem.run_pure, Result.andThen_ok, List.map_toArray, List.map_cons, List.map_nil, hs, hx, hr]
    exact hK _ _ (h v' w' h2 h3 (fun e => (h4.1 e).1) h5)

def cellsX (ix : Nat → Int) (n : Nat) : List Value := (List.range n).map fun p => .int .i64 (ix p)
theorem cellsX_get (ix : Nat → Int) (n j : Nat) (hj : j < n) : (cellsX ix n)[j]? = some (.int .i64 (ix j)) := by simp [cellsX, hj]
end Go.Proofs.YtcjkeobjojmpfaaGreat
end

section
/-
  CONTRACT of slices.Insert at one event.
-/
namespace Go.Proofs.YtcjkeobjojmpfaaGreat
open Go.RowKit Go.Shelf

theorem cellsV_tk (V : List Ev) (m : Nat) : cellsV (V.take m) = (cellsV V).take (m * 5) := by
  induction V generalizing m with
  | nil => simp [cellsV]
  | cons x V ih =>
    cases m with
    | zero => simp [cellsV]
    | succ m =>
      rw [List.take_succ_cons, cellsV_cons, cellsV_cons, ih, List.take_append]
      have h5 : (encV x).length = 5 := rfl
      rw [show (encV x).take ((m + 1) * 5) = encV x from List.take_of_length_le (by rw [h5]; omega), h5, show (m + 1) * 5 - 5 = m * 5 by omega]
theorem cellsV_dp (V : List Ev) (m : Nat) : cellsV (V.drop m) = (cellsV V).drop (m * 5) := by
  have h1 : cellsV V = cellsV (V.take m) ++ cellsV (V.drop m) := by rw [← cellsV_append, List.take_append_drop]
  by_cases hm : m ≤ V.length
  · rw [h1, cellsV_tk, List.drop_append]
    have hl : ((cellsV V).take (m * 5)).length = m * 5 := by rw [List.length_take, cellsV_len]; omega
    rw [show ((cellsV V).take (m * 5)).drop (m * 5) = [] from List.drop_of_length_le (by omega), hl]
    simp
  · rw [show V.drop m = [] from List.drop_of_length_le (by omega), show (cellsV V).drop (m * 5) = [] from List.drop_of_length_le (by rw [cellsV_len]; omega)]; rfl
theorem insK_grow {α : Type} (L0 V us : List α) (i n s : Nat) (hs : us.length = s) (hV : V.length = n) (hi : i ≤ n) (h0 : L0.take i = V.take i) : (splice (splice L0 i us) (i + s) (V.drop i)).take (n + s) = V.take i ++ (us ++ V.drop i) := by
  have hA : (V.take i).length = i := by rw [List.length_take]; omega
  have hD : (V.drop i).length = n - i := by rw [List.length_drop]; omega
  have e1 : (splice L0 i us).take (i + s) = V.take i ++ us := by
    unfold splice
    rw [h0, ← List.append_assoc, List.take_append_of_le_length (by simp [hA, hs]), List.take_of_length_le (by simp [hA, hs])]
  have e2 : splice (splice L0 i us) (i + s) (V.drop i) = (splice L0 i us).take (i + s) ++ (V.drop i ++ (splice L0 i us).drop (i + s + (V.drop i).length)) := rfl
  rw [e2, e1, ← List.append_assoc, List.take_append_of_le_length (by simp [hA, hD, hs]; omega), List.take_of_length_le (by simp [hA, hD, hs]; omega)]
  simp
theorem insK_shift {α : Type} (L0 V us : List α) (i n s : Nat) (hs : us.length = s) (hV : V.length = n) (hi : i ≤ n) (h0 : L0.take n = V) (hl : n + s ≤ L0.length) : (splice (splice L0 (i + s) (V.drop i)) i us).take (n + s) = V.take i ++ (us ++ V.drop i) := by
  have hA : (V.take i).length = i := by rw [List.length_take]; omega
  have hD : (V.drop i).length = n - i := by rw [List.length_drop]; omega
  have hT : (L0.take (i + s)).length = i + s := by rw [List.length_take]; omega
  have e0 : L0.take i = V.take i := by rw [← h0, List.take_take, Nat.min_eq_left hi]
  have e1 : (splice L0 (i + s) (V.drop i)).take i = V.take i := by
    unfold splice
    rw [List.take_append_of_le_length (by omega), List.take_take, Nat.min_eq_left (by omega), e0]
  have e2 : (splice L0 (i + s) (V.drop i)).drop (i + s) = V.drop i ++ L0.drop (i + s + (V.drop i).length) := by
    unfold splice
    rw [List.drop_left' hT]
  have e3 : splice (splice L0 (i + s) (V.drop i)) i us = (splice L0 (i + s) (V.drop i)).take i ++ (us ++ (splice L0 (i + s) (V.drop i)).drop (i + us.length)) := rfl
  rw [e3, e1, hs, e2, ← List.append_assoc, ← List.append_assoc, List.take_append_of_le_length (by simp [hA, hD, hs]; omega), List.take_of_length_le (by simp [hA, hD, hs]; omega)]
  simp
theorem size5_ev : (Tryz.prog.info? 33).map (·.size) = some 5 := by kernel_rfl
theorem wpList_appV {ops : Array Oper} {rest : List Oper} {o : Oper} {a : Act} {w : World} {Q : Exit → Act → World → Prop} (hgd : o.guard = none) (s x : Operand)
    (ho : o.op = .call { callee := .builtin .append, args := #[s, x], argTypes := #[24, 24] })
    (base : Nat) (v : Value) (k : Nat) (xs : List Value) (hs : a.eval s = v) (hown : w.ownsRow base 33 5 v k xs) (g m c : Nat) (V : List Value) (hx : a.eval x = .slice (some ⟨g, 0, none⟩) m c) (hl : V.length = m * 5) (hV : ∀ j u, V[j]? = some u → w.cell? ((⟨g, 0, none⟩ : Addr).add j) = some u) (h1 : ∀ u ∈ V, u.oneCell' = true)
    (hb : k + m ≤ 2000) (hbase : base ≤ w.heap.size)
    (h : ∀ v' w', w'.ownsRow base 33 5 v' (k + m) (xs ++ V) → w.grownBy w' v.ownBlock → (v'.ownBlock = v.ownBlock ∨ v'.ownBlock = some w.heap.size) → wpList Tryz.prog ops Q rest (a.put o.dst v') w') : wpList Tryz.prog ops Q (o :: rest) a w := by
  obtain ⟨i0, hi, hz0, hz1, hz2⟩ := info_parts info_ev
  refine wpList_appG hgd s x 24 33 i0 _ 5 40 Tryz.underlying24 hi hz0 hz1 hz2 rfl (by decide) ho base v k xs hs hown g m c V hx hl (fun j u hu => ?_) h1 (by unfold maxLen; omega) (by omega) hbase fun v' w' a1 a2 _ a3 => h v' w' a1 a2 a3
  have := hV j u hu
  rwa [Addr.add_lit, Nat.zero_add] at this

theorem wp_copyV {o : Oper} {a : Act} {w : World} {K : Act → World → Prop} {Q : Exit → Act → World → Prop} (d x : Operand)
    (ho : o.op = .call { callee := .builtin .copy, args := #[d, x], argTypes := #[24, 24] }) (v u : Value) (hd : a.eval d = v) (hx : a.eval x = u) {v' : Value} {w' : World}
    (hr : (Builtin.copy_ #[24, 24] o.type #[v, u]).run Tryz.prog w = .ok v' w') (h : K (a.put o.dst v') w') : o.wp Tryz.prog a w K Q := by
  unfold Oper.wp execOp
  simp only [ho, resolve, invoke, builtin, Sem.run_bind, Sem.run_pure, Result.andThen_ok, List.map_toArray, List.map_cons, List.map_nil, hd, hx, hr]
  exact h
theorem wpList_copyV {ops : Array Oper} {rest : List Oper} {o : Oper} {a : Act} {w : World} {Q : Exit → Act → World → Prop} (hgd : o.guard = none) (d x : Operand)
    (ho : o.op = .call { callee := .builtin .copy, args := #[d, x], argTypes := #[24, 24] }) (v u : Value) (hd : a.eval d = v) (hx : a.eval x = u) {v' : Value} {w' : World}
    (hr : (Builtin.copy_ #[24, 24] o.type #[v, u]).run Tryz.prog w = .ok v' w') (h : wpList Tryz.prog ops Q rest (a.put o.dst v') w') : wpList Tryz.prog ops Q (o :: rest) a w :=
  wpList_plain hgd fun _ hK => wp_copyV d x ho v u hd hx hr (hK _ _ h)
theorem step_copyV {ops : Array Oper} {o : Oper} {a : Act} {w : World} {K : Act → World → Prop} {Q : Exit → Act → World → Prop} {E : Prop} (hg : o.guard = none) (d x : Operand)
    (ho : o.op = .call { callee := .builtin .copy, args := #[d, x], argTypes := #[24, 24] }) (v u : Value) (hd : a.eval d = v) (hx : a.eval x = u) {v' : Value} {w' : World}
    (hr : (Builtin.copy_ #[24, 24] o.type #[v, u]).run Tryz.prog w = .ok v' w') (h : K (a.put o.dst v') w') : if Region.wanted o (yielded ops a.tmps) = true then Oper.wp Tryz.prog o a w K Q else E := by
  rw [if_pos (by simp [Region.wanted, hg])]
  exact wp_copyV d x ho v u hd hx hr h
set_option maxRecDepth 100000 in
set_option maxHeartbeats 4000000 in
/-- slices.Insert of one event into a list of the call's own. -/
theorem insertV_calls (base n i vb : Nat) (v : Value) (u : Ev) (V : List Ev) (w : World) (hbase : base ≤ w.heap.size) (h : w.ownsRow base 33 5 v n (cellsV V)) (hu : VB w vb u) (hne : v.ownBlock ≠ some vb) (hi : i ≤ n) (hn : n ≤ 1000) :
    Calls Tryz.prog 35 #[v, .int .i64 i, .slice (some ⟨vb, 0, none⟩) 1 1] w fun e w' => ∃ v', e = .returned v' ∧ w'.ownsRow base 33 5 v' (n + 1) (cellsV (V.take i ++ u :: V.drop i)) ∧ Below base w w' := by
  have hcu : ∀ j x, (encV u)[j]? = some x → w.cell? ((⟨vb, 0, none⟩ : Addr).add j) = some x := by
    intro j x hx
    rw [Addr.add_lit, Nat.zero_add, cell_of_row w vb j _ _ (0, 0) hu, ← Array.getElem?_toList]
    exact hx
  have h1x : ∀ x ∈ encV u, x.oneCell' = true := by
    intro x hx
    simp only [encV, List.mem_cons, List.not_mem_nil, or_false] at hx
    rcases hx with rfl | rfl | rfl | rfl | rfl <;> rfl
  have h1 : ∀ x ∈ cellsV V, x.oneCell' = true := cellsV_one V
  have hul : (encV u).length = 5 := rfl
  have HCu := Lib.hid hcu
  have H1x := Lib.hid h1x
  have HR := Lib.hid h
  have hvl : V.length = n := by have := h.1; rw [cellsV_len] at this; omega
  obtain ⟨C, hC⟩ : ∃ C, cellsV V = C := ⟨_, rfl⟩
  have hcl : C.length = n * 5 := by rw [← hC, cellsV_len, hvl]
  have hcells : ∀ m : Nat, m ≤ n → cellsV (V.take m ++ u :: V.drop m) = C.take (m * 5) ++ (encV u ++ C.drop (m * 5)) := fun m hm => by rw [cellsV_append, cellsV_cons, cellsV_tk, cellsV_dp, hC]
  rw [hC] at h HR h1
  by_cases hin : i = n
  · subst hin
    have hfin : cellsV (V.take i ++ u :: V.drop i) = C ++ encV u := by rw [hcells i (Nat.le_refl _), ← hcl, List.take_length, List.drop_length, List.append_nil]
    rw [hfin]
    have HB := Lib.hid hbase
    clear hfin hu hcu h1x h1 hne hvl hi hcells hC hcl hul
    rcases h.2 with ⟨rfl, h0⟩ | ⟨g, cap, cur, rfl, _, _, hcap, hmax, _, _⟩
    · subst h0
      clear h
      go_enter Tryz.func35, Tryz.ntmps35
      go_wp2_with (at_builtin; go_must (refine wpList_appV rfl (.tmp 23) (.tmp 24) (by rfl) base _ 0 C (by first | rfl | simp [Act.eval]) HR.out vb 1 1 (encV u) (by first | rfl | simp [Act.eval]) rfl HCu.out H1x.out (by omega) HB.out ?_; intro v5 w5 hr5 hg5 hat5; have HR5 := Lib.hid hr5; have HB5 := Lib.hid ((Below.refl base w).grown hg5 HB.out (fun j hj => (HR.out.lt j hj).1)); clear hr5 hg5 hat5))
      go_ret
      exact ⟨_, rfl, HR5.out, HB5.out⟩
    · unfold maxLen at hmax
      have hci : (i : Int) ≤ (cap : Int) := by omega
      clear h
      go_enter Tryz.func35, Tryz.ntmps35
      go_wp2_with (at_builtin; go_must (refine wpList_appV rfl (.tmp 23) (.tmp 24) (by rfl) base _ i C (by first | rfl | simp [Act.eval]) HR.out vb 1 1 (encV u) (by first | rfl | simp [Act.eval]) rfl HCu.out H1x.out (by omega) HB.out ?_; intro v5 w5 hr5 hg5 hat5; have HR5 := Lib.hid hr5; have HB5 := Lib.hid ((Below.refl base w).grown hg5 HB.out (fun j hj => (HR.out.lt j hj).1)); clear hr5 hg5 hat5))
      all_goals
        go_ret
        exact ⟨_, rfl, HR5.out, HB5.out⟩
  · obtain ⟨_, ⟨rfl, h0⟩ | ⟨g, cap, cur, rfl, hg, hheap, hcap, hmax, hsz, htk⟩⟩ := h
    · omega
    have hu' : w.heap[vb]? = some (.cells #[.int .i64 u.1.1, .int .i64 u.1.2.1, .int .i64 u.1.2.2, .int .i64 u.2.1, .int .i64 u.2.2] 33 (0, 0)) := hu
    have hgw : g < w.heap.size := (Array.getElem?_eq_some_iff.1 hheap).1
    have hvw : vb < w.heap.size := (Array.getElem?_eq_some_iff.1 hu).1
    have hgv : g ≠ vb := fun e => hne (by rw [e]; rfl)
    have hck : cur.toList.length = cap * 5 := by rw [Array.length_toList]; omega
    have hsrc : ∀ j x, (C.drop (i * 5))[j]? = some x → w.cell? ⟨g, i * 5 + j, none⟩ = some x := fun j x hx => by
      rw [List.getElem?_drop, ← htk, List.getElem?_take] at hx
      split at hx
      · rw [cell_of_row w g (i * 5 + j) _ _ (0, 0) hheap]
        simpa using hx
      · cases hx
    unfold maxLen at hmax
    have hdl : (C.drop (i * 5)).length = (n - i) * 5 := by rw [List.length_drop]; omega
    have hilt : i < n := by omega
    have hBx := Lib.hid hbase
    have hw1 : IntKind.i64.wrap ((i : Int) + 1) = (i : Int) + 1 := IntWalk.i64_in _ (by omega)
    have hb1 : (0 : Int) ≤ (i : Int) + 1 := by omega
    have htn : ((i : Int) + 1).toNat = i + 1 := by omega
    have hi0 : (0 : Int) ≤ (i : Int) := by omega
    have hii : ¬ ((i : Int) = (n : Int)) := by omega
    have hinn : (i : Int) ≤ (n : Int) := by omega
    have h1d : ∀ x ∈ C.drop (i * 5), x.oneCell' = true := fun x hx => h1 x (List.mem_of_mem_drop hx)
    by_cases hroom : n + 1 ≤ cap
    · have hov : ∀ lb cb, (callFunc 58 #[.slice (some ⟨vb, 0, none⟩) 1 1, .slice (some ⟨g, (i + 1) * 5, none⟩) lb cb]).run Tryz.prog w = .ok (.value (.bool false)) w := fun lb cb => by
        rw [run_callFunc_extern Tryz.func58 (by kernel_rfl) (by kernel_rfl) (by kernel_rfl) (e := Extern.SlicesOverlaps.overlaps #[24, 24] #[4]) (by kernel_rfl),
          Lib.run_overlaps_apart w 24 4 33 Tryz.underlying24 5 Tryz.sizeOf33 ⟨vb, 0, none⟩ ⟨g, (i + 1) * 5, none⟩ 1 1 lb cb (by exact fun e => hgv e.symm) 33 33 5 (cap * 5) (by simp [World.shape?, hu']) (by simp [World.shape?, hheap]; omega) (by omega) (by simp [World.frozen?, hu']) (by simp [World.frozen?, hu'])]
        rfl
      have hci : ¬ (cap = i + 1) := by omega
      have hci2 : ¬ (cap = i) := by omega
      have hcn : (n : Int) + 1 ≤ (cap : Int) := by omega
      have hn1 : (i : Int) ≤ (n : Int) + 1 := by omega
      have hn2 : (i : Int) + 1 ≤ (n : Int) + 1 := by omega
      obtain ⟨W1, hW1⟩ : ∃ W1, W1 = w.drew.setRow g (splice cur.toList (i * 5 + 5) (C.drop (i * 5))).toArray := ⟨_, rfl⟩
      have hh1 : W1.heap[g]? = some (.cells (splice cur.toList (i * 5 + 5) (C.drop (i * 5))).toArray 33 (0, 0)) := by rw [hW1]; exact setRow_heap w.drew g cur _ 33 (0, 0) hheap
      have hs1 : (splice cur.toList (i * 5 + 5) (C.drop (i * 5))).length = cap * 5 := by rw [length_splice _ _ _ (by omega)]; exact hck
      have hu1 : ∀ j x, (encV u)[j]? = some x → W1.cell? ((⟨vb, 0, none⟩ : Addr).add j) = some x := fun j x hx => by
        rw [← hcu j x hx, hW1]
        exact World.cell?_of_block (a := (⟨vb, 0, none⟩ : Addr).add j) (by
          have : ((⟨vb, 0, none⟩ : Addr).add j).block = vb := by unfold Addr.add; split <;> rfl
          rw [this]
          exact setRow_other w.drew g vb _ (Ne.symm hgv))
      obtain ⟨W2, hW2⟩ : ∃ W2, W2 = W1.setRow g (splice (splice cur.toList (i * 5 + 5) (C.drop (i * 5))) (i * 5) (encV u)).toArray := ⟨_, rfl⟩
      have hh2 : W2.heap[g]? = some (.cells (splice (splice cur.toList (i * 5 + 5) (C.drop (i * 5))) (i * 5) (encV u)).toArray 33 (0, 0)) := by rw [hW2]; exact setRow_heap W1 g _ _ 33 (0, 0) hh1
      have hs2 : (splice (splice cur.toList (i * 5 + 5) (C.drop (i * 5))) (i * 5) (encV u)).length = cap * 5 := by rw [length_splice _ _ _ (by rw [hs1, hul]; omega)]; exact hs1
      have hb0 : Below base w w.drew := ⟨rfl, rfl, rfl, Nat.le_refl _, fun _ _ => rfl⟩
      have hb2 : Below base w W2 := by rw [hW2, hW1]; exact Go.below_setRow (Go.below_setRow hb0 hg _) hg _
      have hfin : W2.ownsRow base 33 5 (.slice (some ⟨g, 0, none⟩) (n + 1) cap) (n + 1) (cellsV (V.take i ++ u :: V.drop i)) := by
        refine ⟨by rw [cellsV_len]; simp; omega, .inr ⟨g, cap, _, rfl, hg, hh2, hroom, hmax, by rw [List.size_toArray]; exact hs2, ?_⟩⟩
        rw [hcells i (by omega), show (n + 1) * 5 = n * 5 + 5 by omega]
        exact insK_shift cur.toList C (encV u) (i * 5) (n * 5) 5 hul hcl (by omega) htk (by omega)
      have HFin := Lib.hid hfin
      have HB2 := Lib.hid hb2
      have hcp1 : ∀ ty, (Builtin.copy_ #[24, 24] ty #[.slice (some ⟨g, (i + 1) * 5, none⟩) (n - i) (cap - (i + 1)), .slice (some ⟨g, i * 5, none⟩) (n + 1 - i) (cap - i)]).run Tryz.prog w.drew = .ok (goInt ((n - i : Nat) : Int)) W1 := fun ty => by
        have := run_copy_rowK (P := Tryz.prog) 5 w.drew 24 24 ty 33 g ((i + 1) * 5) (n - i) (cap - (i + 1)) ⟨g, i * 5, none⟩ (n + 1 - i) (cap - i) cur 33 (C.drop (i * 5)) (n - i) Tryz.underlying24 size5_ev hheap (by show n - i = min (n + 1 - i) (n - i); omega) hdl (fun j x hx => by rw [Addr.add_lit]; exact hsrc j x hx) (by rw [hdl, ← Array.length_toList]; omega) h1d
        rw [show (i + 1) * 5 = i * 5 + 5 by omega] at this ⊢
        rw [this, hW1]
        unfold splice
        rw [List.append_assoc]
      have hcp2 : ∀ ty, (Builtin.copy_ #[24, 24] ty #[.slice (some ⟨g, i * 5, none⟩) (n + 1 - i) (cap - i), .slice (some ⟨vb, 0, none⟩) 1 1]).run Tryz.prog W1 = .ok (goInt 1) W2 := fun ty => by
        have := run_copy_rowK (P := Tryz.prog) 5 W1 24 24 ty 33 g (i * 5) (n + 1 - i) (cap - i) ⟨vb, 0, none⟩ 1 1 _ 33 (encV u) 1 Tryz.underlying24 size5_ev hh1 (by show 1 = min 1 (n + 1 - i); omega) hul hu1 (by rw [List.size_toArray, hs1, hul]; omega) h1x
        rw [this, hW2]
        unfold splice
        rw [List.append_assoc]
        rfl
      have HC1 := Lib.hid hcp1
      have HC2 := Lib.hid hcp2
      clear hfin hb2 hb0 hs2 hh2 hW2 hu1 hs1 hh1 hW1 hcp1 hcp2 hcu h1x h1 h1d hne hcells hC hcl hul hu' hvl hheap htk hsz hsrc hdl hck hu hin hgw hvw
      go_enter Tryz.func35, Tryz.ntmps35
      go_wp2_with (simp only [hov])
      go_region_law (first
        | (refine step_copyV rfl (.tmp 73) (.tmp 76) (by rfl) (.slice (some ⟨g, (i + 1) * 5, none⟩) (n - i) (cap - (i + 1))) (.slice (some ⟨g, i * 5, none⟩) (n + 1 - i) (cap - i)) (by simp [Act.eval, Act.put]) (by simp [Act.eval, Act.put]) (HC1.out _) ?_)
        | fail)
      all_goals
        go_wp2_with (refine wpList_copyV rfl (.tmp 80) (.tmp 81) (by rfl) (.slice (some ⟨g, i * 5, none⟩) (n + 1 - i) (cap - i)) (.slice (some ⟨vb, 0, none⟩) 1 1) (by first | rfl | simp [Act.eval]) (by first | rfl | simp [Act.eval]) (HC2.out _) ?_)
        go_ret
        exact ⟨_, rfl, HFin.out, HB2.out⟩
    · obtain rfl : cap = n := by omega
      obtain ⟨i0, hi0', hz0, hzs, hzb⟩ := info_parts info_ev
      have hold : (Builtin.firstCells i0.size i (.slice (some ⟨g, 0, none⟩) i cap)).run Tryz.prog w.drew = .ok (C.take (i * 5)).toArray w.drew := by
        rw [hzs]
        exact run_firstCells_some w.drew 5 i ⟨g, 0, none⟩ i cap (C.take (i * 5)) (by rw [List.length_take]; omega) (fun j x hj => by
          rw [Addr.add_lit, Nat.zero_add]
          rw [List.getElem?_take] at hj
          split at hj
          · show w.cell? ⟨g, j, none⟩ = some x
            rw [← htk, List.getElem?_take] at hj
            split at hj
            · rw [cell_of_row w g j _ _ (0, 0) hheap]
              simpa using hj
            · cases hj
          · cases hj)
      obtain ⟨G, hG⟩ : ∃ G, G = grownCap w (cap + 1) cap 33 := ⟨_, rfl⟩
      obtain ⟨ROW, hROW⟩ : ∃ ROW : Array Value, ROW = (C.take (i * 5)).toArray ++ Builtin.zeroCells (Value.agg #[.int .i64 0, .int .i64 0, .int .i64 0, .int .i64 0, .int .i64 0]).cells (cap + 1 - i) ++ Builtin.zeroCells (Value.agg #[.int .i64 0, .int .i64 0, .int .i64 0, .int .i64 0, .int .i64 0]).cells (G - (cap + 1)) := ⟨_, rfl⟩
      have hGn : cap + 1 ≤ G := by rw [hG]; exact grownCap_ge w _ _ _
      have hGm : G ≤ maxLen := by rw [hG]; exact grownCap_le_maxLen w _ _ _ (by unfold maxLen; omega)
      have hkk : (cap : Int) + 1 - (i : Int) = ((cap + 1 - i : Nat) : Int) := by omega
      have hrz : ∀ ty, (Builtin.append_ #[24, 3] ty #[.slice (some ⟨g, 0, none⟩) i cap, .int .i64 ((cap : Int) + 1 - (i : Int))]).run Tryz.prog w = .ok (.slice (some ⟨w.heap.size, 0, none⟩) (cap + 1) G) (w.drew.alloc (.cells ROW 33)) := fun ty => by
        have h := Lib.run_append_grow_zeros w 24 3 ty 33 i0 _ .i64 .i64 Tryz.underlying24 Tryz.underlying3 hi0' hz0 (some ⟨g, 0, none⟩) i cap (C.take (i * 5)) hold (cap + 1 - i) (by omega) (by omega) (by omega) (by omega) (by rw [hzb]; omega) (by rw [hzb, show i + (cap + 1 - i) = cap + 1 by omega]; exact growslice_fits (by omega) (by omega))
        rw [show i + (cap + 1 - i) = cap + 1 by omega, ← hG, ← hROW] at h
        rw [hkk]
        exact h
      have hsl : (Value.agg #[.int .i64 0, .int .i64 0, .int .i64 0, .int .i64 0, .int .i64 0]).cells.size = 5 := rfl
      have hRl : ROW.size = G * 5 := by
        rw [hROW]
        simp only [Array.size_append, List.size_toArray, size_zeroCells, hsl, List.length_take]
        omega
      obtain ⟨W1, hW1⟩ : ∃ W1, W1 = w.drew.alloc (.cells ROW 33) := ⟨_, rfl⟩
      rw [← hW1] at hrz
      have hh1 : W1.heap[w.heap.size]? = some (.cells ROW 33 (0, 0)) := by rw [hW1]; exact World.alloc_heap_new w.drew _
      have hu1 : ∀ j x, (encV u)[j]? = some x → W1.cell? ((⟨vb, 0, none⟩ : Addr).add j) = some x := fun j x hx => by
        rw [← hcu j x hx, hW1]
        exact World.cell?_of_block (a := (⟨vb, 0, none⟩ : Addr).add j) (by
          have : ((⟨vb, 0, none⟩ : Addr).add j).block = vb := by unfold Addr.add; split <;> rfl
          rw [this]
          exact heap_alloc_old w.drew _ hvw)
      obtain ⟨W2, hW2⟩ : ∃ W2, W2 = W1.setRow w.heap.size (splice ROW.toList (i * 5) (encV u)).toArray := ⟨_, rfl⟩
      have hh2 : W2.heap[w.heap.size]? = some (.cells (splice ROW.toList (i * 5) (encV u)).toArray 33 (0, 0)) := by rw [hW2]; exact setRow_heap W1 w.heap.size ROW _ 33 (0, 0) hh1
      have hl2 : (splice ROW.toList (i * 5) (encV u)).length = G * 5 := by rw [length_splice _ _ _ (by rw [hul, Array.length_toList, hRl]; omega), Array.length_toList, hRl]
      have hsrc2 : ∀ j x, (C.drop (i * 5))[j]? = some x → W2.drew.cell? ⟨g, i * 5 + j, none⟩ = some x := fun j x hx => by
        rw [← hsrc j x hx]
        refine World.cell?_of_block (w' := W2.drew) (w := w) (a := ⟨g, i * 5 + j, none⟩) ?_
        show W2.heap[g]? = w.heap[g]?
        rw [hW2, setRow_other W1 w.heap.size g _ (by omega), hW1]
        exact heap_alloc_old w.drew _ hgw
      obtain ⟨W3, hW3⟩ : ∃ W3, W3 = W2.drew.setRow w.heap.size (splice (splice ROW.toList (i * 5) (encV u)) (i * 5 + 5) (C.drop (i * 5))).toArray := ⟨_, rfl⟩
      have hh3 : W3.heap[w.heap.size]? = some (.cells (splice (splice ROW.toList (i * 5) (encV u)) (i * 5 + 5) (C.drop (i * 5))).toArray 33 (0, 0)) := by rw [hW3]; exact setRow_heap W2.drew w.heap.size _ _ 33 (0, 0) hh2
      have hl3 : (splice (splice ROW.toList (i * 5) (encV u)) (i * 5 + 5) (C.drop (i * 5))).length = G * 5 := by rw [length_splice _ _ _ (by rw [hl2, hdl]; omega)]; exact hl2
      have hba : Below base w (w.drew.alloc (.cells ROW 33)) := (show Below base w w.drew from ⟨rfl, rfl, rfl, Nat.le_refl _, fun _ _ => rfl⟩).trans ((Below.refl base w.drew).alloc hbase _)
      have hb3 : Below base w W3 := by
        have hx2 : Below base w W2 := by rw [hW2, hW1]; exact Go.below_setRow hba hbase _
        have hx3 : Below base w W2.drew := hx2.trans (show Below base W2 W2.drew from ⟨rfl, rfl, rfl, Nat.le_refl _, fun _ _ => rfl⟩)
        rw [hW3]
        exact Go.below_setRow hx3 hbase _
      have hrt : ROW.toList.take (i * 5) = C.take (i * 5) := by
        rw [hROW]
        simp only [Array.toList_append, List.append_assoc]
        rw [List.take_append_of_le_length (by simp; omega), List.take_of_length_le (by simp; omega)]
      have hfin : W3.ownsRow base 33 5 (.slice (some ⟨w.heap.size, 0, none⟩) (cap + 1) G) (cap + 1) (cellsV (V.take i ++ u :: V.drop i)) := by
        refine ⟨by rw [cellsV_len]; simp; omega, .inr ⟨w.heap.size, G, _, rfl, hbase, hh3, hGn, hGm, by rw [List.size_toArray]; exact hl3, ?_⟩⟩
        rw [hcells i (by omega), show (cap + 1) * 5 = cap * 5 + 5 by omega]
        exact insK_grow ROW.toList C (encV u) (i * 5) (cap * 5) 5 hul hcl (by omega) hrt
      have HFin := Lib.hid hfin
      have HB3 := Lib.hid hb3
      have hcp1 : ∀ ty, (Builtin.copy_ #[24, 24] ty #[.slice (some ⟨w.heap.size, i * 5, none⟩) (cap + 1 - i) (G - i), .slice (some ⟨vb, 0, none⟩) 1 1]).run Tryz.prog W1 = .ok (goInt 1) W2 := fun ty => by
        have := run_copy_rowK (P := Tryz.prog) 5 W1 24 24 ty 33 w.heap.size (i * 5) (cap + 1 - i) (G - i) ⟨vb, 0, none⟩ 1 1 ROW 33 (encV u) 1 Tryz.underlying24 size5_ev hh1 (by show 1 = min 1 (cap + 1 - i); omega) hul hu1 (by rw [hRl, hul]; omega) h1x
        rw [this, hW2]
        unfold splice
        rw [List.append_assoc]
        rfl
      have hcp2 : ∀ ty, (Builtin.copy_ #[24, 24] ty #[.slice (some ⟨w.heap.size, (i + 1) * 5, none⟩) (cap - i) (G - (i + 1)), .slice (some ⟨g, i * 5, none⟩) (cap - i) (cap - i)]).run Tryz.prog W2.drew = .ok (goInt ((cap - i : Nat) : Int)) W3 := fun ty => by
        have := run_copy_rowK (P := Tryz.prog) 5 W2.drew 24 24 ty 33 w.heap.size ((i + 1) * 5) (cap - i) (G - (i + 1)) ⟨g, i * 5, none⟩ (cap - i) (cap - i) _ 33 (C.drop (i * 5)) (cap - i) Tryz.underlying24 size5_ev hh2 (by show cap - i = min (cap - i) (cap - i); omega) hdl (fun j x hx => by rw [Addr.add_lit]; exact hsrc2 j x hx) (by rw [hdl, List.size_toArray, hl2]; omega) h1d
        rw [show (i + 1) * 5 = i * 5 + 5 by omega] at this ⊢
        rw [this, hW3]
        unfold splice
        rw [List.append_assoc]
      have HC1 := Lib.hid hcp1
      have HC2 := Lib.hid hcp2
      have HRz := Lib.hid hrz
      have hg1 : ¬ (G = i) := by omega
      have hg2 : ¬ (G = i + 1) := by omega
      have hg3 : ¬ (cap = i) := by omega
      have hg4 : (i : Int) ≤ (cap : Int) + 1 := by omega
      have hg5 : (i : Int) + 1 ≤ (cap : Int) + 1 := by omega
      have hg6 : G ≤ 9223372036854775807 := by unfold maxLen at hGm; omega
      have hg7 : (i : Int) ≤ (G : Int) := by omega
      clear hfin hb3 hrt hba hl3 hh3 hW3 hsrc2 hl2 hh2 hW2 hu1 hh1 hW1 hRl hsl hrz hkk hROW hG hGm hold hi0' hz0 hzs hzb hcp1 hcp2 hcu h1x h1 h1d hne hcells hC hcl hul hu' hvl hheap htk hsz hsrc hdl hck hu hin hgw hvw
      go_enter Tryz.func35, Tryz.ntmps35
      go_wp2_with (first
        | (at_builtin; go_must (refine Lib.wpList_append_run _ rfl _ _ _ _ rfl _ _ rfl rfl _ _ (HRz.out _) ?_))
        | (refine wpList_copyV rfl (.tmp 43) (.tmp 44) (by rfl) (.slice (some ⟨w.heap.size, i * 5, none⟩) (cap + 1 - i) (G - i)) (.slice (some ⟨vb, 0, none⟩) 1 1) (by first | rfl | simp [Act.eval]) (by first | rfl | simp [Act.eval]) (HC1.out _) ?_)
        | fail)
      go_region_law (first
        | (refine step_copyV rfl (.tmp 50) (.tmp 53) (by rfl) (.slice (some ⟨w.heap.size, (i + 1) * 5, none⟩) (cap - i) (G - (i + 1))) (.slice (some ⟨g, i * 5, none⟩) (cap - i) (cap - i)) (by simp [Act.eval, Act.put]) (by simp [Act.eval, Act.put]) (HC2.out _) ?_)
        | fail)
      all_goals
        go_wp2
        go_ret
        exact ⟨_, rfl, HFin.out, HB3.out⟩
end Go.Proofs.YtcjkeobjojmpfaaGreat
end
