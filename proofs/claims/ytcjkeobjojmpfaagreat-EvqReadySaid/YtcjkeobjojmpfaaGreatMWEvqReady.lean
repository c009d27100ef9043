import Derived.Test.YtcjkeobjojmpfaaGreatMEvqM
import Derived.Lib.SlicesCompact
import Derived.Test.YtcjkeobjojmpfaaGreatMShelfR
import Derived.Test.YtcjkeobjojmpfaaGreatMEvqOne
import Derived.Test.YtcjkeobjojmpfaaGreatMEvqAw
import Derived.Deep.RegionHeld3
section
/-
  PLAIN FACTS: what slices.Sort and slices.Compact leave of a list of integers.
-/
namespace Go.Proofs.YtcjkeobjojmpfaaGreat
open Go.RowKit Go.Lib

theorem compactI_asc (d : Array Int) (hs : ∀ i j, i < j → j < d.size → d[i]! ≤ d[j]!) : ∀ m, m ≤ d.size → (compactUpTo d m).Pairwise (· < ·) ∧ ∀ x, x ∈ compactUpTo d m ↔ ∃ i, i < m ∧ x = d[i]!
  | 0, _ => by simp [compactUpTo]
  | m + 1, hm => by
    obtain ⟨ih1, ih2⟩ := compactI_asc d hs m (by omega)
    rw [compactUpTo_succ]
    cases hk : keeps d m with
    | true =>
      rw [if_pos rfl]
      have hlt : ∀ i, i < m → d[i]! < d[m]! := by
        intro i hi
        have hne : d[m]! ≠ d[m - 1]! := by
          unfold keeps at hk
          have := of_decide_eq_true hk
          rcases this with h | h
          · omega
          · exact h
        have h1 := hs (m - 1) m (by omega) (by omega)
        have h2 : d[m - 1]! < d[m]! := by omega
        by_cases hi2 : i = m - 1
        · subst hi2; exact h2
        · have := hs i (m - 1) (by omega) (by omega); omega
      refine ⟨List.pairwise_append.2 ⟨ih1, by simp, ?_⟩, fun x => ?_⟩
      · intro a ha b hb
        rw [List.mem_singleton.1 hb]
        obtain ⟨i, hi, rfl⟩ := (ih2 a).1 ha
        exact hlt i hi
      · rw [List.mem_append, ih2, List.mem_singleton]
        constructor
        · rintro (⟨i, hi, rfl⟩ | rfl)
          · exact ⟨i, by omega, rfl⟩
          · exact ⟨m, by omega, rfl⟩
        · rintro ⟨i, hi, rfl⟩
          by_cases e : i = m
          · subst e; exact .inr rfl
          · exact .inl ⟨i, by omega, rfl⟩
    | false =>
      rw [if_neg (by decide), List.append_nil]
      refine ⟨ih1, fun x => ?_⟩
      rw [ih2]
      have hne : m ≠ 0 ∧ d[m]! = d[m - 1]! := by
        unfold keeps at hk
        have := of_decide_eq_false hk
        simp only [not_or, Classical.not_not] at this
        exact ⟨this.1, by simpa using this.2⟩
      constructor
      · rintro ⟨i, hi, rfl⟩; exact ⟨i, by omega, rfl⟩
      · rintro ⟨i, hi, rfl⟩
        by_cases e : i = m
        · subst e; exact ⟨i - 1, by omega, hne.2⟩
        · exact ⟨i, by omega, rfl⟩
theorem sortI_facts (zs : List Int) : (Lib.compact (zs.mergeSort fun x y => decide (x ≤ y))).Pairwise (· < ·) ∧ ∀ x, x ∈ Lib.compact (zs.mergeSort fun x y => decide (x ≤ y)) ↔ x ∈ zs := by
  have hp := List.mergeSort_perm zs (fun x y => decide (x ≤ y))
  have hs : (zs.mergeSort fun x y => decide (x ≤ y)).Pairwise (fun a b => decide (a ≤ b) = true) := List.pairwise_mergeSort (fun a b c h1 h2 => by simp at h1 h2 ⊢; omega) (fun a b => by simp; omega) zs
  generalize (zs.mergeSort fun x y => decide (x ≤ y)) = ts at *
  have h := compactI_asc ts.toArray (fun i j hij hj => by
    have hj' : j < ts.length := by simpa using hj
    have := List.pairwise_iff_getElem.1 hs i j (by omega) hj' hij
    rw [decide_eq_true_eq] at this
    rw [getElem!_pos ts.toArray i (by simp; omega), getElem!_pos ts.toArray j (by simpa using hj')]
    simpa using this) ts.length (by simp)
  refine ⟨h.1, fun x => ?_⟩
  unfold Lib.compact
  rw [h.2 x, ← hp.mem_iff]
  constructor
  · rintro ⟨i, hi, rfl⟩
    rw [getElem!_pos ts.toArray i (by simpa using hi)]
    simp
  · intro hx
    obtain ⟨i, hi, rfl⟩ := List.getElem_of_mem hx
    exact ⟨i, hi, by rw [getElem!_pos ts.toArray i (by simpa using hi)]; simp⟩
theorem sortI_len (zs : List Int) : (Lib.compact (zs.mergeSort fun x y => decide (x ≤ y))).length ≤ zs.length := by
  have := List.length_filter_le (Lib.keeps (zs.mergeSort fun x y => decide (x ≤ y)).toArray) (List.range (zs.mergeSort fun x y => decide (x ≤ y)).length)
  unfold Lib.compact Lib.compactUpTo
  rw [List.length_map]
  rw [List.length_range, (List.mergeSort_perm zs _).length_eq] at this
  rw [(List.mergeSort_perm zs _).length_eq]
  exact this
end Go.Proofs.YtcjkeobjojmpfaaGreat
end

section
/-
  CONTRACT of evq's Ready: the processes that have an event before a time.
-/
namespace Go.Proofs.YtcjkeobjojmpfaaGreat
open Go.RowKit Go.Shelf Go.Sort Go.Lib

/-- A row of integers, or none. -/
def IV (w : World) (v : Value) (l : List Int) : Prop := (l = [] ∧ ∃ a c, v = .slice a 0 c) ∨ ∃ g c, v = .slice (some ⟨g, 0, none⟩) l.length c ∧ IR w g c l
theorem IV.below {w w' : World} {v : Value} {l : List Int} (h : IV w v l) (hb : Below w.heap.size w w') : IV w' v l := by
  rcases h with h | ⟨g, c, e, hr⟩
  · exact .inl h
  · exact .inr ⟨g, c, e, hr.below hb⟩
theorem IV.shape {w : World} {v : Value} {l : List Int} (h : IV w v l) : ∃ a c, v = .slice a l.length c := by
  rcases h with ⟨rfl, a, c, e⟩ | ⟨g, c, e, hr⟩
  · exact ⟨a, c, e⟩
  · exact ⟨_, c, e⟩
theorem sorted_world {w : World} {g n : Nat} {os : Array Obj} (zs ts : List Int) (hl : ts.length = zs.length) (hH : Holds (Value.int .i64) w g 0 zs.toArray) (hg : ∃ cur, w.heap[g]? = some (.cells cur 3 (0, 0))) :
    Holds (Value.int .i64) (grow (putRow (Value.int .i64) (Sort.ahead w n) g 0 ts.toArray) os) g 0 ts.toArray ∧ (∃ cur, (grow (putRow (Value.int .i64) (Sort.ahead w n) g 0 ts.toArray) os).heap[g]? = some (.cells cur 3 (0, 0))) ∧ Off (fun k => k = g) w (grow (putRow (Value.int .i64) (Sort.ahead w n) g 0 ts.toArray) os) := by
  obtain ⟨cur, hg⟩ := hg
  have hlt : g < w.heap.size := (Array.getElem?_eq_some_iff.1 hg).1
  have hh : (grow (putRow (Value.int .i64) (Sort.ahead w n) g 0 ts.toArray) os).heap[g]? = (putRow (Value.int .i64) (Sort.ahead w n) g 0 ts.toArray).heap[g]? := heap_grow_old _ _ (by simpa using hlt)
  have h1 : Holds (Value.int .i64) (putRow (Value.int .i64) (Sort.ahead w n) g 0 ts.toArray) g 0 ts.toArray := holds_putRow _ _ g 0 zs.toArray _ (holds_ahead _ w n g 0 zs.toArray hH) (by simp [hl])
  refine ⟨fun j hj => ?_, ?_, rfl, rfl, rfl, by simp, fun k hk hne => ?_⟩
  · obtain ⟨a1, a2⟩ := h1 j hj
    exact ⟨by rw [cell_blk hh]; exact a1, by rw [frozen_blk hh]; exact a2⟩
  · rw [hh]
    simp [putRow, mapBlock, Sort.ahead, Array.getElem?_modify, hg, onCells]
  · rw [heap_grow_old _ _ (by simpa using hk)]
    have : g ≠ k := fun e => hne e.symm
    simp [putRow, mapBlock, Sort.ahead, Array.getElem?_modify, this]
theorem cut_mem {L : List Ev} {t : Int} {n : Nat} (ha : AscV L) (h : CutAt L t n) (x : Ev) : x ∈ L.take n ↔ x ∈ L ∧ x.1.1 < t := by
  obtain ⟨h1, h2, h3⟩ := h
  constructor
  · intro hx
    refine ⟨List.mem_of_mem_take hx, ?_⟩
    obtain ⟨j, hj, rfl⟩ := List.mem_take_iff_getElem.1 hx
    have e := vn_get (l := L) (i := j) (by omega)
    rw [List.getElem?_eq_getElem (by omega)] at e
    rw [Option.some.inj e]
    exact h2 j (by omega)
  · rintro ⟨hx, ht⟩
    obtain ⟨j, hj, rfl⟩ := List.getElem_of_mem hx
    have e := vn_get hj
    rw [List.getElem?_eq_getElem hj] at e
    rw [Option.some.inj e] at ht ⊢
    by_cases c : j < n
    · refine List.mem_take_iff_getElem.2 ⟨j, by omega, ?_⟩
      exact Option.some.inj e
    · exfalso
      have h4 := h3 (by omega)
      rcases Nat.lt_or_ge n j with c2 | c2
      · have := List.pairwise_iff_getElem.1 ha n j (by omega) hj c2
        have e2 := vn_get (l := L) (i := n) (by omega)
        rw [List.getElem?_eq_getElem (by omega)] at e2
        rw [Option.some.inj e2, Option.some.inj e] at this
        unfold LtV LessK at this
        omega
      · obtain rfl : j = n := by omega
        omega
theorem cell_new_int (w : World) (y : Int) (ty : TypeId) (b : Nat) (hb : b = w.heap.size) : (w.alloc (.cells #[.int .i64 y] ty)).cell? ⟨b, 0, none⟩ = some (.int .i64 y) := by
  subst hb
  have h : (w.alloc (.cells #[.int .i64 y] ty)).heap[w.heap.size]? = some (.cells #[.int .i64 y] ty (0, 0)) := World.alloc_heap_new w _
  simp only [World.cell?, h]; rfl
theorem wpList_appI {ops : Array Oper} {rest : List Oper} {o : Oper} {a : Act} {w : World} {Q : Exit → Act → World → Prop} (hgd : o.guard = none) (s x : Operand)
    (ho : o.op = .call { callee := .builtin .append, args := #[s, x], argTypes := #[58, 58] })
    (base : Nat) (v : Value) (k : Nat) (xs : List Value) (hs : a.eval s = v) (hown : w.ownsRow base 3 1 v k xs) (g c : Nat) (y : Int) (hx : a.eval x = .slice (some ⟨g, 0, none⟩) 1 c) (hV : w.cell? ⟨g, 0, none⟩ = some (.int .i64 y)) (hb : k + 1 ≤ 2000) (hbase : base ≤ w.heap.size)
    (h : ∀ v' w', w'.ownsRow base 3 1 v' (k + 1) (xs ++ [.int .i64 y]) → w.grownBy w' v.ownBlock → wpList Tryz.prog ops Q rest (a.put o.dst v') w') : wpList Tryz.prog ops Q (o :: rest) a w := by
  obtain ⟨i0, hi, hz0, hz1, hz2⟩ := info_parts info_int
  refine wpList_appG hgd s x 58 3 i0 _ 1 8 Tryz.underlying58 hi hz0 hz1 hz2 rfl (by decide) ho base v k xs hs hown g 1 c [.int .i64 y] hx rfl (fun j u hu => ?_) (fun u hu => by rw [List.mem_singleton.1 hu]; rfl) (by unfold maxLen; omega) (by omega) hbase fun v' w' a1 a2 _ _ => h v' w' a1 a2
  have hj : j < 1 := (List.getElem?_eq_some_iff.1 hu).1
  obtain rfl : j = 0 := by omega
  rw [hV]; exact hu
set_option maxRecDepth 100000 in
set_option maxHeartbeats 4000000 in
theorem readyQ_calls {w : World} {q : Nat} {G : Nat → Prop} {cap U : Nat} {L : List Ev} (h : QA w q G cap U L) (t : Int) :
    Calls Tryz.prog 28 #[.pointer (some ⟨q, 0, none⟩), .int .i64 t] w fun e w' => ∃ v R, e = .returned v ∧ IV w' v R ∧ Below w.heap.size w w' ∧ R.length ≤ 256 ∧ R.Pairwise (· < ·) ∧ ∀ p, p ∈ R ↔ ∃ x ∈ L, x.1.1 < t ∧ x.2.1 = p := by
  have HB := Lib.hid (beforeQ_calls h t)
  have hL256 : L.length ≤ 256 := Nat.le_trans h.facts.2.2.1 h.facts.2.2.2.1
  have HAs := Lib.hid h.facts.1
  clear h
  go_enter Tryz.func28, Tryz.ntmps28
  go_wp2_with fail
  refine HB.out.mono ?_
  rintro e w1 ⟨v, n, rfl, hcut, ho, hb1⟩
  have hnl : n ≤ L.length := hcut.1
  obtain ⟨M, hM⟩ : ∃ M, L.take n = M := ⟨_, rfl⟩
  have hMl : M.length = n := by rw [← hM, List.length_take]; omega
  rw [hM] at ho
  rw [← hMl] at ho
  obtain ⟨hlv, -⟩ := LV.of_owns ho
  obtain ⟨ma, mc, rfl, -, -⟩ := hlv.shape
  have HLv := Lib.hid hlv.lo
  have HB1 := Lib.hid hb1
  have HM := Lib.hid (And.intro hM hcut)
  have hM256 : M.length ≤ 256 := by omega
  clear ho hlv hb1 HB hM hcut hMl hnl
  go_wp2_with fail
  go_loopw [5, 12] (fun s5 jv wr => ∃ k : Nat, k ≤ M.length ∧ jv = .int .i64 (k : Int) ∧ wr.ownsRow w1.heap.size 3 1 s5 k ((M.take k).map fun x => Value.int .i64 x.2.1) ∧ Below w1.heap.size w1 wr) (fun _ jv _ => M.length - (intOf jv).toNat)
  case atStart => exact ⟨0, Nat.zero_le _, by simp, World.ownsRow_nil _ _ _ _, Below.refl _ _⟩
  case round =>
    obtain ⟨k, hk, rfl, ho, hbw⟩ := hrel
    by_cases hlt : k < M.length
    · have e1 : (k : Int) < (M.length : Int) := by omega
      obtain ⟨g, o, rfl, hgl, u0, u1, u2, u3, u4⟩ := (HLv.out.below hbw).at hlt
      have hsn : (M.take (k + 1)).map (fun x => Value.int .i64 x.2.1) = (M.take k).map (fun x => Value.int .i64 x.2.1) ++ [Value.int .i64 (vn M k).2.1] := by
        rw [List.take_add_one, vn_get hlt, List.map_append]; rfl
      have HSn := Lib.hid hsn
      generalize vn M k = x at *
      have HO := Lib.hid ho
      have HBW := Lib.hid hbw
      have hbs := hbw.size
      clear ho hbw hsn
      go_wp2_with (at_builtin; go_must (refine wpList_appI rfl (.tmp 16) (.tmp 19) (by rfl) w1.heap.size u5 k _ (by first | rfl | simp [Act.eval]) ((HO.out.alloc _).alloc _) (wr.heap.size + 1) 1 x.2.1 (by first | rfl | simp [Act.eval]) (cell_new_int _ _ _ _ (by simp)) (by omega) (by simp; omega) ?_; intro v5 w5 hr5 hg5; have HR5 := Lib.hid hr5; have HG5 := Lib.hid hg5; clear hr5 hg5))
      have hA := (HBW.out.alloc (show w1.heap.size ≤ wr.heap.size from hbs) (.cells #[.int .i64 x.1.1, .int .i64 x.1.2.1, .int .i64 x.1.2.2, .int .i64 x.2.1, .int .i64 x.2.2] 33)).alloc (show w1.heap.size ≤ _ by simp; omega) (.cells #[.int .i64 x.2.1] 3)
      exact ⟨⟨k + 1, hlt, by go_num, by rw [HSn.out]; exact HR5.out, hA.grown HG5.out hA.size (fun j hj => (HO.out.lt j hj).1)⟩, by simp [intOf]; omega⟩
    · obtain rfl : k = M.length := by omega
      rw [List.take_length] at ho
      obtain ⟨hcutM, hcut⟩ := HM.out
      have hmem : ∀ p, p ∈ M.map (fun x => x.2.1) ↔ ∃ x ∈ L, x.1.1 < t ∧ x.2.1 = p := fun p => by
        rw [List.mem_map]
        constructor
        · rintro ⟨x, hx, rfl⟩
          rw [← hcutM] at hx
          obtain ⟨a, b⟩ := (cut_mem HAs.out hcut x).1 hx
          exact ⟨x, a, b, rfl⟩
        · rintro ⟨x, a, b, rfl⟩
          exact ⟨x, by rw [← hcutM]; exact (cut_mem HAs.out hcut x).2 ⟨a, b⟩, rfl⟩
      have HMem := Lib.hid hmem
      have HBW := Lib.hid (HB1.out.trans (hbw.mono HB1.out.size))
      have HBs := Lib.hid (Nat.le_trans HB1.out.size hbw.size)
      have HB1s := Lib.hid HB1.out.size
      obtain ⟨zs, hzs⟩ : ∃ zs, M.map (fun x => x.2.1) = zs := ⟨_, rfl⟩
      have hzl : zs.length = M.length := by rw [← hzs, List.length_map]
      have hmz : M.map (fun x => Value.int .i64 x.2.1) = zs.map (Value.int .i64) := by rw [← hzs, List.map_map]; rfl
      rw [hmz] at ho
      rw [hzs] at HMem
      obtain ⟨-, ⟨rfl, h0⟩ | ⟨g, cap, cur, rfl, hgb, hgc, hgn, hgm, hgs, hgt⟩⟩ := ho
      · have hz0 : zs = [] := List.eq_nil_of_length_eq_zero (by omega)
        clear hbw hcut hcutM hmem hmz HM HLv
        go_wp2_with fail
        refine (Tryz.slices_Sort_int_none none 0 wr).mono ?_
        rintro e w5 ⟨rfl, hw⟩
        have hw := hw.symm
        subst hw
        go_wp2_with fail
        refine (Tryz.slices_Compact_int_empty none 0 wr).mono ?_
        rintro e w6 ⟨rfl, hw⟩
        have hw := hw.symm
        subst hw
        go_wp2_with fail
        go_ret
        refine ⟨_, [], rfl, .inl ⟨rfl, _, _, rfl⟩, HBW.out, by simp, List.Pairwise.nil, fun p => ?_⟩
        rw [← HMem.out p, hz0]
      · have hH : Holds (Value.int .i64) wr g 0 zs.toArray := fun j hj => by
          have hj' : j < zs.length := by simpa using hj
          refine ⟨?_, by simp [World.frozen?, hgc]⟩
          have e : (zs.map (Value.int .i64))[j]? = some (Value.int .i64 zs.toArray[j]!) := by
            rw [List.getElem?_map, List.getElem?_eq_getElem hj', getElem!_pos zs.toArray j (by simpa using hj')]; simp
          rw [Nat.zero_add, cell_of_row _ _ j _ _ (0, 0) hgc, ← Array.getElem?_toList, ← e, ← hgt, List.getElem?_take_of_lt (by simpa [hzl] using hj')]
        have hgl : g < wr.heap.size := (Array.getElem?_eq_some_iff.1 hgc).1
        have HSo := Lib.hid (Tryz.slices_Sort_int g 0 cap zs wr hH hgl (by omega))
        have HH := Lib.hid (And.intro hH (show ∃ cur, wr.heap[g]? = some (.cells cur 3 (0, 0)) from ⟨_, hgc⟩))
        rw [hzl] at HSo
        have HZl := Lib.hid hzl
        clear hbw hcut hcutM hmem hmz HM HLv hH hgc hgt hgs hzl hzs
        go_wp2_with fail
        refine HSo.out.mono ?_
        rintro e w5 ⟨rfl, n5, os5, hw5⟩
        obtain ⟨s1, s2, s3⟩ := sorted_world (n := n5) (os := os5) zs (zs.mergeSort fun x y => decide (x ≤ y)) (List.mergeSort_perm zs _).length_eq HH.out.1 HH.out.2
        rw [← hw5] at s1 s2 s3
        obtain ⟨hfa, hfm⟩ := sortI_facts zs
        have hcl := sortI_len zs
        have htl : (zs.mergeSort fun x y => decide (x ≤ y)).length = M.length := by rw [(List.mergeSort_perm zs _).length_eq, HZl.out]
        generalize (zs.mergeSort fun x y => decide (x ≤ y)) = ts at *
        have HCo := Lib.hid (Tryz.slices_Compact_int g 0 cap ts w5 s1 (by omega) (by omega))
        rw [htl] at HCo
        have HS5 := Lib.hid (And.intro s1 (And.intro s2 s3))
        clear hw5 s1 s2 s3 HSo
        go_wp2_with fail
        refine HCo.out.mono ?_
        rintro e w6 ⟨rfl, n6, hw6⟩
        obtain ⟨s1, s2, s3⟩ := HS5.out
        obtain ⟨r1, r2, r3⟩ := sorted_world (n := n6) (os := #[]) ts (Lib.compact ts ++ List.replicate (M.length - (Lib.compact ts).length) 0) (by rw [List.length_append, List.length_replicate]; have := HZl.out; omega) s1 s2
        rw [show ∀ W : World, grow W #[] = W from fun W => by simp [grow]] at r1 r2 r3
        rw [← hw6] at r1 r2 r3
        have hoff := s3.to r3
        have hIR : IR w6 g cap (Lib.compact ts) := ⟨r2, ⟨by have := HZl.out; omega, hgm⟩, fun i hi => by
          obtain ⟨a1, -⟩ := r1 i (by simp; omega)
          rw [Nat.zero_add] at a1
          rw [a1, getElem!_pos _ i (by simp; omega), List.getElem_toArray, List.getElem_append_left hi, List.getD_eq_getElem?_getD, List.getElem?_eq_getElem hi]
          rfl⟩
        have hbel : Below w.heap.size w w6 := HBW.out.trans (hoff.below (fun k hk => by have := HB1s.out; omega) HBs.out)
        have HF := Lib.hid (And.intro hIR (And.intro hbel (And.intro hfa hfm)))
        clear r1 r2 r3 s1 s2 s3 hw6 hoff hIR hbel hfa hfm HS5 HCo
        go_wp2_with fail
        go_ret
        obtain ⟨f1, f2, f3, f4⟩ := HF.out
        exact ⟨_, _, rfl, .inr ⟨g, cap, rfl, f1⟩, f2, by have := HZl.out; omega, f3, fun p => (f4 p).trans (HMem.out p)⟩
end Go.Proofs.YtcjkeobjojmpfaaGreat
end

section
/-
  CONTRACTS of the functions that EvqReady hands to slices.ContainsFunc, and of slices.Contains at []int.
-/
namespace Go.Proofs.YtcjkeobjojmpfaaGreat
open Go.RowKit Go.Shelf

/-- An event for a process, before a time. -/
def Rd (p t : Int) (x : Ev) : Prop := x.2.1 = p ∧ x.1.1 < t
instance (p t : Int) (x : Ev) : Decidable (Rd p t x) := inferInstanceAs (Decidable (_ ∧ _))
set_option maxHeartbeats 1000000 in
theorem rd1_calls (x : Ev) (p t : Int) (pb tb : Nat) (W : World) (hpb : W.heap[pb]? = some (.cells #[.int .i64 p] 3 (0, 0))) (htb : W.heap[tb]? = some (.cells #[.int .i64 t] 3 (0, 0))) :
    Calls Tryz.prog 33 #[.agg #[.int .i64 x.1.1, .int .i64 x.1.2.1, .int .i64 x.1.2.2, .int .i64 x.2.1, .int .i64 x.2.2], .pointer (some ⟨pb, 0, none⟩), .pointer (some ⟨tb, 0, none⟩)] W fun e w' => e = .returned (.bool (decide (Rd p t x))) ∧ Below W.heap.size W w' := by
  have hB : Below W.heap.size W (W.alloc (.cells #[.int .i64 x.1.1, .int .i64 x.1.2.1, .int .i64 x.1.2.2, .int .i64 x.2.1, .int .i64 x.2.2] 33)) := (Below.refl _ W).alloc (Nat.le_refl _) _
  have hp2 : (W.alloc (.cells #[.int .i64 x.1.1, .int .i64 x.1.2.1, .int .i64 x.1.2.2, .int .i64 x.2.1, .int .i64 x.2.2] 33)).cell? ⟨pb, 0, none⟩ = some (.int .i64 p) := by
    have := (hB.block pb (Array.getElem?_eq_some_iff.1 hpb).1).trans hpb
    simp only [World.cell?, this]; rfl
  have ht2 : (W.alloc (.cells #[.int .i64 x.1.1, .int .i64 x.1.2.1, .int .i64 x.1.2.2, .int .i64 x.2.1, .int .i64 x.2.2] 33)).cell? ⟨tb, 0, none⟩ = some (.int .i64 t) := by
    have := (hB.block tb (Array.getElem?_eq_some_iff.1 htb).1).trans htb
    simp only [World.cell?, this]; rfl
  have HB := Lib.hid hB
  clear hB hpb htb
  by_cases h : x.2.1 = p
  · subst h
    by_cases h2 : x.1.1 < t
    · have hd : decide (Rd x.2.1 t x) = true := by simp [Rd, h2]
      go_enter Tryz.func33, Tryz.ntmps33
      go_wp2_with fail
      go_ret
      exact ⟨by first | rfl | (rw [hd]; rfl), HB.out⟩
    · have hd : decide (Rd x.2.1 t x) = false := by simp [Rd, h2]
      go_enter Tryz.func33, Tryz.ntmps33
      go_wp2_with fail
      go_ret
      exact ⟨by first | rfl | (rw [hd]; rfl), HB.out⟩
  · have hd : decide (Rd p t x) = false := by simp [Rd, h]
    go_enter Tryz.func33, Tryz.ntmps33
    go_wp2_with fail
    go_ret
    exact ⟨by first | rfl | (rw [hd]; rfl), HB.out⟩
/-- Which event is the first for a process, before a time. -/
def RdIs (l : List Ev) (p t r : Int) : Prop := (r = -1 ∧ ∀ k : Nat, k < l.length → ¬ Rd p t (vn l k)) ∨ ∃ k : Nat, r = (k : Int) ∧ k < l.length ∧ Rd p t (vn l k)
set_option maxRecDepth 100000 in
set_option maxHeartbeats 4000000 in
theorem indexRd_calls {w : World} (lv : Value) (l : List Ev) (hv : LO w lv l) (p t : Int) (pb tb : Nat) (hpb : w.heap[pb]? = some (.cells #[.int .i64 p] 3 (0, 0))) (htb : w.heap[tb]? = some (.cells #[.int .i64 t] 3 (0, 0))) (hlen : l.length ≤ 1000) :
    Calls Tryz.prog 18 #[lv, .func (.func 33) #[] #[.pointer (some ⟨pb, 0, none⟩), .pointer (some ⟨tb, 0, none⟩)]] w fun e w' => ∃ r, e = .returned (.int .i64 r) ∧ RdIs l p t r ∧ Below w.heap.size w w' := by
  obtain ⟨la, lc, rfl, hlc, hle⟩ := hv.shape
  have HV := Lib.hid hv
  have HBx := Lib.hid hpb
  have HBt := Lib.hid htb
  clear hv hpb htb
  go_enter Tryz.func18, Tryz.ntmps18
  go_wp2_with fail
  go_loopw [8] (fun jv wr => ∃ k : Nat, k ≤ l.length ∧ jv = .int .i64 (k : Int) ∧ Below w.heap.size w wr ∧ ∀ j : Nat, j < k → ¬ Rd p t (vn l j)) (fun jv _ => l.length - (intOf jv).toNat)
  case atStart => exact ⟨0, Nat.zero_le _, by simp, Below.refl _ _, fun j hj => absurd hj (Nat.not_lt_zero j)⟩
  case round =>
    obtain ⟨k, hk, rfl, hbw, hno⟩ := hrel
    have HNo := Lib.hid hno
    by_cases hlt : k < l.length
    · have e1 : (k : Int) < (l.length : Int) := by omega
      have hrow : ∃ g o, la = some ⟨g, o, none⟩ ∧ VAt wr g (o + k * 5) (vn l k) := by
        obtain ⟨g, o, e, hl, hr⟩ := HV.out.at hlt
        exact ⟨g, o, e, hr.keep (hbw.block g hl)⟩
      obtain ⟨g, o, rfl, v0, v1, v2, v3, v4⟩ := hrow
      obtain ⟨x, hxe⟩ : ∃ x, vn l k = x := ⟨_, rfl⟩
      have HXe := Lib.hid hxe
      rw [hxe] at v0 v1 v2 v3 v4
      have HBW := Lib.hid hbw
      have HW := Lib.hid (show ∀ W, Below wr.heap.size wr W → Calls Tryz.prog 33 #[.agg #[.int .i64 x.1.1, .int .i64 x.1.2.1, .int .i64 x.1.2.2, .int .i64 x.2.1, .int .i64 x.2.2], .pointer (some ⟨pb, 0, none⟩), .pointer (some ⟨tb, 0, none⟩)] W fun e w' => e = .returned (.bool (decide (Rd p t x))) ∧ Below w.heap.size w w' from fun W hW => by
        have hW2 := hbw.trans (hW.mono hbw.size)
        refine (rd1_calls x p t pb tb W ((hW2.block pb (Array.getElem?_eq_some_iff.1 HBx.out).1).trans HBx.out) ((hW2.block tb (Array.getElem?_eq_some_iff.1 HBt.out).1).trans HBt.out)).mono ?_
        rintro e w' ⟨h1, h2⟩
        exact ⟨h1, hW2.trans (h2.mono hW2.size)⟩)
      clear hno hbw hxe
      by_cases hr : Rd p t x
      · rw [show decide (Rd p t x) = true by simp [hr]] at HW
        have HRt := Lib.hid hr
        clear hr
        go_wp2_with (first | (go_at_call 33; refine (HW.out _ (Below.refl _ _)).mono ?_; rintro e w5 ⟨rfl, b5⟩; have B5 := Lib.hid b5; clear b5) | (go_at_call 33; refine (HW.out _ ((Below.refl _ _).alloc (Nat.le_refl _) _)).mono ?_; rintro e w5 ⟨rfl, b5⟩; have B5 := Lib.hid b5; clear b5) | fail)
        go_ret
        exact ⟨k, rfl, .inr ⟨k, rfl, hlt, by rw [HXe.out]; exact HRt.out⟩, B5.out⟩
      · rw [show decide (Rd p t x) = false by simp [hr]] at HW
        have HRt := Lib.hid hr
        clear hr
        go_wp2_with (first | (go_at_call 33; refine (HW.out _ (Below.refl _ _)).mono ?_; rintro e w5 ⟨rfl, b5⟩; have B5 := Lib.hid b5; clear b5) | (go_at_call 33; refine (HW.out _ ((Below.refl _ _).alloc (Nat.le_refl _) _)).mono ?_; rintro e w5 ⟨rfl, b5⟩; have B5 := Lib.hid b5; clear b5) | fail)
        go_roundw
        case rel =>
          refine ⟨k + 1, hlt, by go_num, B5.out, fun j hj => ?_⟩
          rcases Nat.lt_or_ge j k with c | c
          · exact HNo.out j c
          · obtain rfl : j = k := by omega
            rw [HXe.out]; exact HRt.out
        case measure => simp [intOf]; omega
    · obtain rfl : k = l.length := by omega
      clear hno
      have HBW := Lib.hid hbw
      go_wp2_with fail
      go_ret
      exact ⟨-1, rfl, .inl ⟨rfl, HNo.out⟩, HBW.out⟩
set_option maxHeartbeats 1000000 in
theorem containsRd_calls {w : World} (lv : Value) (l : List Ev) (hv : LO w lv l) (p t : Int) (pb tb : Nat) (hpb : w.heap[pb]? = some (.cells #[.int .i64 p] 3 (0, 0))) (htb : w.heap[tb]? = some (.cells #[.int .i64 t] 3 (0, 0))) (hlen : l.length ≤ 1000) (hex : ∃ x ∈ l, Rd p t x) :
    Calls Tryz.prog 32 #[lv, .func (.func 33) #[] #[.pointer (some ⟨pb, 0, none⟩), .pointer (some ⟨tb, 0, none⟩)]] w fun e w' => e = .returned (.bool true) ∧ Below w.heap.size w w' := by
  have HI := Lib.hid (indexRd_calls lv l hv p t pb tb hpb htb hlen)
  clear hpb htb hv
  go_enter Tryz.func32, Tryz.ntmps32
  go_wp2_with fail
  refine HI.out.mono ?_
  rintro e w2 ⟨r, rfl, hr, hb⟩
  have HB := Lib.hid hb
  have hr0 : 0 ≤ r := by
    rcases hr with ⟨_, h⟩ | ⟨k, rfl, _, _⟩
    · exfalso
      obtain ⟨x, hx, hrd⟩ := hex
      obtain ⟨k, hk, rfl⟩ := List.getElem_of_mem hx
      have e := vn_get hk
      rw [List.getElem?_eq_getElem hk] at e
      exact h k hk (by rw [← Option.some.inj e]; exact hrd)
    · omega
  have hr1 : decide (0 ≤ r) = true := by simp [hr0]
  clear hb hr hex
  go_wp2_with fail
  go_ret
  exact ⟨by first | rfl | simp [hr0], HB.out⟩
set_option maxHeartbeats 1000000 in
theorem ready1_calls {w : World} (sv : Value) (l : List Ev) (hv : LO w sv l) (p t : Int) (sb tb : Nat) (hsb : w.heap[sb]? = some (.cells #[sv] 24 (0, 0))) (htb : w.heap[tb]? = some (.cells #[.int .i64 t] 3 (0, 0))) (hlen : l.length ≤ 1000) (hex : ∃ x ∈ l, Rd p t x) :
    Calls Tryz.prog 31 #[.int .i64 p, .pointer (some ⟨sb, 0, none⟩), .pointer (some ⟨tb, 0, none⟩)] w fun e w' => e = .returned (.bool false) ∧ Below w.heap.size w w' := by
  have hB : Below w.heap.size w (w.alloc (.cells #[.int .i64 p] 3)) := (Below.refl _ w).alloc (Nat.le_refl _) _
  have hs2 : (w.alloc (.cells #[.int .i64 p] 3)).cell? ⟨sb, 0, none⟩ = some sv := by
    have := (hB.block sb (Array.getElem?_eq_some_iff.1 hsb).1).trans hsb
    simp only [World.cell?, this]; rfl
  have HC := Lib.hid (containsRd_calls sv l (hv.below hB) p t w.heap.size tb (World.alloc_heap_new w _) ((hB.block tb (Array.getElem?_eq_some_iff.1 htb).1).trans htb) hlen hex)
  have HB := Lib.hid hB
  clear hB hsb htb hv hex
  go_enter Tryz.func31, Tryz.ntmps31
  go_wp2_with fail
  refine HC.out.mono ?_
  rintro e w2 ⟨rfl, hb⟩
  have HB2 := Lib.hid (HB.out.trans (hb.mono HB.out.size))
  clear hb
  go_wp2_with fail
  go_ret
  exact ⟨rfl, HB2.out⟩
theorem IV.at {w : World} {a : Option Addr} {n c : Nat} {R : List Int} (h : IV w (.slice a n c) R) {k : Nat} (hk : k < R.length) : ∃ g, a = some ⟨g, 0, none⟩ ∧ w.cell? ⟨g, k, none⟩ = some (.int .i64 (R.getD k 0)) := by
  rcases h with ⟨rfl, _⟩ | ⟨g, c', e, hr⟩
  · cases hk
  · simp at e
    exact ⟨g, e.1, hr.cell k hk⟩
set_option maxRecDepth 100000 in
set_option maxHeartbeats 2000000 in
theorem indexI_calls {w : World} (v : Value) (R : List Int) (h : IV w v R) (p : Int) (hlen : R.length ≤ 1000) (hp : p ∈ R) :
    Calls Tryz.prog 54 #[v, .int .i64 p] w fun e w' => ∃ r : Int, e = .returned (.int .i64 r) ∧ 0 ≤ r ∧ Below w.heap.size w w' := by
  obtain ⟨a, c, rfl⟩ := h.shape
  have HV := Lib.hid h
  have HP := Lib.hid hp
  clear h hp
  go_enter Tryz.func54, Tryz.ntmps54
  go_wp2_with fail
  go_loopw [8] (fun jv wr => ∃ k : Nat, k ≤ R.length ∧ jv = .int .i64 (k : Int) ∧ Below w.heap.size w wr ∧ ∀ j : Nat, j < k → R.getD j 0 ≠ p) (fun jv _ => R.length - (intOf jv).toNat)
  case atStart => exact ⟨0, Nat.zero_le _, by simp, Below.refl _ _, fun j hj => absurd hj (Nat.not_lt_zero j)⟩
  case round =>
    obtain ⟨k, hk, rfl, hbw, hno⟩ := hrel
    have HNo := Lib.hid hno
    have HB := Lib.hid hbw
    by_cases hlt : k < R.length
    · have e1 : (k : Int) < (R.length : Int) := by omega
      obtain ⟨g, rfl, u0⟩ := (HV.out.below hbw).at hlt
      obtain ⟨x, hx⟩ : ∃ x, R.getD k 0 = x := ⟨_, rfl⟩
      rw [hx] at u0
      have HX := Lib.hid hx
      clear hx hno hbw
      by_cases hr : p = x
      · subst hr
        go_wp2_with fail
        go_ret
        exact ⟨k, rfl, by omega, HB.out⟩
      · have hr1 : (p == x) = false := by rw [beq_eq_false_iff_ne]; exact hr
        go_wp2_with fail
        exact ⟨⟨k + 1, hlt, by go_num, HB.out, fun j hj => by
          rcases Nat.lt_or_ge j k with c2 | c2
          · exact HNo.out j c2
          · obtain rfl : j = k := by omega
            rw [HX.out]; exact fun e => hr e.symm⟩, by simp [intOf]; omega⟩
    · exfalso
      obtain rfl : k = R.length := by omega
      obtain ⟨j, hj, e⟩ := List.getElem_of_mem HP.out
      refine hno j hj ?_
      rw [List.getD_eq_getElem?_getD, List.getElem?_eq_getElem hj]
      exact e
set_option maxHeartbeats 1000000 in
theorem containsI_calls {w : World} (v : Value) (R : List Int) (h : IV w v R) (p : Int) (hlen : R.length ≤ 1000) (hp : p ∈ R) :
    Calls Tryz.prog 29 #[v, .int .i64 p] w fun e w' => e = .returned (.bool true) ∧ Below w.heap.size w w' := by
  have HI := Lib.hid (indexI_calls v R h p hlen hp)
  clear h hp
  go_enter Tryz.func29, Tryz.ntmps29
  go_wp2_with fail
  refine HI.out.mono ?_
  rintro e w2 ⟨r, rfl, hr0, hb⟩
  have HB := Lib.hid hb
  clear hb
  go_wp2_with fail
  go_ret
  exact ⟨by first | rfl | simp [hr0], HB.out⟩
set_option maxRecDepth 100000 in
set_option maxHeartbeats 2000000 in
theorem indexF_calls {w : World} (v : Value) (R : List Int) (h : IV w v R) (hlen : R.length ≤ 1000) (sv : Value) (l : List Ev) (hv : LO w sv l) (t : Int) (sb tb : Nat) (hsb : w.heap[sb]? = some (.cells #[sv] 24 (0, 0))) (htb : w.heap[tb]? = some (.cells #[.int .i64 t] 3 (0, 0))) (hl : l.length ≤ 1000) (hex : ∀ p ∈ R, ∃ x ∈ l, Rd p t x) :
    Calls Tryz.prog 55 #[v, .func (.func 31) #[] #[.pointer (some ⟨sb, 0, none⟩), .pointer (some ⟨tb, 0, none⟩)]] w fun e w' => e = .returned (.int .i64 (-1)) ∧ Below w.heap.size w w' := by
  obtain ⟨a, c, rfl⟩ := h.shape
  have HV := Lib.hid h
  have HC := Lib.hid (show ∀ (p : Int) W, p ∈ R → Below w.heap.size w W → Calls Tryz.prog 31 #[.int .i64 p, .pointer (some ⟨sb, 0, none⟩), .pointer (some ⟨tb, 0, none⟩)] W fun e w' => e = .returned (.bool false) ∧ Below w.heap.size w w' from fun p W hp hW =>
    (ready1_calls sv l (hv.below hW) p t sb tb ((hW.block sb (Array.getElem?_eq_some_iff.1 hsb).1).trans hsb) ((hW.block tb (Array.getElem?_eq_some_iff.1 htb).1).trans htb) hl (hex p hp)).mono fun e w' ⟨h1, h2⟩ => ⟨h1, hW.trans (h2.mono hW.size)⟩)
  clear h hv hsb htb hex
  go_enter Tryz.func55, Tryz.ntmps55
  go_wp2_with fail
  go_loopw [8] (fun jv wr => ∃ k : Nat, k ≤ R.length ∧ jv = .int .i64 (k : Int) ∧ Below w.heap.size w wr) (fun jv _ => R.length - (intOf jv).toNat)
  case atStart => exact ⟨0, Nat.zero_le _, by simp, Below.refl _ _⟩
  case round =>
    obtain ⟨k, hk, rfl, hbw⟩ := hrel
    have HB := Lib.hid hbw
    by_cases hlt : k < R.length
    · have e1 : (k : Int) < (R.length : Int) := by omega
      obtain ⟨g, rfl, u0⟩ := (HV.out.below hbw).at hlt
      have hmem : R.getD k 0 ∈ R := by rw [List.getD_eq_getElem?_getD, List.getElem?_eq_getElem hlt]; exact List.getElem_mem hlt
      have HCk := Lib.hid (HC.out _ wr hmem hbw)
      generalize R.getD k 0 = x at *
      clear hbw hmem
      go_wp2_with (first | (go_at_call 31; refine HCk.out.mono ?_; rintro e w5 ⟨rfl, b5⟩; have B5 := Lib.hid b5; clear b5) | fail)
      exact ⟨⟨k + 1, hlt, by go_num, B5.out⟩, by simp [intOf]; omega⟩
    · obtain rfl : k = R.length := by omega
      clear hbw
      go_wp2_with fail
      go_ret
      exact ⟨rfl, HB.out⟩
set_option maxHeartbeats 1000000 in
theorem containsF_calls {w : World} (v : Value) (R : List Int) (h : IV w v R) (hlen : R.length ≤ 1000) (sv : Value) (l : List Ev) (hv : LO w sv l) (t : Int) (sb tb : Nat) (hsb : w.heap[sb]? = some (.cells #[sv] 24 (0, 0))) (htb : w.heap[tb]? = some (.cells #[.int .i64 t] 3 (0, 0))) (hl : l.length ≤ 1000) (hex : ∀ p ∈ R, ∃ x ∈ l, Rd p t x) :
    Calls Tryz.prog 30 #[v, .func (.func 31) #[] #[.pointer (some ⟨sb, 0, none⟩), .pointer (some ⟨tb, 0, none⟩)]] w fun e w' => e = .returned (.bool false) ∧ Below w.heap.size w w' := by
  have HI := Lib.hid (indexF_calls v R h hlen sv l hv t sb tb hsb htb hl hex)
  clear h hv hsb htb hex
  go_enter Tryz.func30, Tryz.ntmps30
  go_wp2_with fail
  refine HI.out.mono ?_
  rintro e w2 ⟨rfl, hb⟩
  have HB := Lib.hid hb
  clear hb
  go_wp2_with fail
  go_ret
  exact ⟨rfl, HB.out⟩
end Go.Proofs.YtcjkeobjojmpfaaGreat
end

section
/-
  EvqReady RETURNS TRUE: the processes that are ready before a time are those for which there is an event before it, each once, in order; at a later time there are no fewer.
-/
namespace Go.Proofs.YtcjkeobjojmpfaaGreat
open Go.RowKit Go.Shelf

theorem evs_facts (l : List Sv) (m : Nat) : (evsS ((l.take m).map madeV)).length ≤ m ∧ DistV (evsS ((l.take m).map madeV)) ∧ ∀ x ∈ evsS ((l.take m).map madeV), RightV x := by
  refine ⟨?_, evsS_dist _, fun x hx => ?_⟩
  · have := evsS_len ((l.take m).map madeV)
    rw [List.length_map, List.length_take] at this
    omega
  · obtain ⟨y, _, rfl⟩ := List.mem_map.1 (evsS_sub _ x hx)
    exact madeV_right y
/-- What Ready tells at a time. -/
def RdyIs (L : List Ev) (t : Int) (R : List Int) : Prop := R.length ≤ 256 ∧ R.Pairwise (· < ·) ∧ ∀ p, p ∈ R ↔ ∃ x ∈ L, x.1.1 < t ∧ x.2.1 = p
theorem oqReady {w W : World} {q U : Nat} {L : List Ev} {R : List (Value × List Ev)} {K : List (Nat × Obj)} (h : Oq w W q U L R K) (t : Int) :
    Calls Tryz.prog 28 #[.pointer (some ⟨q, 0, none⟩), .int .i64 t] W fun e w' => ∃ v S, e = .returned v ∧ IV w' v S ∧ RdyIs L t S ∧ Below W.heap.size W w' := by
  obtain ⟨G, h1, -⟩ := h.ex
  refine (readyQ_calls h1 t).mono ?_
  rintro e w' ⟨v, S, a1, a2, a3, a4, a5, a6⟩
  exact ⟨v, S, a1, a2, ⟨a4, a5, a6⟩, a3⟩
set_option maxRecDepth 100000 in
set_option maxHeartbeats 4000000 in
theorem wEvqReady {w : World} (lv : Value) (l : List Sv) (hv : SvRow w lv l) (t m : Nat) (ht : t < 256) :
    Calls Tryz.prog 6 #[lv, .int .u8 (t : Int), .int .u8 (m : Int)] w fun e w' => e = .returned (.bool true) ∧ Below w.heap.size w w' := by
  have HV := Lib.hid hv
  have HA := Lib.hid (awake10_calls w)
  clear hv
  go_enter Tryz.func6, Tryz.ntmps6
  go_wp2_with (first
    | (go_at_call 8; refine HA.out.mono ?_; rintro e w1 ⟨rfl, b1⟩; have B1 := Lib.hid b1; clear b1)
    | fail)
  refine (events_calls lv l (HV.out.below B1.out) 60 (by omega)).mono ?_
  rintro e w2 ⟨v, rfl, ho, hb⟩
  obtain ⟨hlen, hdist, hright⟩ := evs_facts l 60
  generalize evsS ((l.take 60).map madeV) = L at ho hlen hdist hright
  obtain ⟨hlv, -⟩ := LV.of_owns ho
  have B2 := Lib.hid (B1.out.trans (hb.mono B1.out.size))
  have HF := Lib.hid (filled_calls v L hlv 60 (by omega) (by omega) (by omega) hdist hright)
  have hSl : (inOrd L).length ≤ 60 := by rw [inOrd_len]; exact hlen
  obtain ⟨la, lc, rfl, -, -⟩ := hlv.shape
  obtain ⟨T, hT⟩ : ∃ T : Nat, T = t % 21 := ⟨_, rfl⟩
  obtain ⟨D, hD⟩ : ∃ D : Nat, D = m % 21 := ⟨_, rfl⟩
  have hTi : (t : Int) % 21 = (T : Int) := by omega
  have hDi : (m : Int) % 21 = (D : Int) := by omega
  have hwD : IntKind.i64.wrap (D : Int) = (D : Int) := by rw [IntKind.wrap_i64]; omega
  have hTw : IntKind.i64.wrap ((T : Int) + (D : Int)) = ((T + D : Nat) : Int) := by rw [IntKind.wrap_i64]; omega
  clear ho hb B1 hdist hright HA hlv hT hD
  have HF' := Lib.hid (show Calls Tryz.prog 10 #[.int .i64 60, .slice la L.length lc] w2 fun e w' => ∃ q a c, e = .returned (.tuple #[.pointer (some ⟨q, 0, none⟩), .slice a (inOrd L).length c]) ∧ Oq w w' q L.length (inOrd L) [(.slice a (inOrd L).length c, inOrd L)] [] from HF.out.mono (by
    rintro e w' ⟨q, v, rfl, h⟩
    have ho := h.one B2.out
    obtain ⟨a, c, rfl, -, -⟩ := (ho.row (List.mem_singleton.2 rfl)).shape
    exact ⟨q, a, c, rfl, ho⟩))
  clear HF
  generalize inOrd L = S at *
  go_wp2_with (first | (go_at_call 10; refine HF'.out.mono ?_; rintro e w3 ⟨q, a3, c3, rfl, h3⟩; have H3 := Lib.hid h3; clear h3) | fail)
  have O3 := (H3.out.box (.cells #[.slice a3 S.length c3] 24)).box (.cells #[.int .i64 (T : Int)] 3)
  have hsz : (w3.alloc (.cells #[.slice a3 S.length c3] 24)).heap.size = w3.heap.size + 1 := by simp
  rw [hsz] at O3
  generalize (w3.alloc (.cells #[.slice a3 S.length c3] 24)).alloc (.cells #[.int .i64 (T : Int)] 3) = W3 at *
  generalize w3.heap.size = sb at *
  have O4 := O3.below ((Below.refl W3.heap.size W3).drew)
  have cell : ∀ W : World, W.heap[sb + 1]? = some (.cells #[.int .i64 (T : Int)] 3 (0, 0)) → W.cell? ⟨sb + 1, 0, none⟩ = some (.int .i64 (T : Int)) := by
    intro W h
    simp only [World.cell?, h]; rfl
  have HS := Lib.hid (show W3.drew.cell? ⟨sb + 1, 0, none⟩ = some (.int .i64 (T : Int)) ∧ Oq w W3.drew q L.length S [(.slice a3 S.length c3, S)] [(sb + 1, .cells #[.int .i64 (T : Int)] 3), (sb, .cells #[.slice a3 S.length c3] 24)] from ⟨cell _ (O4.kept (b := sb + 1) (List.mem_cons_self ..)), O4⟩)
  have HRd := fun (t' : Int) (W : World) (h : W.cell? ⟨sb + 1, 0, none⟩ = some (.int .i64 (T : Int)) ∧ Oq w W q L.length S [(.slice a3 S.length c3, S)] [(sb + 1, .cells #[.int .i64 (T : Int)] 3), (sb, .cells #[.slice a3 S.length c3] 24)]) => (oqReady h.2 t').mono (R' := fun e w' => ∃ v R, e = .returned v ∧ IV w' v R ∧ RdyIs S t' R ∧ (w'.cell? ⟨sb + 1, 0, none⟩ = some (.int .i64 (T : Int)) ∧ Oq w w' q L.length S [(.slice a3 S.length c3, S)] [(sb + 1, .cells #[.int .i64 (T : Int)] 3), (sb, .cells #[.slice a3 S.length c3] 24)]) ∧ Below W.heap.size W w') (by
    rintro e w' ⟨v, R, h1, h2, h3, h4⟩
    exact ⟨v, R, h1, h2, h3, ⟨cell _ ((h.2.below h4).kept (List.mem_cons_self ..)), h.2.below h4⟩, h4⟩)
  have H1 := Lib.hid (HRd (T : Int))
  have H2 := Lib.hid (HRd ((T + D : Nat) : Int))
  have HCe := Lib.hid cell
  have HTD : ((T + D : Nat) : Int) = (T : Int) + (D : Int) := by omega
  rw [HTD] at H2 hTw
  have h21 : (m : Int).tmod 21 = (D : Int) := by rw [Int.tmod_eq_emod_of_nonneg (Int.natCast_nonneg m)]; exact hDi
  have hq : IntKind.i64.wrap ((T : Int) + IntKind.i64.wrap ((m : Int).tmod 21)) = (T : Int) + (D : Int) := by
    rw [h21, hwD, hTw]
  clear O3 O4 H3 HRd cell HF' HV B2 hsz HTD h21 hwD
  go_region_held3 (fun W' => W'.cell? ⟨sb + 1, 0, none⟩ = some (.int .i64 (T : Int)) ∧ Oq w W' q L.length S [(.slice a3 S.length c3, S)] [(sb + 1, .cells #[.int .i64 (T : Int)] 3), (sb, .cells #[.slice a3 S.length c3] 24)]) (first | exact HS.out | assumption)
    (first
      | (go_at_call 28; with_reducible refine (H1.out _ (by first | exact HS.out | assumption)).mono ?_; rintro e w4 ⟨v4, R4, rfl, i4, d4, s4, b4⟩)
      | (go_at_call 28; (first | rw [hq] | skip); with_reducible refine (H2.out _ (by first | exact HS.out | assumption)).mono ?_; rintro e w5 ⟨v5, R5, rfl, i5, d5, s5, b5⟩))
  obtain ⟨a4, c4, rfl⟩ := i4.shape
  obtain ⟨a5, c5, rfl⟩ := i5.shape
  have I4 := Lib.hid (i4.below b5)
  have I5 := Lib.hid i5
  have hR4 : R4.length ≤ 256 := d4.1
  have hR5 : R5.length ≤ 256 := d5.1
  have HAsc := Lib.hid (show ∀ j : Nat, j + 1 < R4.length → R4.getD j 0 < R4.getD (j + 1) 0 from fun j hj => by
    have := List.pairwise_iff_getElem.1 d4.2.1 j (j + 1) (by omega) hj (by omega)
    rw [List.getD_eq_getElem?_getD, List.getD_eq_getElem?_getD, List.getElem?_eq_getElem (by omega), List.getElem?_eq_getElem hj]
    exact this)
  have hfac := s5.2.facts
  have HIn := Lib.hid (show ∀ p, p ∈ R4 → 1 ≤ p ∧ p ≤ 16 ∧ p ∈ R5 from fun p hp => by
    obtain ⟨x, hx, h1, rfl⟩ := (d4.2.2 p).1 hp
    obtain ⟨-, h2, h3⟩ := hfac.2.2.2 x hx
    exact ⟨h2, h3, (d5.2.2 _).2 ⟨x, hx, by omega, rfl⟩⟩)
  have HMem := Lib.hid (show ∀ x, x ∈ S → x.1.1 < (T : Int) → x.2.1 ∈ R4 from fun x hx h => (d4.2.2 _).2 ⟨x, hx, h, rfl⟩)
  have HEx := Lib.hid (show ∀ p ∈ R4, ∃ x ∈ S, Rd p (T : Int) x from fun p hp => by
    obtain ⟨x, hx, h1, h2⟩ := (d4.2.2 p).1 hp
    exact ⟨x, hx, h2, h1⟩)
  have O5 := Lib.hid s5.2
  have C5 := Lib.hid s5.1
  have hS60 : S.length ≤ 60 := hfac.2.2.1
  clear i4 i5 d4 d5 s4 s5 b4 b5 hq H1 H2 HS hfac
  go_wp2_with fail
  go_loopw [41] (fun jv wr => ∃ k : Nat, k ≤ R4.length ∧ jv = .int .i64 (k : Int) ∧ Below w5.heap.size w5 wr) (fun jv _ => R4.length - (intOf jv).toNat)
  case atStart => exact ⟨0, Nat.zero_le _, by simp, Below.refl _ _⟩
  case round =>
    obtain ⟨k, hk, rfl, hbw⟩ := hrel
    by_cases hlt : k < R4.length
    · have e1 : (k : Int) < (R4.length : Int) := by omega
      obtain ⟨g, rfl, u0⟩ := (I4.out.below hbw).at hlt
      have hmem : R4.getD k 0 ∈ R4 := by rw [List.getD_eq_getElem?_getD, List.getElem?_eq_getElem hlt]; exact List.getElem_mem hlt
      obtain ⟨h1, h2, h3⟩ := HIn.out _ hmem
      have HBW := Lib.hid hbw
      obtain ⟨p, hp⟩ : ∃ p, R4.getD k 0 = p := ⟨_, rfl⟩
      rw [hp] at u0 h1 h2 h3
      have HC := Lib.hid ((containsI_calls (.slice a5 R5.length c5) R5 (I5.out.below hbw) p (by omega) h3).mono (R' := fun e w' => e = .returned (.bool true) ∧ Below w5.heap.size w5 w') (by
        rintro e w' ⟨a1, a2⟩
        exact ⟨a1, hbw.trans (a2.mono hbw.size)⟩))
      have h1' : ¬ (p < 1) := by omega
      have h2' : ¬ (16 < p) := by omega
      by_cases hk0 : k = 0
      · subst hk0
        clear hmem h1 h2 h3 hp hbw
        go_wp2_with fail
        refine HC.out.mono ?_
        rintro e w6 ⟨rfl, b6⟩
        have B6 := Lib.hid b6
        clear b6
        go_wp2_with fail
        exact ⟨⟨1, by omega, by go_num, B6.out⟩, by simp [intOf]; omega⟩
      · obtain ⟨j, rfl⟩ : ∃ j, k = j + 1 := ⟨k - 1, by omega⟩
        have hasc := HAsc.out j hlt
        rw [hp] at hasc
        obtain ⟨g', hg', u1⟩ := (I4.out.below hbw).at (k := j) (by omega)
        simp at hg'
        subst hg'
        have h4 : ¬ (p ≤ R4.getD j 0) := by omega
        have hjw : IntKind.i64.wrap (((j + 1 : Nat) : Int) - 1) = (j : Int) := by rw [IntKind.wrap_i64]; omega
        have hjw2 : IntKind.i64.wrap ((j : Int) + 1 - 1) = (j : Int) := by rw [IntKind.wrap_i64]; omega
        generalize R4.getD j 0 = pj at *
        clear hmem h1 h2 h3 hp hbw hasc
        go_wp2_with fail
        refine HC.out.mono ?_
        rintro e w6 ⟨rfl, b6⟩
        have B6 := Lib.hid b6
        clear b6
        go_wp2_with fail
        exact ⟨⟨j + 2, by omega, by go_num, B6.out⟩, by simp [intOf]; omega⟩
    · obtain rfl : k = R4.length := by omega
      obtain ⟨w6, hw6⟩ : ∃ w6, w6 = wr := ⟨_, rfl⟩
      subst hw6
      have O6 := Lib.hid (O5.out.below hbw)
      have hs6 : w6.cell? ⟨sb, 0, none⟩ = some (.slice a3 S.length c3) := by
        have h := O6.out.kept (b := sb) (o := .cells #[.slice a3 S.length c3] 24) (by simp)
        simp only [World.cell?, h]; rfl
      have I6 := Lib.hid (I4.out.below hbw)
      clear hbw I4 I5 O5 C5 HAsc HIn
      go_wp2_with fail
      go_loopw [74] (fun jv w7 => ∃ k : Nat, k ≤ S.length ∧ jv = .int .i64 (k : Int) ∧ Below w6.heap.size w6 w7) (fun jv _ => S.length - (intOf jv).toNat)
      case atStart => exact ⟨0, Nat.zero_le _, by simp, Below.refl _ _⟩
      case round =>
        obtain ⟨k, hk, rfl, hbw⟩ := hrel
        have hO7 := O6.out.below hbw
        have hI7 := I6.out.below hbw
        have HBW := Lib.hid hbw
        clear hbw
        by_cases hlt : k < S.length
        · have e1 : (k : Int) < (S.length : Int) := by omega
          obtain ⟨g, o, rfl, hgl, u0, u1, u2, u3, u4⟩ := (hO7.row (List.mem_singleton.2 rfl)).at hlt
          have hmem : vn S k ∈ S := vn_mem hlt
          generalize vn S k = x at *
          have hO8 := hO7.box (.cells #[.int .i64 x.1.1, .int .i64 x.1.2.1, .int .i64 x.1.2.2, .int .i64 x.2.1, .int .i64 x.2.2] 33)
          have ct := HCe.out _ (hO8.kept (b := sb + 1) (by simp))
          have hA := (Below.refl wr.heap.size wr).alloc (Nat.le_refl _) (.cells #[.int .i64 x.1.1, .int .i64 x.1.2.1, .int .i64 x.1.2.2, .int .i64 x.2.1, .int .i64 x.2.2] 33)
          have hA2 := HBW.out.trans (hA.mono HBW.out.size)
          by_cases hxt : x.1.1 < (T : Int)
          · have HC := Lib.hid ((containsI_calls (.slice a4 R4.length c4) R4 (hI7.below hA) x.2.1 (by omega) (HMem.out x hmem hxt)).mono (R' := fun e w' => e = .returned (.bool true) ∧ Below w6.heap.size w6 w') (by
              rintro e w' ⟨a1, a2⟩
              exact ⟨a1, hA2.trans (a2.mono hA2.size)⟩))
            clear hO7 hI7 hO8 hA hA2 hmem
            go_wp2_with fail
            refine HC.out.mono ?_
            rintro e w8 ⟨rfl, b8⟩
            have B8 := Lib.hid b8
            clear b8
            go_wp2_with fail
            exact ⟨⟨k + 1, hlt, by go_num, B8.out⟩, by simp [intOf]; omega⟩
          · have HA2 := Lib.hid hA2
            clear hO7 hI7 hO8 hA hA2 hmem
            go_wp2_with fail
            exact ⟨⟨k + 1, hlt, by go_num, HA2.out⟩, by simp [intOf]; omega⟩
        · obtain rfl : k = S.length := by omega
          have HF := Lib.hid (containsF_calls (.slice a4 R4.length c4) R4 hI7 (by omega) (.slice a3 S.length c3) S (hO7.row (List.mem_singleton.2 rfl)) (T : Int) sb (sb + 1) (hO7.kept (by simp)) (hO7.kept (by simp)) (by omega) HEx.out)
          have HB7 := Lib.hid hO7.bel
          clear hO7 hI7
          go_wp2_with fail
          refine HF.out.mono ?_
          rintro e w9 ⟨rfl, b9⟩
          have B9 := Lib.hid (HB7.out.trans (b9.mono HB7.out.size))
          clear b9
          go_wp2_with fail
          go_ret
          exact ⟨rfl, B9.out⟩
end Go.Proofs.YtcjkeobjojmpfaaGreat
end
