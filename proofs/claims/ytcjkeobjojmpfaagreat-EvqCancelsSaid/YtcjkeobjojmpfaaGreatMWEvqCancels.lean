import Derived.Test.YtcjkeobjojmpfaaGreatMEvqIns
import Derived.Test.YtcjkeobjojmpfaaGreatMEvqI
import Derived.Test.YtcjkeobjojmpfaaGreatMEvqOne
import Derived.Test.YtcjkeobjojmpfaaGreatMEvqAw
import Derived.Test.YtcjkeobjojmpfaaGreatMFrame
section
/-
  CONTRACT of slices.Delete at events, where one is taken out.
-/
namespace Go.Proofs.YtcjkeobjojmpfaaGreat
open Go.RowKit Go.Shelf Go.Lib

theorem blkV_sets {g n : Nat} : ∀ (vs : List Value) (o : Nat) (w : World), (∃ cur, w.heap[g]? = some (.cells cur 33 (0, 0)) ∧ cur.size = n * 5) → ∃ cur, (w.setCells g o vs).heap[g]? = some (.cells cur 33 (0, 0)) ∧ cur.size = n * 5
  | [], _, _, h => h
  | v :: r, o, _, h => blkV_sets r (o + 1) _ (blkV_set h o v)
theorem Off.setCells {F : Nat → Prop} {g : Nat} (hg : F g) : ∀ (vs : List Value) (o : Nat) (a w : World), Off F a w → Off F a (w.setCells g o vs)
  | [], _, _, _, h => h
  | v :: r, o, a, _, h => Off.setCells hg r (o + 1) a _ (h.set (.inl hg) o v)
/-- What append leaves of the row: the events behind the one that is gone lie one place further ahead. -/
theorem cellsV_drop_get (t : List Ev) (k : Nat) {j : Nat} {u : Value} (h : (cellsV (t.drop k))[j]? = some u) : (cellsV t)[k * 5 + j]? = some u := by
  rw [cellsV_dp, List.getElem?_drop] at h
  exact h
theorem VR.cellsOf {w : World} {g cap : Nat} {t : List Ev} (h : VR w g cap t) {j : Nat} {u : Value} (hj : (cellsV t)[j]? = some u) : w.cell? ⟨g, j, none⟩ = some u := by
  have hjl : j < (cellsV t).length := (List.getElem?_eq_some_iff.1 hj).1
  rw [cellsV_len] at hjl
  obtain ⟨i, r, rfl, hr5⟩ : ∃ i r, j = i * 5 + r ∧ r < 5 := ⟨j / 5, j % 5, by omega, by omega⟩
  have hi : i < t.length := by omega
  obtain ⟨a0, a1, a2, a3, a4⟩ := cellsV_get t i hi
  obtain ⟨b0, b1, b2, b3, b4⟩ := h.cell i hi
  rcases (by omega : r = 0 ∨ r = 1 ∨ r = 2 ∨ r = 3 ∨ r = 4) with rfl | rfl | rfl | rfl | rfl
  · rw [Nat.add_zero] at hj ⊢
    rw [a0] at hj; rw [b0]; exact hj
  · rw [a1] at hj; rw [b1]; exact hj
  · rw [a2] at hj; rw [b2]; exact hj
  · rw [a3] at hj; rw [b3]; exact hj
  · rw [a4] at hj; rw [b4]; exact hj
theorem VR.of_cells {w : World} {g cap : Nat} {t : List Ev} (hb : ∃ cur, w.heap[g]? = some (.cells cur 33 (0, 0)) ∧ cur.size = cap * 5) (hl : t.length ≤ cap) (h : ∀ j u, (cellsV t)[j]? = some u → w.cell? ⟨g, j, none⟩ = some u) : VR w g cap t := by
  refine ⟨hb, hl, fun i hi => ?_⟩
  obtain ⟨a0, a1, a2, a3, a4⟩ := cellsV_get t i hi
  exact ⟨h _ _ a0, h _ _ a1, h _ _ a2, h _ _ a3, h _ _ a4⟩
theorem VR.some {w : World} {g cap : Nat} {t : List Ev} (h : VR w g cap t) {j : Nat} (hj : j < cap * 5) : (w.cell? ⟨g, j, none⟩).isSome = true := by
  obtain ⟨cur, hc, hs⟩ := h.blk
  simp only [World.cell?, hc]
  simp [hs, hj]
theorem run_clear_one (w : World) (ty : TypeId) (g o c : Nat) (hc : ∀ j, j < 5 → (w.cell? ⟨g, o + j, none⟩).isSome = true) (hf : ∀ j, j < 5 → w.frozen? ⟨g, o + j, none⟩ = false) :
    (Builtin.clear_ #[24] ty #[.slice (some ⟨g, o, none⟩) 1 c]).run Tryz.prog w = .ok (.tuple #[]) (w.setCells g o [.int .i64 0, .int .i64 0, .int .i64 0, .int .i64 0, .int .i64 0]) := by
  have hv : ∀ w, (zeroValue 33).run Tryz.prog w = .ok (.agg #[.int .i64 0, .int .i64 0, .int .i64 0, .int .i64 0, .int .i64 0]) w := fun w => by kernel_rfl
  have hzc : (Builtin.zeroCells (Value.agg #[.int .i64 0, .int .i64 0, .int .i64 0, .int .i64 0, .int .i64 0]).cells 1).toList = [.int .i64 0, .int .i64 0, .int .i64 0, .int .i64 0, .int .i64 0] := by kernel_rfl
  have hst := run_storeCells_cells (P := Tryz.prog) g o [.int .i64 0, .int .i64 0, .int .i64 0, .int .i64 0, .int .i64 0] 0 w (by simpa using hc) (by simpa using hf) (by intro v hv'; simp at hv'; subst hv'; rfl)
  simp only [Nat.add_zero] at hst
  simp [Builtin.clear_, run_underlying Tryz.underlying24, hv, hzc, hst]
/-- What the row holds when one event is taken out of it. -/
theorem VR.delete {w W1 W2 : World} {g cap i : Nat} {t : List Ev} (h : VR w g cap t) (hi : i < t.length) (h1 : W1 = w.setCells g (i * 5) (cellsV (t.drop (i + 1)))) {z : List Value} (h2 : W2 = W1.setCells g ((t.length - 1) * 5) z) : VR W2 g cap (t.take i ++ t.drop (i + 1)) ∧ Off (fun k => k = g) w W2 := by
  have hle := h.le
  have hn : (cellsV (t.drop (i + 1))).length = (t.length - (i + 1)) * 5 := by rw [cellsV_len, List.length_drop]
  have hlen : (t.take i ++ t.drop (i + 1)).length = t.length - 1 := by rw [List.length_append, List.length_take, List.length_drop]; omega
  refine ⟨VR.of_cells ?_ (by omega) (fun j u hj => ?_), ?_⟩
  · rw [h2, h1]; exact blkV_sets _ _ _ (blkV_sets _ _ _ h.blk)
  · have hjl : j < (cellsV (t.take i ++ t.drop (i + 1))).length := (List.getElem?_eq_some_iff.1 hj).1
    rw [cellsV_len, hlen] at hjl
    rw [h2, World.cell?_setCells_out g z _ _ _ (fun _ _ => .inl hjl), h1]
    rw [cellsV_append] at hj
    have hti : (cellsV (t.take i)).length = i * 5 := by rw [cellsV_len, List.length_take]; omega
    rcases Nat.lt_or_ge j (i * 5) with c | c
    · rw [World.cell?_setCells_out g _ _ _ _ (fun _ _ => .inl c)]
      rw [List.getElem?_append_left (by omega), cellsV_tk, List.getElem?_take_of_lt c] at hj
      exact h.cellsOf hj
    · rw [List.getElem?_append_right (by omega), hti] at hj
      have hk : j - i * 5 < (cellsV (t.drop (i + 1))).length := (List.getElem?_eq_some_iff.1 hj).1
      have := World.cell?_setCells_in g (cellsV (t.drop (i + 1))) (i * 5) w (fun k hk2 => h.some (by omega)) (j - i * 5) hk
      rw [show i * 5 + (j - i * 5) = j by omega] at this
      rw [this, ← hj, List.getElem?_eq_getElem hk]
  · rw [h2, h1]
    exact Off.setCells (F := fun k => k = g) rfl _ _ _ _ (Off.setCells (F := fun k => k = g) rfl _ _ _ _ (Off.refl _ _))
set_option maxRecDepth 100000 in
set_option maxHeartbeats 4000000 in
theorem deleteV_calls {w : World} (g cap : Nat) (t : List Ev) (h : VR w g cap t) (i j : Nat) (hj : j = i + 1) (hi : i < t.length) (hn : t.length ≤ 1000) :
    Calls Tryz.prog 26 #[.slice (some ⟨g, 0, none⟩) t.length cap, .int .i64 (i : Int), .int .i64 (j : Int)] w fun e w' => e = .returned (.slice (some ⟨g, 0, none⟩) (t.length - 1) cap) ∧ VR w' g cap (t.take i ++ t.drop (i + 1)) ∧ Off (fun k => k = g) w w' := by
  have hle := h.le
  obtain ⟨n, hnn⟩ : ∃ n, t.length = n := ⟨_, rfl⟩
  rw [hnn] at hle hi hn ⊢
  have e1 : i ≤ j := by omega
  have e2 : j ≤ n := by omega
  have e3 : j ≤ cap := by omega
  have e4 : i ≤ cap := by omega
  have e5 : i ≠ j := by omega
  obtain ⟨i0, hi0, hz5⟩ : ∃ i0, Tryz.prog.info? 33 = some i0 ∧ i0.size = 5 := by
    have h0 := info_ev
    cases hq : Tryz.prog.info? 33 with
    | none => rw [hq] at h0; cases h0
    | some x => rw [hq] at h0; simp at h0; exact ⟨x, rfl, h0.2.1⟩
  obtain ⟨news, hnews⟩ : ∃ news, news = cellsV (t.drop j) := ⟨_, rfl⟩
  have hlen : news.length = (n - j) * 5 := by rw [hnews, cellsV_len, List.length_drop, hnn]
  have hd : VR w.drew g cap t := h.keep rfl
  obtain ⟨A, hA, hsrc⟩ : ∃ A : Addr, (if cap = j then some (⟨g, 0, none⟩ : Addr) else some ⟨g, j * 5, none⟩) = some A ∧ Hid (∀ k u, news[k]? = some u → w.drew.cell? (A.add k) = some u) := by
    by_cases c : cap = j
    · refine ⟨⟨g, 0, none⟩, by simp [c], fun k u hu => ?_⟩
      have h0 : news.length = 0 := by rw [hlen]; omega
      rw [List.length_eq_zero_iff.1 h0] at hu
      simp at hu
    · refine ⟨⟨g, j * 5, none⟩, by simp [c], fun k u hu => ?_⟩
      rw [hnews] at hu
      rw [Addr.add_lit]
      exact hd.cellsOf (cellsV_drop_get t j hu)
  have s1 : Hid (news.length = (n - j) * 5) := hlen
  have s2 : Hid (∀ u ∈ news, u.oneCell' = true) := by rw [hnews]; exact cellsV_one _
  have s3 : Hid (∀ k, k < news.length → (w.drew.cell? ⟨g, 0 + i * 5 + k, none⟩).isSome = true ∧ w.drew.frozen? ⟨g, 0 + i * 5 + k, none⟩ = false) := by
    intro k hk
    rw [hlen] at hk
    exact ⟨hd.some (by omega), hd.frozen _⟩
  obtain ⟨W1, hW1⟩ : ∃ W1, W1 = w.drew.setCells g (0 + i * 5) news := ⟨_, rfl⟩
  have hb1 : ∃ cur, W1.heap[g]? = some (.cells cur 33 (0, 0)) ∧ cur.size = cap * 5 := by rw [hW1]; exact blkV_sets _ _ _ hd.blk
  have hV1 : VR W1 g cap [] := VR.of_cells hb1 (Nat.zero_le _) (fun k u hu => by cases hu)
  have hcl : ∀ ty, (Builtin.clear_ #[24] ty #[.slice (some ⟨g, (i + (n - j)) * 5, none⟩) (n - (i + (n - j))) (cap - (i + (n - j)))]).run Tryz.prog W1 = .ok (.tuple #[]) (W1.setCells g ((i + (n - j)) * 5) [.int .i64 0, .int .i64 0, .int .i64 0, .int .i64 0, .int .i64 0]) := fun ty => by
    rw [show n - (i + (n - j)) = 1 by omega]
    exact run_clear_one W1 ty g _ _ (fun k hk => hV1.some (by omega)) (fun k _ => hV1.frozen _)
  have HEnd := Lib.hid (hd.delete (W1 := W1) (W2 := W1.setCells g ((i + (n - j)) * 5) [.int .i64 0, .int .i64 0, .int .i64 0, .int .i64 0, .int .i64 0]) (z := [.int .i64 0, .int .i64 0, .int .i64 0, .int .i64 0, .int .i64 0]) (i := i) (by omega) (by rw [hW1, hnews, hj, Nat.zero_add]) (by rw [hnn, show n - 1 = i + (n - j) by omega]))
  have hW : Hid (W1 = w.drew.setCells g (0 + i * 5) news) := hW1
  have hres : i + (n - j) = n - 1 := by omega
  have HRes := Lib.hid hres
  have e6 : i + (n - j) ≤ n := by omega
  have e7 : i + (n - j) ≤ cap := by omega
  clear hj hW1 hb1 hV1 hnews hlen hd h hres
  go_enter Tryz.func26, Tryz.ntmps26
  go_wp2_with fail
  go_region_law (refine step_append_room rfl (.tmp 22) (.tmp 25) 24 rfl 33 i0 5 Tryz.underlying24 hi0 hz5 g 0 i cap (by simp [Act.eval, Act.put]) A (n - j) (cap - j) news (by simp [Act.eval, Act.put]) s1.out hsrc.out s2.out (by omega) s3.out ?_; rw [← hW.out])
  all_goals
    go_wp2_with fail
    go_ret
    obtain ⟨h1, h2⟩ := HEnd.out
    exact ⟨by rw [← HRes.out]; rfl, h1, (Off.of_below ((Below.refl _ w).drew)).to h2⟩
end Go.Proofs.YtcjkeobjojmpfaaGreat
end

section
/-
  ONE QUEUE, the list of what is left, which is written into, and that of what is gone, which grows.
-/
namespace Go.Proofs.YtcjkeobjojmpfaaGreat
open Go.RowKit Go.Shelf

section
variable {w W W' : World} {q U : Nat} {L : List Ev} {R : List (Value × List Ev)} {K : List (Nat × Obj)}
theorem Oq.subK (h : Oq w W q U L R K) {K' : List (Nat × Obj)} (hs : ∀ y ∈ K', y ∈ K) : Oq w W q U L R K' := by
  obtain ⟨G, h1, h2, h3, h4⟩ := h.ex
  exact ⟨⟨G, h1, h2, h3, fun y hy => h4 y (hs y hy)⟩, h.bel⟩
/-- What the lists' blocks hold is kept, too, if one asks for it. -/
theorem Oq.hold (h : Oq w W q U L R K) : ∃ K', (∀ y ∈ K, y ∈ K') ∧ (∀ x ∈ R, ∀ b, x.1.ownBlock = some b → ∃ o, (b, o) ∈ K' ∧ W.heap[b]? = some o) ∧ Oq w W q U L R K' := by
  obtain ⟨G, h1, h2, h3, h4⟩ := h.ex
  refine ⟨K ++ R.filterMap (fun x => x.1.ownBlock.bind fun b => (W.heap[b]?).map fun o => (b, o)), fun y hy => List.mem_append_left _ hy, fun x hx b hb => ?_, ⟨G, h1, h2, h3, fun y hy => ?_⟩, h.bel⟩
  · have hlt := (h3 x hx).1.lt b hb
    refine ⟨W.heap[b], List.mem_append_right _ (List.mem_filterMap.2 ⟨x, hx, ?_⟩), Array.getElem?_eq_getElem hlt⟩
    rw [hb, Option.bind_some, Array.getElem?_eq_getElem hlt, Option.map_some]
  · rcases List.mem_append.1 hy with e | e
    · exact h4 y e
    · obtain ⟨x, hx, hxe⟩ := List.mem_filterMap.1 e
      obtain ⟨b, hb, hbe⟩ := Option.bind_eq_some_iff.1 hxe
      obtain ⟨o, ho, rfl⟩ := Option.map_eq_some_iff.1 hbe
      exact ⟨ho, (h3 x hx).2 b hb⟩
/-- Where blocks of the lists are written into, or new ones made. -/
theorem Oq.touch (h : Oq w W q U L R K) {F : Nat → Prop} (ho : Off F W W') (hF : ∀ k, F k → w.heap.size ≤ k ∧ ∃ x ∈ R, x.1.ownBlock = some k) {R' : List (Value × List Ev)} (hR : ∀ x ∈ R', LO W' x.1 x.2 ∧ ∀ k, x.1.ownBlock = some k → (∃ y ∈ R, y.1.ownBlock = some k) ∨ W.heap.size ≤ k) (hK : ∀ y ∈ K, ¬ F y.1) : Oq w W' q U L R' K := by
  obtain ⟨G, h1, h2, h3, h4⟩ := h.ex
  have hGF : ∀ k, G k → ¬ F k := fun k hk hf => by
    obtain ⟨-, x, hx, hxb⟩ := hF k hf
    exact (h3 x hx).2 k hxb hk
  refine ⟨⟨G, h1.off ho hGF, h2, fun x hx => ⟨(hR x hx).1, fun k hk hg => ?_⟩, fun y hy => ⟨(ho.block _ (Array.getElem?_eq_some_iff.1 (h4 y hy).1).1 (hK y hy)).trans (h4 y hy).1, (h4 y hy).2⟩⟩, h.bel.trans (ho.below (fun k hk => (hF k hk).1) h.bel.size)⟩
  rcases (hR x hx).2 k hk with ⟨y, hy, hyb⟩ | e
  · exact (h3 y hy).2 k hyb hg
  · have := h1.lt k hg; omega
end
structure Cn (w W : World) (q U : Nat) (Lq : List Ev) (a : Option Addr) (c : Nat) (Lf : List Ev) (vG : Value) (Gn : List Ev) (K : List (Nat × Obj)) : Prop where
  oq : Oq w W q U Lq [(vG, Gn), (.slice a Lf.length c, Lf)] K
  own : W.ownsRow w.heap.size 33 5 vG Gn.length (cellsV Gn)
  lv : LV W (.slice a Lf.length c) Lf
  lo : ∀ b, a.map (·.block) = some b → w.heap.size ≤ b
  ne : ∀ b, vG.ownBlock = some b → a.map (·.block) ≠ some b
  ks : ∀ y ∈ K, vG.ownBlock ≠ some y.1 ∧ a.map (·.block) ≠ some y.1
theorem own_map {a : Option Addr} {n c k : Nat} : (Value.slice a n c).ownBlock = some k ↔ a.map (·.block) = some k := by
  cases a with
  | none => simp [Value.ownBlock]
  | some x => simp [Value.ownBlock]
section
variable {w W W' : World} {q U : Nat} {Lq Lf Gn : List Ev} {a : Option Addr} {c : Nat} {vG : Value} {K : List (Nat × Obj)}
theorem Cn.call (h : Cn w W q U Lq a c Lf vG Gn K) {f : FuncId} {args : Array Value} {U' : Nat} {P : Ending → List Ev → Prop} (hc : ∀ K', Oq w W q U Lq [(vG, Gn), (.slice a Lf.length c, Lf)] K' → Calls Tryz.prog f args W fun e w' => ∃ L', P e L' ∧ Oq w w' q U' L' [(vG, Gn), (.slice a Lf.length c, Lf)] K') : Calls Tryz.prog f args W fun e w' => ∃ L', P e L' ∧ Cn w w' q U' L' a c Lf vG Gn K := by
  obtain ⟨K', k1, k2, k3⟩ := h.oq.hold
  refine (hc K' k3).mono ?_
  rintro e w' ⟨L', p1, p2⟩
  have hk : ∀ x ∈ [(vG, Gn), (Value.slice a Lf.length c, Lf)], ∀ b, x.1.ownBlock = some b → w'.heap[b]? = W.heap[b]? := fun x hx b hb => by
    obtain ⟨o, ho, hw⟩ := k2 x hx b hb
    rw [p2.kept ho, hw]
  exact ⟨L', p1, p2.subK k1, ownsRow_keep h.own (hk _ (List.mem_cons_self ..)), h.lv.keep (hk _ (List.mem_cons_of_mem _ (List.mem_cons_self ..))), h.lo, h.ne, h.ks⟩
theorem Cn.box (h : Cn w W q U Lq a c Lf vG Gn K) (o : Obj) : Cn w (W.alloc o) q U Lq a c Lf vG Gn ((W.heap.size, o) :: K) := by
  have hb : Below W.heap.size W (W.alloc o) := (Below.refl _ W).alloc (Nat.le_refl _) o
  refine ⟨h.oq.box o, h.own.alloc o, h.lv.below hb, h.lo, h.ne, fun y hy => ?_⟩
  rcases List.mem_cons.1 hy with e | e
  · subst e
    refine ⟨fun e => ?_, fun e => ?_⟩
    · have := (h.own.lt _ e).2; simp at this
    · have := h.lv.lt _ (own_map.2 e); simp at this
  · exact h.ks y e
theorem Cn.below (h : Cn w W q U Lq a c Lf vG Gn K) (hb : Below W.heap.size W W') : Cn w W' q U Lq a c Lf vG Gn K :=
  ⟨h.oq.below hb, ownsRow_keep h.own fun k hk => hb.block k (h.own.lt k hk).2, h.lv.below hb, h.lo, h.ne, h.ks⟩
theorem Cn.kept (h : Cn w W q U Lq a c Lf vG Gn K) {b : Nat} {o : Obj} (hx : (b, o) ∈ K) : W.heap[b]? = some o := h.oq.kept hx
theorem Cn.drop (h : Cn w W q U Lq a c Lf vG Gn K) : Cn w W q U Lq a c Lf vG Gn [] :=
  ⟨h.oq.subK (fun _ hy => absurd hy List.not_mem_nil), h.own, h.lv, h.lo, h.ne, fun _ hy => absurd hy List.not_mem_nil⟩
theorem Cn.delete {g : Nat} (h : Cn w W q U Lq (some ⟨g, 0, none⟩) c Lf vG Gn K) {L' : List Ev} (hv : VR W' g c L') (ho : Off (fun k => k = g) W W') : Cn w W' q U Lq (some ⟨g, 0, none⟩) c L' vG Gn K := by
  have hg : w.heap.size ≤ g := h.lo g rfl
  have hm : c ≤ maxLen := by
    rcases h.lv with ⟨e, _⟩ | ⟨g', c', e, _, hm⟩
    · cases e
    · simp at e; rw [e.2]; exact hm
  have hlv : LV W' (.slice (some ⟨g, 0, none⟩) L'.length c) L' := .inr ⟨g, c, rfl, hv, hm⟩
  have hGn : W'.ownsRow w.heap.size 33 5 vG Gn.length (cellsV Gn) := ownsRow_keep h.own fun k hk => ho.block k (h.own.lt k hk).2 (fun e => h.ne k hk (by rw [e]; rfl))
  refine ⟨h.oq.touch ho (fun k hk => ?_) (fun x hx => ?_) (fun y hy e => (h.ks y hy).2 (by rw [e]; rfl)), hGn, hlv, h.lo, h.ne, h.ks⟩
  · subst hk
    exact ⟨hg, _, List.mem_cons_of_mem _ (List.mem_cons_self ..), rfl⟩
  · rcases List.mem_cons.1 hx with e | e
    · subst e
      exact ⟨(LV.of_owns hGn).1.lo, fun k hk => .inl ⟨_, List.mem_cons_self .., hk⟩⟩
    · rw [List.mem_singleton.1 e]
      exact ⟨hlv.lo, fun k hk => .inl ⟨_, List.mem_cons_of_mem _ (List.mem_cons_self ..), own_cap hk⟩⟩
theorem Cn.append (h : Cn w W q U Lq a c Lf vG Gn K) {v' : Value} {x : Ev} (hr : W'.ownsRow w.heap.size 33 5 v' (Gn.length + 1) (cellsV Gn ++ encV x)) (hg : W.grownBy W' vG.ownBlock) (hat : v'.ownBlock = vG.ownBlock ∨ v'.ownBlock = some W.heap.size) : Cn w W' q U Lq a c Lf v' (Gn ++ [x]) K := by
  have ho : Off (fun k => vG.ownBlock = some k) W W' := Off.of_grown hg (fun k hk => hk)
  have hr' : W'.ownsRow w.heap.size 33 5 v' (Gn ++ [x]).length (cellsV (Gn ++ [x])) := by
    rw [List.length_append, cellsV_append, show cellsV [x] = encV x from List.append_nil _]; exact hr
  have hlv : LV W' (.slice a Lf.length c) Lf := h.lv.keep fun k hk => ho.block k (h.lv.lt k hk) (fun e => h.ne k e (own_map.1 hk))
  have hb : ∀ k, v'.ownBlock = some k → vG.ownBlock = some k ∨ k = W.heap.size := fun k hk => by
    rcases hat with e | e
    · exact .inl (e ▸ hk)
    · rw [e] at hk; exact .inr (Option.some.inj hk).symm
  refine ⟨h.oq.touch ho (fun k hk => ⟨(h.own.lt k hk).1, _, List.mem_cons_self .., hk⟩) (fun y hy => ?_) (fun y hy e => (h.ks y hy).1 e), hr', hlv, h.lo, fun k hk e => ?_, fun y hy => ⟨fun e => ?_, (h.ks y hy).2⟩⟩
  · rcases List.mem_cons.1 hy with e | e
    · subst e
      refine ⟨(LV.of_owns hr').1.lo, fun k hk => ?_⟩
      rcases hb k hk with e | e
      · exact .inl ⟨_, List.mem_cons_self .., e⟩
      · exact .inr (by omega)
    · rw [List.mem_singleton.1 e]
      exact ⟨hlv.lo, fun k hk => .inl ⟨_, List.mem_cons_of_mem _ (List.mem_cons_self ..), hk⟩⟩
  · rcases hb k hk with c2 | c2
    · exact h.ne k c2 e
    · have := h.lv.lt k (own_map.2 e); omega
  · rcases hb _ e with c2 | c2
    · exact (h.ks y hy).1 c2
    · have := (Array.getElem?_eq_some_iff.1 (h.kept hy)).1; omega
end
end Go.Proofs.YtcjkeobjojmpfaaGreat
end

section
/-
  EvqCancels RETURNS TRUE: what is cancelled is the event with that name, and it alone: all others stay, and are taken in order; it may be put again; a name that is not there changes nothing.
-/
namespace Go.Proofs.YtcjkeobjojmpfaaGreat
open Go.RowKit Go.Shelf

theorem brow_at {w : World} {a : Option Addr} {n c : Nat} {l : List Nat} (h : BRow w (.slice a n c) l) {k : Nat} (hk : k < l.length) : ∃ g o, a = some ⟨g, o, none⟩ ∧ g < w.heap.size ∧ w.cell? ⟨g, o + k, none⟩ = some (.int .u8 (gt l k : Int)) := by
  rcases h.2 with ⟨a', c', e, rfl, _⟩ | ⟨b, off, cap, e, _, _, hc⟩
  · cases hk
  · simp at e
    exact ⟨b, off, e.1, World.block_lt_of_cell? _ _ (hc k hk), hc k hk⟩
theorem brow_len {w : World} {a : Option Addr} {n c : Nat} {l : List Nat} (h : BRow w (.slice a n c) l) : n = l.length ∧ n ≤ c := by
  rcases h.2 with ⟨a', c', e, rfl, _⟩ | ⟨b, off, cap, e, h1, _, hc⟩
  · simp at e
    exact ⟨e.2.1, by omega⟩
  · simp at e
    omega
theorem evs_facts (l : List Sv) (m : Nat) : (evsS ((l.take m).map madeV)).length ≤ m ∧ DistV (evsS ((l.take m).map madeV)) ∧ ∀ x ∈ evsS ((l.take m).map madeV), RightV x := by
  refine ⟨?_, evsS_dist _, fun x hx => ?_⟩
  · have := evsS_len ((l.take m).map madeV)
    rw [List.length_map, List.length_take] at this
    omega
  · obtain ⟨y, _, rfl⟩ := List.mem_map.1 (evsS_sub _ x hx)
    exact madeV_right y
theorem Cn.start {w0 w W : World} {q U : Nat} {L l : List Ev} {a : Option Addr} {c : Nat} (h : Fild w W q 60 U L (.slice a l.length c) l) (hw : Below w0.heap.size w0 w) : Cn w0 W q U L a c l (.slice none 0 0) [] [] := by
  have ho := h.one hw
  obtain ⟨G, h1, h2, h3, h4, h5⟩ := h.ex
  obtain ⟨hv, hf⟩ := LV.of_owns h3
  have hs := hw.size
  refine ⟨ho.part (List.mem_singleton.2 rfl) (.inl ⟨rfl, rfl⟩) (fun k hk => by cases hk), World.ownsRow_nil _ _ _ _, hv, fun b hb => ?_, fun b hb => (by cases hb), fun y hy => absurd hy List.not_mem_nil⟩
  have := hf b (own_map.2 hb)
  omega
theorem put_next {S Gn Lf Lq : List Ev} {j : Nat} (hP : (Gn ++ Lf).Perm S) (hd : DistV S) (hr : ∀ x ∈ S, RightV x) (hn : Gn.length + Lf.length ≤ 60) (hj : j < Gn.length) (hQ : Lq.Perm (Gn.take j ++ Lf)) : ∀ (r : Int) (L' : List Ev), Put1 60 Lq (vn Gn j) r L' → r = 0 ∧ L'.Perm (Gn.take (j + 1) ++ Lf) := by
  have hdG : DistV (Gn ++ Lf) := (hP.pairwise_iff (fun {_ _} e c => e c.symm)).2 hd
  have hmem : vn Gn j ∈ Gn := vn_mem hj
  have hsplit : Gn.take (j + 1) = Gn.take j ++ [vn Gn j] := by
    have e := vn_get hj
    rw [List.take_add_one, e]; rfl
  have hnew : ∀ y ∈ Lq, nmV y ≠ nmV (vn Gn j) := by
    intro y hy
    obtain ⟨g1, g2, g3⟩ := List.pairwise_append.1 hdG
    rcases List.mem_append.1 (hQ.mem_iff.1 hy) with c | c
    · obtain ⟨i, hi, rfl⟩ := List.mem_take_iff_getElem.1 c
      have h := List.pairwise_iff_getElem.1 g1 i j (by omega) hj (by omega)
      have e := vn_get hj
      rw [List.getElem?_eq_getElem hj] at e
      rw [← Option.some.inj e]
      exact h
    · exact fun e => g3 _ hmem _ c e.symm
  intro r L' hp
  have hl : Lq.length < 60 := by rw [hQ.length_eq, List.length_append, List.length_take]; omega
  obtain ⟨rfl, rfl⟩ := put1_ok hp (hr _ (hP.mem_iff.1 (List.mem_append_left _ hmem))) hnew hl
  refine ⟨rfl, ((insV_perm _ _).trans (hQ.cons _)).trans ?_⟩
  rw [hsplit, List.append_assoc]
  exact (List.perm_middle (l₁ := Gn.take j) (l₂ := Lf)).symm
theorem oqAllB {w W : World} {q U : Nat} {L : List Ev} {R : List (Value × List Ev)} {K : List (Nat × Obj)} (h : Oq w W q U L R K) :
    Calls Tryz.prog 14 #[.pointer (some ⟨q, 0, none⟩)] W fun e w' => ∃ v, e = .returned v ∧ w'.ownsRow W.heap.size 33 5 v L.length (cellsV L) ∧ Below W.heap.size W w' := by
  obtain ⟨G, h1, -⟩ := h.ex
  exact allQ_calls h1
theorem filter_at {L : List Ev} {i : Nat} (hd : DistV L) (hi : i < L.length) : (L.filter fun y => decide (nmV y ≠ nmV (vn L i))) = L.take i ++ L.drop (i + 1) := by
  have hs : L = L.take i ++ vn L i :: L.drop (i + 1) := by
    have e := vn_get hi
    conv => lhs; rw [← List.take_append_drop i L, List.drop_eq_getElem_cons hi]
    rw [List.getElem?_eq_getElem hi] at e
    rw [Option.some.inj e]
  generalize vn L i = x at hs
  generalize L.take i = A at *
  generalize L.drop (i + 1) = B at *
  subst hs
  obtain ⟨h1, h2, h3⟩ := List.pairwise_append.1 hd
  rw [List.filter_append, List.filter_cons_of_neg (by simp), List.filter_eq_self.2, List.filter_eq_self.2]
  · intro y hy
    rw [decide_eq_true_eq]
    exact fun e => (List.pairwise_cons.1 h2).1 y hy e.symm
  · intro y hy
    rw [decide_eq_true_eq]
    exact h3 y hy x (List.mem_cons_self ..)
theorem perm_next {S Gn Lf : List Ev} {i : Nat} (hP : (Gn ++ Lf).Perm S) (hi : i < Lf.length) : ((Gn ++ [vn Lf i]) ++ (Lf.take i ++ Lf.drop (i + 1))).Perm S := by
  have hs : Lf = Lf.take i ++ vn Lf i :: Lf.drop (i + 1) := by
    have e := vn_get hi
    conv => lhs; rw [← List.take_append_drop i Lf, List.drop_eq_getElem_cons hi]
    rw [List.getElem?_eq_getElem hi] at e
    rw [Option.some.inj e]
  refine List.Perm.trans ?_ hP
  conv => rhs; rw [hs]
  rw [List.append_assoc]
  exact List.Perm.append_left _ (List.perm_middle (l₁ := Lf.take i)).symm
set_option maxRecDepth 100000 in
set_option maxHeartbeats 4000000 in
theorem wEvqCancels {w : World} (lv : Value) (l : List Sv) (hv : SvRow w lv l) (wa : Option Addr) (wn wc : Nat) (z : List Nat) (hz : BRow w (.slice wa wn wc) z) :
    Calls Tryz.prog 5 #[lv, .slice wa wn wc] w fun e w' => e = .returned (.bool true) ∧ Below w.heap.size w w' := by
  have HV := Lib.hid hv
  have HA := Lib.hid (awake10_calls w)
  have HZ := Lib.hid hz
  obtain ⟨hzn, hwc⟩ := brow_len hz
  obtain ⟨m, hm⟩ : ∃ k : Nat, k = min wn 40 := ⟨_, rfl⟩
  have hmin : min (wn : Int) 40 = (m : Int) := by omega
  have hm40 : m ≤ 40 := by omega
  have hmz : m ≤ z.length := by omega
  have hmc : m ≤ wc := by omega
  clear hm hzn hwc
  clear hv hz
  go_enter Tryz.func5, Tryz.ntmps5
  go_wp2_with (first
    | (go_at_call 8; refine HA.out.mono ?_; rintro e w1 ⟨rfl, b1⟩; have B1 := Lib.hid b1; clear b1)
    | fail)
  refine (events_calls lv l (HV.out.below B1.out) 60 (by omega)).mono ?_
  rintro e w2 ⟨v, rfl, ho, hb⟩
  obtain ⟨hlen, hdist, hright⟩ := evs_facts l 60
  generalize evsS ((l.take 60).map madeV) = L at ho hlen hdist hright
  obtain ⟨hlv, -⟩ := LV.of_owns ho
  have B2 := Lib.hid (B1.out.trans (hb.mono B1.out.size))
  have HF := Lib.hid (filled_calls v L hlv 60 (by omega) (by omega) (by omega) hdist hright)
  have hSl : (inOrd L).length ≤ 60 := by rw [inOrd_len]; exact hlen
  obtain ⟨la, lc, rfl, -, -⟩ := hlv.shape
  clear ho hb B1 hdist hright HA hlv
  go_wp2_with (first | (go_at_call 10; refine HF.out.mono ?_; rintro e w3 ⟨q, v3, rfl, h3⟩; have H3 := Lib.hid h3; clear h3) | fail)
  have hdS : DistV (inOrd L) := (H3.out.one B2.out).facts.2.1
  have hrS : ∀ x ∈ inOrd L, RightV x := (H3.out.one B2.out).facts.2.2.2
  have HDi := Lib.hid hdS
  have HRi := Lib.hid hrS
  obtain ⟨a3, c3, hv3, -, -⟩ := ((H3.out.one B2.out).row (List.mem_singleton.2 rfl)).shape
  subst hv3
  have HC3 := Lib.hid (Cn.start H3.out B2.out)
  generalize inOrd L = S at *
  generalize L.length = U at *
  clear H3 HF B2 HV hdS hrS
  go_loopw [6, 7, 36] (fun s6 s7 jv wr => ∃ k : Nat, k ≤ m ∧ jv = .int .i64 (k : Int) ∧ ∃ Lf Gn, s6 = .slice a3 Lf.length c3 ∧ Cn w wr q U Lf a3 c3 Lf s7 Gn [] ∧ (Gn ++ Lf).Perm S) (fun _ _ jv _ => m - (intOf jv).toNat)
  case atStart => exact ⟨0, Nat.zero_le _, by simp, S, [], rfl, HC3.out, List.Perm.refl _⟩
  case round =>
    obtain ⟨k, hk, rfl, Lf, Gn, rfl, hC, hP⟩ := hrel
    by_cases hlt : k < m
    · obtain ⟨zg, zo, rfl, hzg, hzc⟩ := brow_at HZ.out (k := k) (by omega)
      have hzr := (hC.oq.bel.cell (p := ⟨zg, zo + k, none⟩) hzg).trans hzc
      have hy : gt z k < 256 := gt_lt HZ.out.1 k
      generalize gt z k = y at *
      have e1 : (k : Int) < (m : Int) := by omega
      clear HC3 hzc
      by_cases hne : Lf.length = 0
      · obtain rfl := List.eq_nil_of_length_eq_zero hne
        clear hne
        have HC := Lib.hid hC
        have HP := Lib.hid hP
        obtain ⟨ga, gc, rfl, -, -⟩ := (LV.of_owns hC.own).1.shape
        clear hC hP
        go_wp2_with fail
        go_loopw [120] (fun jv wr => ∃ j : Nat, j ≤ Gn.length ∧ jv = .int .i64 (j : Int) ∧ ∃ Lq, Cn w wr q (U + j) Lq a3 c3 [] (.slice ga Gn.length gc) Gn [] ∧ Lq.Perm (Gn.take j ++ [])) (fun jv _ => Gn.length - (intOf jv).toNat)
        case atStart => exact ⟨0, Nat.zero_le _, by simp, [], HC.out, List.Perm.refl _⟩
        case round =>
          obtain ⟨j, hj, rfl, Lq, hD, hQ⟩ := hrel
          have hGS : Gn.length + ([] : List Ev).length ≤ 60 := by have := HP.out.length_eq; rw [List.length_append] at this; omega
          by_cases hl2 : j < Gn.length
          · have e2 : (j : Int) < (Gn.length : Int) := by omega
            obtain ⟨g2, o2, rfl, -, u0, u1, u2, u3, u4⟩ := (hD.oq.row (List.mem_cons_self ..)).at hl2
            have HX := Lib.hid (put_next HP.out HDi.out HRi.out hGS hl2 hQ)
            obtain ⟨x, hx⟩ : ∃ x, vn Gn j = x := ⟨_, rfl⟩
            rw [hx] at HX u0 u1 u2 u3 u4
            have hb := hD.below ((Below.refl _ _).alloc (Nat.le_refl _) (.cells #[.int .i64 x.1.1, .int .i64 x.1.2.1, .int .i64 x.1.2.2, .int .i64 x.2.1, .int .i64 x.2.2] 33))
            have HPt := Lib.hid (hb.call (P := fun e L' => ∃ r, e = .returned (.int .i64 r) ∧ Put1 60 Lq x r L') (fun K' h' => (oqPut h' (by omega) x).mono (by
              rintro e w' ⟨L', r, h1, h2, h3⟩
              exact ⟨L', ⟨r, h1, h2⟩, h3⟩)))
            clear hD hx hb HC
            go_wp2_with fail
            refine HPt.out.mono ?_
            rintro e w30 ⟨L', ⟨r, rfl, hp⟩, h30⟩
            obtain ⟨rfl, hQ'⟩ := HX.out _ _ hp
            have H30 := Lib.hid h30
            have HQ' := Lib.hid hQ'
            clear HPt HX hp h30 hQ'
            go_wp2_with fail
            first
              | exact ⟨⟨j + 1, hl2, by go_num, L', H30.out, HQ'.out⟩, by simp [intOf]; omega⟩
              | (go_roundw
                 case rel => first | exact ⟨j + 1, hl2, by go_num, L', H30.out, HQ'.out⟩ | ((repeat apply Exists.intro); exact ⟨⟨j + 1, hl2, by go_num, L', H30.out, HQ'.out⟩, rfl⟩)
                 case measure => simp [intOf]; omega)
          · obtain rfl : j = Gn.length := by omega
            have hlq : Lq.length = Gn.length := by rw [hQ.length_eq, List.take_length, List.append_nil]
            have HD2 := Lib.hid hD
            have hw2 : IntKind.i64.wrap (Gn.length : Int) = (Gn.length : Int) := by rw [IntKind.wrap_i64]; simp at hGS; omega
            have hlq2 : (Lq.length : Int) = (Gn.length : Int) := by omega
            clear hD hQ HC
            go_wp2_with fail
            refine (oqLen HD2.out.oq).mono ?_
            rintro e w31 ⟨rfl, o31⟩
            have H31 := Lib.hid o31.bel
            rw [hlq2]
            clear o31 HD2
            go_wp2_with fail
            go_ret
            exact ⟨by first | rfl | simp, H31.out⟩
      · have hpos : 0 < Lf.length := by omega
        obtain ⟨i, hi⟩ : ∃ i : Nat, i = y % Lf.length := ⟨_, rfl⟩
        have hil : i < Lf.length := by rw [hi]; exact Nat.mod_lt _ hpos
        have him : (y : Int) % (Lf.length : Int) = (i : Int) := by rw [hi]; simp
        have him2 : (y : Int).tmod (Lf.length : Int) = (i : Int) := by rw [Int.tmod_eq_emod_of_nonneg (by omega)]; exact him
        obtain ⟨g, rfl, hvr⟩ : ∃ g, a3 = some ⟨g, 0, none⟩ ∧ VR wr g c3 Lf := by
          rcases hC.lv with ⟨e, hnil⟩ | ⟨g, c, e, hr, _⟩
          · rw [hnil] at hpos; cases hpos
          · simp at e; exact ⟨g, e.1, e.2 ▸ hr⟩
        obtain ⟨u0, u1, u2, u3, u4⟩ := hvr.cell i hil
        have hmem : vn Lf i ∈ Lf := vn_mem hil
        have hLd : DistV Lf := (List.pairwise_append.1 ((hP.pairwise_iff (fun {_ _} e c => e c.symm)).2 HDi.out)).2.1
        have hfl := filter_at hLd hil
        have hrt := HRi.out _ (hP.mem_iff.1 (List.mem_append_right _ hmem))
        have HP' := Lib.hid (perm_next hP hil)
        have hwf : wfI (vn Lf i).1.2.1 ∧ wfI (vn Lf i).1.2.2 := by
          obtain ⟨⟨h1, h2, h3⟩, _⟩ := hrt
          exact ⟨wfI_of (by omega), wfI_of (by omega)⟩
        have hnew : ∀ z ∈ Lf.take i ++ Lf.drop (i + 1), nmV z ≠ ((vn Lf i).1.2.1, (vn Lf i).1.2.2) := by
          rw [← hfl]
          intro z hz
          have := (List.mem_filter.1 hz).2
          rw [decide_eq_true_eq] at this
          exact this
        have hLl : Lf.length ≤ 60 := by have := hP.length_eq; rw [List.length_append] at this; omega
        have hGl : Gn.length ≤ 60 := by have := hP.length_eq; rw [List.length_append] at this; omega
        have hL1 : (Lf.take i ++ Lf.drop (i + 1)).length = Lf.length - 1 := by rw [List.length_append, List.length_take, List.length_drop]; omega
        obtain ⟨x, hx⟩ : ∃ x, vn Lf i = x := ⟨_, rfl⟩
        rw [hx] at u0 u1 u2 u3 u4 hmem hfl hwf hnew HP'
        obtain ⟨L1, hL1e⟩ : ∃ L1, Lf.take i ++ Lf.drop (i + 1) = L1 := ⟨_, rfl⟩
        rw [hL1e] at hfl hnew HP' hL1
        have HL1e := Lib.hid hL1e
        have HL1 := Lib.hid hL1
        have HWf := Lib.hid hwf
        have HNew := Lib.hid hnew
        have HFl := Lib.hid hfl
        have HMem := Lib.hid hmem
        have hn := neqV x
        have C1 := Lib.hid (hC.box (.cells #[.int .i64 x.1.1, .int .i64 x.1.2.1, .int .i64 x.1.2.2, .int .i64 x.2.1, .int .i64 x.2.2] 33))
        clear hC hP hi hvr hLd hrt hx hL1e hL1 hwf hnew hfl hmem HZ
        generalize hb0 : wr.heap.size = b0 at C1
        have HB0 := Lib.hid hb0
        have hF := C1.out.call (P := fun e L' => e = .returned (.tuple #[vV x, .bool true]) ∧ L' = Lf) (fun K' h' => (oqFind h' HMem.out HWf.out.1 HWf.out.2).mono (by
          rintro e w' ⟨h1, h2⟩
          exact ⟨Lf, ⟨h1, rfl⟩, h2⟩))
        unfold vV at hF
        go_wp2_with fail
        refine hF.mono ?_
        rintro e w20 ⟨L', ⟨rfl, hLe⟩, c20⟩
        rw [hLe] at c20
        clear hLe
        have C20 := Lib.hid (c20.box (.cells #[.int .i64 x.1.1, .int .i64 x.1.2.1, .int .i64 x.1.2.2, .int .i64 x.2.1, .int .i64 x.2.2] 33))
        generalize hb1 : w20.heap.size = b1 at C20
        have HB1 := Lib.hid hb1
        obtain ⟨p0, p1, p2, p3, p4, -⟩ := VB.cells (x := x) (C20.out.kept (b := b0) (by simp))
        have hF2 := C20.out.call (P := fun e L' => e = .returned (.tuple #[vV x, .int .i64 0]) ∧ L' = L1) (fun K' h' => (oqCancel h' HMem.out).mono (by
          rintro e w' ⟨h1, h2⟩
          rw [HFl.out] at h2
          exact ⟨L1, ⟨h1, rfl⟩, h2⟩))
        unfold vV at hF2
        clear hF c20 C1 u0 u1 u2 u3 u4
        go_wp2_with fail
        refine hF2.mono ?_
        rintro e w21 ⟨L', ⟨rfl, hLe⟩, c21⟩
        rw [hLe] at c21
        clear hLe
        have C21 := Lib.hid (c21.box (.cells #[.int .i64 x.1.1, .int .i64 x.1.2.1, .int .i64 x.1.2.2, .int .i64 x.2.1, .int .i64 x.2.2] 33))
        generalize hb2 : w21.heap.size = b2 at C21
        have HB2 := Lib.hid hb2
        clear p0 p1 p2 p3 p4 hF2 c21 C20 hb0 hb1
        obtain ⟨p0, p1, p2, p3, p4, -⟩ := VB.cells (x := x) (C21.out.kept (b := b0) (by simp))
        obtain ⟨q0, q1, q2, q3, q4, -⟩ := VB.cells (x := x) (C21.out.kept (b := b1) (by simp))
        obtain ⟨r0, r1, r2, r3, r4, -⟩ := VB.cells (x := x) (C21.out.kept (b := b2) (by simp))
        have hF3 := C21.out.call (P := fun e L'' => e = .returned (.tuple #[.agg #[.int .i64 0, .int .i64 0, .int .i64 0, .int .i64 0, .int .i64 0], .int .i64 6]) ∧ L'' = L1) (fun K' h' => (oqCancelNo h' (s := x.1.2.1) (n := x.1.2.2) HNew.out HWf.out.1 HWf.out.2).mono (by
          rintro e w' ⟨h1, h2⟩
          exact ⟨_, ⟨h1, rfl⟩, h2⟩))
        go_wp2_with fail
        refine hF3.mono ?_
        rintro e w22 ⟨L', ⟨rfl, hLe⟩, c22⟩
        rw [hLe] at c22
        clear hLe
        have C22 := Lib.hid (c22.below (below_z w22))
        have hw1 : IntKind.i64.wrap ((i : Int) + 1) = (i : Int) + 1 := by rw [IntKind.wrap_i64]; omega
        have hD : ∀ W : World, VR W g c3 Lf → Calls Tryz.prog 26 #[.slice (some ⟨g, 0, none⟩) Lf.length c3, .int .i64 (i : Int), .int .i64 ((i : Int) + 1)] W fun e w' => e = .returned (.slice (some ⟨g, 0, none⟩) (Lf.length - 1) c3) ∧ VR w' g c3 L1 ∧ Off (fun k => k = g) W w' := fun W hW => by
          have := deleteV_calls g c3 Lf hW i (i + 1) rfl hil (by omega)
          rw [HL1e.out, show ((i + 1 : Nat) : Int) = (i : Int) + 1 by omega] at this
          exact this
        have HD := Lib.hid hD
        clear p0 p1 p2 p3 p4 q0 q1 q2 q3 q4 r0 r1 r2 r3 r4 hF3 c22 C21 hb2 hD
        go_wp2_with fail
        refine (HD.out _ (by
          rcases C22.out.lv with ⟨e, _⟩ | ⟨g', c', e, hr, _⟩
          · cases e
          · simp at e; rw [e.1, e.2]; exact hr)).mono ?_
        rintro e w23 ⟨rfl, hv23, ho23⟩
        have C23 := Lib.hid (C22.out.delete hv23 ho23)
        clear C22 HD hv23 ho23
        obtain ⟨p0, p1, p2, p3, p4, -⟩ := VB.cells (x := x) (C23.out.kept (b := b0) (by simp))
        have HO := Lib.hid C23.out.own
        have hws := C23.out.oq.bel.size
        go_wp2_with (at_builtin; go_must (refine wpList_appV rfl (.tmp 108) (.tmp 110) (by rfl) w.heap.size u7 Gn.length _ (by first | rfl | simp [Act.eval]) (HO.out.alloc _) w23.heap.size 1 1 (encV x) (by first | rfl | simp [Act.eval]) rfl (vcells_new _ _ _ _ _ _ _) (by intro u hu; simp [encV] at hu; rcases hu with rfl | rfl | rfl | rfl | rfl <;> rfl) (by omega) (by simp; omega) ?_; intro v24 w24 hr24 hg24 hat24; have HR24 := Lib.hid hr24; have HG24 := Lib.hid hg24; have HT24 := Lib.hid hat24; clear hr24 hg24 hat24))
        have C24 := Lib.hid ((C23.out.box (.cells #[.int .i64 x.1.1, .int .i64 x.1.2.1, .int .i64 x.1.2.2, .int .i64 x.2.1, .int .i64 x.2.2] 33)).append HR24.out HG24.out HT24.out)
        clear p0 p1 p2 p3 p4 C23 HO HR24 HG24 HT24 hws
        refine (oqAllB C24.out.oq).mono ?_
        rintro e w25 ⟨v25, rfl, ho25, hb25⟩
        obtain ⟨hv25, -⟩ := LV.of_owns ho25
        obtain ⟨a25, c25, rfl, -, -⟩ := hv25.shape
        have C25 := Lib.hid (C24.out.below hb25)
        have hE := equalOs_calls (.slice a25 L1.length c25) (.slice (some ⟨g, 0, none⟩) L1.length c3) L1 w25 hv25.lo C25.out.lv.lo (by rw [HL1.out]; omega)
        rw [HL1.out] at hE
        rw [HL1.out]
        have HE := Lib.hid hE
        clear hE ho25 hb25 hv25 C24
        go_wp2_with fail
        refine HE.out.mono ?_
        rintro e w26 ⟨rfl, b26⟩
        have C26 := Lib.hid (C25.out.below b26).drop
        clear b26 C25 HE
        go_wp2_with fail
        exact ⟨⟨k + 1, hlt, by go_num, L1, Gn ++ [x], by rw [HL1.out], C26.out, HP'.out⟩, by simp [intOf]; omega⟩
    · obtain rfl : k = m := by omega
      clear HC3
      have HC := Lib.hid hC
      have HP := Lib.hid hP
      obtain ⟨ga, gc, rfl, -, -⟩ := (LV.of_owns hC.own).1.shape
      clear hC hP
      go_wp2_with fail
      go_loopw [120] (fun jv wr => ∃ j : Nat, j ≤ Gn.length ∧ jv = .int .i64 (j : Int) ∧ ∃ Lq, Cn w wr q (U + j) Lq a3 c3 Lf (.slice ga Gn.length gc) Gn [] ∧ Lq.Perm (Gn.take j ++ Lf)) (fun jv _ => Gn.length - (intOf jv).toNat)
      case atStart => exact ⟨0, Nat.zero_le _, by simp, Lf, HC.out, List.Perm.refl _⟩
      case round =>
        obtain ⟨j, hj, rfl, Lq, hD, hQ⟩ := hrel
        have hGS : Gn.length + Lf.length ≤ 60 := by have := HP.out.length_eq; rw [List.length_append] at this; omega
        by_cases hl2 : j < Gn.length
        · have e2 : (j : Int) < (Gn.length : Int) := by omega
          obtain ⟨g2, o2, rfl, -, u0, u1, u2, u3, u4⟩ := (hD.oq.row (List.mem_cons_self ..)).at hl2
          have HX := Lib.hid (put_next HP.out HDi.out HRi.out hGS hl2 hQ)
          obtain ⟨x, hx⟩ : ∃ x, vn Gn j = x := ⟨_, rfl⟩
          rw [hx] at HX u0 u1 u2 u3 u4
          have hb := hD.below ((Below.refl _ _).alloc (Nat.le_refl _) (.cells #[.int .i64 x.1.1, .int .i64 x.1.2.1, .int .i64 x.1.2.2, .int .i64 x.2.1, .int .i64 x.2.2] 33))
          have HPt := Lib.hid (hb.call (P := fun e L' => ∃ r, e = .returned (.int .i64 r) ∧ Put1 60 Lq x r L') (fun K' h' => (oqPut h' (by omega) x).mono (by
            rintro e w' ⟨L', r, h1, h2, h3⟩
            exact ⟨L', ⟨r, h1, h2⟩, h3⟩)))
          clear hD hx hb HC
          go_wp2_with fail
          refine HPt.out.mono ?_
          rintro e w30 ⟨L', ⟨r, rfl, hp⟩, h30⟩
          obtain ⟨rfl, hQ'⟩ := HX.out _ _ hp
          have H30 := Lib.hid h30
          have HQ' := Lib.hid hQ'
          clear HPt HX hp h30 hQ'
          go_wp2_with fail
          first
            | exact ⟨⟨j + 1, hl2, by go_num, L', H30.out, HQ'.out⟩, by simp [intOf]; omega⟩
            | (go_roundw
               case rel => first | exact ⟨j + 1, hl2, by go_num, L', H30.out, HQ'.out⟩ | ((repeat apply Exists.intro); exact ⟨⟨j + 1, hl2, by go_num, L', H30.out, HQ'.out⟩, rfl⟩)
               case measure => simp [intOf]; omega)
        · obtain rfl : j = Gn.length := by omega
          have hlq : Lq.length = Gn.length + Lf.length := by rw [hQ.length_eq, List.take_length, List.length_append]
          have HD2 := Lib.hid hD
          have hw2 : IntKind.i64.wrap ((Lf.length : Int) + (Gn.length : Int)) = (Lf.length : Int) + (Gn.length : Int) := by rw [IntKind.wrap_i64]; omega
          have hlq2 : (Lq.length : Int) = (Lf.length : Int) + (Gn.length : Int) := by omega
          clear hD hQ HC
          go_wp2_with fail
          refine (oqLen HD2.out.oq).mono ?_
          rintro e w31 ⟨rfl, o31⟩
          have H31 := Lib.hid o31.bel
          rw [hlq2]
          clear o31 HD2
          go_wp2_with fail
          go_ret
          exact ⟨by first | rfl | simp, H31.out⟩
end Go.Proofs.YtcjkeobjojmpfaaGreat
end
