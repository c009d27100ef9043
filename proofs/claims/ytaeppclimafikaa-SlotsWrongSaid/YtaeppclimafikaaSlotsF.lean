/-
  CONTRACTS of slices.AppendSeq and Collect at the free places, and of slots' Free.
-/
import Derived.Test.YtaeppclimafikaaSlotsE
namespace Go.Proofs.Ytaeppclimafikaa
open Go.RowKit

attribute [local go_sem] Oper.semAt_some

def cellsN (l : List Nat) : List Value := l.map fun (p : Nat) => .int .i64 (p : Int)
theorem cellsN_one (l : List Nat) : ∀ u ∈ cellsN l, u.oneCell' = true := by
  intro u hu
  obtain ⟨k, _, rfl⟩ := List.mem_map.1 hu
  rfl
/-- THE VALUE v IS A ROW OF PLACES, in a block from B on. -/
def NV (w : World) (B : Nat) (v : Value) (l : List Nat) : Prop := w.ownsRow B 3 1 v l.length (cellsN l)
theorem NV.below {w w' : World} {B : Nat} {v : Value} {l : List Nat} (h : NV w B v l) (hb : Below w.heap.size w w') : NV w' B v l := row_below h hb
theorem cellsN_get (l : List Nat) (i : Nat) (hi : i < l.length) : (cellsN l)[i]? = some (.int .i64 (fq l i : Int)) := by
  unfold cellsN fq
  rw [List.getElem?_map, List.getD_eq_getElem?_getD, List.getElem?_eq_getElem hi]
  rfl
theorem NV.get {w : World} {B : Nat} {v : Value} {l : List Nat} (h : NV w B v l) {i : Nat} (hi : i < l.length) : ∃ g cap, v = .slice (some ⟨g, 0, none⟩) l.length cap ∧ l.length ≤ cap ∧ B ≤ g ∧ w.cell? ⟨g, i, none⟩ = some (.int .i64 (fq l i : Int)) := by
  obtain ⟨g, cap, e, hc, hb, hx⟩ := row_get h (by omega)
  exact ⟨g, cap, e, hc, hb, (hx _ (by omega)).trans (cellsN_get l i hi)⟩
theorem info_int : (Try.prog.info? 3).map (fun i => (i.zero, i.size, i.bytes)) = some (some (.int .i64 0), 1, 8) := by kernel_rfl
theorem cell1_new (w : World) (a : Value) (ty : TypeId) : ∀ j u, [a][j]? = some u → (w.alloc (.cells #[a] ty)).cell? ((⟨w.heap.size, 0, none⟩ : Addr).add j) = some u := by
  intro j u hj
  rw [Addr.add_lit, Nat.zero_add]
  have hh : (w.alloc (.cells #[a] ty)).heap[w.heap.size]? = some (.cells #[a] ty) := World.alloc_heap_new w _
  rw [cell_of_row _ _ j _ _ (0, 0) hh, ← Array.getElem?_toList]
  exact hj
theorem take_succ_n (l : List Nat) (k : Nat) (h : k < l.length) : cellsN (l.take (k + 1)) = cellsN (l.take k) ++ [.int .i64 (fq l k : Int)] := by
  unfold cellsN
  rw [List.take_add_one, List.map_append]
  congr 1
  rw [List.getElem?_eq_getElem h]
  show [Value.int .i64 ((l[k] : Nat) : Int)] = _
  unfold fq
  rw [List.getD_eq_getElem?_getD, List.getElem?_eq_getElem h]
  rfl
set_option maxRecDepth 100000 in
set_option maxHeartbeats 4000000 in
theorem appendSeqN_in (r : Nat) (hr : 5 ≤ r) (Bt q g n k : Nat) (S : Tb) (nx : Nat → Int) (f : Int) (w : World) (hV : FreeAt Bt q g n k S nx f w) (ht : S.free.length ≤ 1024) :
    CallsIn Fence.wide r Try.prog 49 #[.slice none 0 0, .func (.func 50) #[] #[.pointer (some ⟨Bt, 0, none⟩)]] w fun e W' => ∃ v', e = .returned v' ∧ NV W' w.heap.size v' S.free ∧ Below w.heap.size w W' := by
  obtain ⟨i0, hi, hz0, hz1, hz2⟩ := info_parts info_int
  refine callsIn_of_wp_marks Try.func49 rfl trivial ?_ rfl
  simp only [Try.ntmps49, List.size_toArray, List.length_cons, List.length_nil, Nat.reduceAdd, Nat.reduceSub, Array.replicate_succ, Array.replicate_zero, List.push_toArray, List.append_toArray, List.nil_append, List.cons_append]
  gi_wp2_with fail
  have b1 := Boxed.new w 29 (.slice none 0 0)
  have hB0 : Below w.heap.size w (w.alloc (.cells #[.slice none 0 0] 29)) := (Below.refl _ w).alloc (Nat.le_refl _) _
  have hBt := hV.box.lt
  have hql := hV.tb.lt
  refine wpIn_rangeKeptK (encs := fun j => #[.int .i64 (fq S.free j : Nat)]) (N := S.free.length) (St := fun _ => FreeAt Bt q g n k S nx f) rfl (by omega) (gf := 50) (lb := #[.pointer (some ⟨Bt, 0, none⟩)]) rfl trivial (enters_of Try.func50 (by kernel_rfl) rfl)
    (free1_kept (r - 1) (by omega) Bt q g n k S nx f)
    (fun _ => rfl)
    (fun j W => (∃ v, Boxed W w.heap.size 29 v ∧ W.ownsRow w.heap.size 3 1 v j (cellsN (S.free.take j)) ∧ True) ∧ Below w.heap.size w W)
    (fun _ _ _ => False)
    (fun j W h => hV.same fun x hx => h.2.block x (by omega))
    (OwnFrom.and (Own.from (holdsRow_own w.heap.size w.heap.size 29 3 1 (fun j => j) (fun j => cellsN (S.free.take j)) (fun _ _ => True)) _) (ownFrom_below (Nat.le_refl _) (by simp)))
    (fun c => ownFrom_pure _ _)
    ⟨⟨_, b1, World.ownsRow_nil _ _ _ _, trivial⟩, hB0⟩
    (fun j a' W => a' = { tmps := #[.slice none 0 0, .func (.func 50) #[] #[.pointer (some ⟨Bt, 0, none⟩)], .pointer (some ⟨w.heap.size, 0, none⟩), undef, .slice none 0 0, .int .i64 (fq S.free j : Nat), .func (.func 50) #[] #[.pointer (some ⟨Bt, 0, none⟩)], .int .i64 (fq S.free j : Nat), undef, undef, undef, undef, undef], defers := [] })
    (fun j a' => ownFrom_pure _ _) ?assign ?body ?done ?stop
  case assign =>
    rintro l j W K hk hI hK
    have HIJ := Lib.hid hI
    clear hI
    gi_wp2
    exact hK _ _ (KeepsFrom.refl _ _) HIJ.out rfl
  case body =>
    rintro l j a' W hk ⟨⟨v, hv, hrow2, -⟩, hB⟩ rfl
    have hV0 := Lib.hid hv
    have hR2 := Lib.hid hrow2
    have hBB := Lib.hid hB
    have hsz := hB.size
    have hI := Lib.hid hi
    have hZ0 := Lib.hid hz0
    have hZ1 := Lib.hid hz1
    have hZ2 := Lib.hid hz2
    have c3 := hv.cell
    have f3 := hv.frozen
    have HTk := Lib.hid (take_succ_n S.free j hk)
    generalize fq S.free j = E at *
    clear hv hrow2 hB hi hz0 hz1 hz2 b1 hB0 hV hBt hql
    gi_wp2_with (gi_at_builtin; refine wpListIn_append_own _ rfl _ _ 29 rfl w.heap.size 3 i0 (.int .i64 0) 1 8 Try.underlying29 hI.out hZ0.out hZ1.out hZ2.out rfl (by decide) _ _ _ rfl (hR2.out.alloc _) ⟨W.heap.size, 0, none⟩ 1 1 [.int .i64 (E : Int)] rfl rfl (cell1_new _ _ _) (by intro u hu; simp at hu; subst hu; rfl) (by unfold maxLen; omega) (by omega) (by simp; omega) ?_; intro v' w1 hown' hgrow _; obtain ⟨g', cap', rfl⟩ := ownsRow_succ hown'; obtain ⟨hv1, hv2, hr2, hk2, hb2⟩ := hV0.out.appended (by decide) hR2.out hsz (by omega) hown' hgrow; have hc1 := hv1.cell; have hf1 := hv1.frozen; have hG := Lib.hid hgrow; have hV2 := Lib.hid hv2; have hR3 := Lib.hid hr2; have hK2 := Lib.hid hk2; have hB2 := Lib.hid hb2; clear hgrow hv1 hv2 hr2 hk2 hb2 hown')
    refine ⟨hK2.out.from _, ⟨_, hV2.out, ?_, trivial⟩, hBB.out.trans hB2.out⟩
    rw [HTk.out]
    exact hR3.out
  case done =>
    rintro D W hD ⟨⟨v, hv, hrow2, -⟩, hB⟩ hK
    obtain ⟨va, vc, rfl⟩ := row_shape hrow2
    have hV0 := Lib.hid hv
    have hR2 := Lib.hid hrow2
    have hBB := Lib.hid hB
    have hKK := Lib.hid hK
    have hDD := Lib.hid hD
    have c3 := hv.cell
    clear hv hrow2 hB hK hD hi hz0 hz1 hz2 b1 hB0 hV hql hBt
    gi_wp2
    refine ⟨by simp, .inl ⟨_, _, rfl, run_takeDeferred hKK.out, ?_⟩⟩
    have hD0 := hDD.out
    simp only [World.size_alloc] at hD0
    have hO : Off (fun x => w.heap.size ≤ x) W (W.putObj D (.deferred none)) := Off.of_grown (grownBy_putObj' W D _) (fun x e => by cases e; show _ ≤ _; omega)
    refine ⟨.slice va S.free.length vc, by simp [results, Try.f49, go_sem], .slice va S.free.length vc, rfl, ?_, hBB.out.trans (hO.below (fun x hx => hx) hBB.out.size)⟩
    have h := ownsRow_putObj hR2.out (.deferred none) hKK.out rfl
    rw [List.take_length] at h
    exact h
  case stop =>
    rintro D c j W hD hk h hK
    exact h.elim
set_option maxRecDepth 100000 in
set_option maxHeartbeats 1000000 in
theorem collectN_calls (Bt q g n k : Nat) (S : Tb) (nx : Nat → Int) (f : Int) (w : World) (hV : FreeAt Bt q g n k S nx f w) (ht : S.free.length ≤ 1024) :
    Calls Try.prog 36 #[.func (.func 50) #[] #[.pointer (some ⟨Bt, 0, none⟩)]] w fun e w' => ∃ a c, e = .returned (.slice a S.free.length c) ∧ NV w' w.heap.size (.slice a S.free.length c) S.free ∧ Below w.heap.size w w' := by
  have HA := Lib.hid ((callsIn_wide (n := 5)).1 (appendSeqN_in 5 (by omega) Bt q g n k S nx f w hV ht))
  clear hV
  go_enter Try.func36, Try.ntmps36
  go_wp2_with fail
  refine HA.out.mono ?_
  rintro e w1 ⟨v, rfl, ho, hb⟩
  have HO := Lib.hid ho
  have HB := Lib.hid hb
  obtain ⟨a1, c1, rfl⟩ := row_shape ho
  clear ho hb
  go_wp2
  go_ret
  exact ⟨a1, c1, rfl, HO.out, HB.out⟩
set_option maxHeartbeats 1000000 in
/-- Free: what it tells is a row of its own (or none). -/
theorem Free_calls {w : World} {q g n k : Nat} {S : Tb} (h : TA w q g n k S) :
    Calls Try.prog 18 #[.pointer (some ⟨q, 0, none⟩)] w fun e w' => ∃ v, e = .returned v ∧ NV w' w.heap.size v S.free ∧ Below w.heap.size w w' := by
  have hl : S.free.length ≤ 1024 := by have := h.ok.sum; have := h.lim.1; omega
  obtain ⟨nx, f, ht⟩ := h.ex
  have HI := Lib.hid (is_calls ht.own)
  have HF := Lib.hid (free_calls q w)
  have hfa : FreeAt w.heap.size q g n k S nx f (w.alloc (.cells #[.pointer (some ⟨q, 0, none⟩)] 33)) := ⟨Boxed.new w _ _, ht.below ((Below.refl _ w).alloc (Nat.le_refl _) _)⟩
  have HC := Lib.hid (collectN_calls _ q g n k S nx f _ hfa hl)
  clear h ht hfa hl
  go_enter Try.func18, Try.ntmps18
  go_wp2_with (first
    | (go_at_call 35; refine HI.out.mono ?_; rintro e w' ⟨rfl, rfl⟩)
    | (go_at_call 37; refine HF.out.mono ?_; rintro e w' ⟨rfl, rfl⟩)
    | (go_at_call 36; refine HC.out.mono ?_; rintro e w2 ⟨a, c, rfl, ho, hb⟩; have HO := Lib.hid ho; have HB := Lib.hid hb; clear ho hb)
    | fail)
  go_ret
  exact ⟨_, rfl, row_weak HO.out (by simp), ((Below.refl _ w).alloc (Nat.le_refl _) _).trans (HB.out.mono (by simp))⟩
end Go.Proofs.Ytaeppclimafikaa
