import Derived.Test.YtcjkeobjojmpfaaGreatMSlotsB
import Derived.Deep.CutBlock
section
/-
  CONTRACTS of slots' free, Next, Take.
-/
namespace Go.Proofs.YtcjkeobjojmpfaaGreat.Sl
open Go.RowKit

attribute [local go_sem] Oper.semAt_some

set_option maxHeartbeats 1000000 in
theorem free_calls (q : Nat) (w : World) :
    Calls Tryz.prog 106 #[.pointer (some ⟨q, 0, none⟩)] w fun e w' => e = .returned (.func (.func 121) #[] #[.pointer (some ⟨w.heap.size, 0, none⟩)]) ∧ w' = w.alloc (.cells #[.pointer (some ⟨q, 0, none⟩)] 85) := by
  go_enter Tryz.func106, Tryz.ntmps106
  go_wp2
  go_ret
  exact ⟨rfl, rfl⟩
/-- What the iterator reads. -/
structure FreeAt (Bt q g n k : Nat) (S : Tb) (nx : Nat → Int) (f : Int) (W : World) : Prop where
  box : Boxed W Bt 85 (.pointer (some ⟨q, 0, none⟩))
  tb : TB W q g n k S nx f
theorem FreeAt.keep {Bt q g n k : Nat} {S : Tb} {nx : Nat → Int} {f : Int} {W W' : World} (h : FreeAt Bt q g n k S nx f W) (hc : KeepsCells W W') : FreeAt Bt q g n k S nx f W' := by
  obtain ⟨cur, hcu, _⟩ := h.tb.row.blk
  exact ⟨hc _ _ h.box rfl, h.tb.keep ((hc _ _ h.tb.own rfl).trans h.tb.own.symm) ((hc _ _ hcu rfl).trans hcu.symm)⟩
theorem FreeAt.same {Bt q g n k : Nat} {S : Tb} {nx : Nat → Int} {f : Int} {W W' : World} (h : FreeAt Bt q g n k S nx f W) (e : ∀ j, j = Bt ∨ j = q ∨ j = g → W'.heap[j]? = W.heap[j]?) : FreeAt Bt q g n k S nx f W' :=
  ⟨(e _ (.inl rfl)).trans h.box, h.tb.keep (e _ (.inr (.inl rfl))) (e _ (.inr (.inr rfl)))⟩
set_option maxRecDepth 100000 in
set_option maxHeartbeats 2000000 in
theorem free1_kept (r : Nat) (hr : 1 ≤ r) (Bt q g n k : Nat) (S : Tb) (nx : Nat → Int) (f : Int) :
    SeqKeptK Fence.wide r Tryz.prog 121 #[.pointer (some ⟨Bt, 0, none⟩)] (fun j => #[.int .i64 (fq S.free j : Nat)]) S.free.length (fun _ => FreeAt Bt q g n k S nx f) := by
  intro l J Jx W hJA hJx hSt hY h0
  have hY0 := Lib.hid hY
  have hJ0 := Lib.hid hJA
  have hS0 := Lib.hid hSt
  have HJ00 := Lib.hid h0
  have k1 := hSt 0 W h0
  have c1 := k1.box.cell
  obtain ⟨-, c2, -⟩ := ownS_cells k1.tb.own
  have HLk := Lib.hid k1.tb.links
  have HNd := Lib.hid k1.tb.ok.nodup
  have HMm := Lib.hid k1.tb.ok.mem
  clear hY hJA hJx hSt h0 k1
  refine callsIn_of_wp Tryz.func121 rfl trivial ?_ rfl
  simp only [Tryz.ntmps121, List.size_toArray, List.length_cons, List.length_nil, Nat.reduceAdd, Nat.reduceSub, Array.replicate_succ, Array.replicate_zero, List.push_toArray, List.append_toArray, List.nil_append, List.cons_append]
  gi_wp2
  gi_loopw [3] (fun jv wr => ∃ (j : Nat) (i : Int), j ≤ S.free.length ∧ jv = .int .i64 i ∧ Links nx i (S.free.drop j) ∧ J j wr) (fun jv _ => after (intOf jv) S.free)
  case atStart => exact ⟨0, f, Nat.zero_le _, rfl, HLk.out, HJ00.out⟩
  case round =>
    obtain ⟨j, i, hj, rfl, hl, hJ⟩ := hrel
    have HJ := Lib.hid hJ
    have k1 := hS0.out j wr hJ
    have c3 := k1.box.cell
    obtain ⟨c4, -⟩ := ownS_cells k1.tb.own
    have HAf := Lib.hid (after_links HNd.out hl)
    clear hJ c1 c2
    by_cases hlt : j < S.free.length
    · rw [drop_get hlt] at hl
      obtain ⟨p, hp⟩ : ∃ p, fq S.free j = p := ⟨_, rfl⟩
      have hpm : p ∈ S.free := by
        rw [← hp, fq, List.getD_eq_getElem?_getD, List.getElem?_eq_getElem hlt]; exact List.getElem_mem hlt
      have hpn := ((HMm.out p).1 hpm).1
      change Links nx i (fq S.free j :: _) at hl
      rw [hp] at hl
      obtain ⟨rfl, hl2⟩ := hl
      have e1 : ((p : Int) != -1) = true := by rw [bne_iff_ne]; omega
      obtain ⟨fn, tmps, assign, body, hy, hR⟩ := hY0.out j _ hlt HJ.out
      rw [hp] at hy
      have HR := Lib.hid hR
      have HL2 := Lib.hid hl2
      clear hR hl2 k1 c3 c4 hpm hp
      gi_wp2_with fail
      refine HR.out.mono ?_
      rintro e W3 (⟨rfl, hJ3⟩ | ⟨rfl, hJx3⟩)
      · have k1 := hS0.out (j + 1) W3 hJ3
        have HJ3 := Lib.hid hJ3
        have c3 := k1.box.cell
        obtain ⟨c4, -⟩ := ownS_cells k1.tb.own
        obtain ⟨-, -, -, x3⟩ := k1.tb.row.cell p hpn
        have hp2 : (p : Int) < (n : Int) := by omega
        have HAf2 := Lib.hid (after_links HNd.out HL2.out)
        clear hJ3 k1
        gi_wp2
        go_roundw
        case rel => exact ⟨j + 1, _, hlt, rfl, HL2.out, HJ3.out⟩
        case measure =>
          simp only [intOf]
          rw [HAf2.out, HAf.out]
          simp only [List.length_drop]
          omega
      · gi_wp2
        refine bodyPost_ret (results_none rfl _ _ _) rfl ?_
        exact ⟨⟨_, rfl⟩, .inr ⟨j, hlt, hJx3⟩⟩
    · obtain rfl : j = S.free.length := by omega
      rw [List.drop_length] at hl
      obtain rfl : i = -1 := hl
      clear k1 hlt
      gi_wp2
      refine bodyPost_end (results_none rfl _ _ _) rfl ?_
      exact ⟨⟨_, rfl⟩, .inl HJ.out⟩
/-- What Next tells. -/
def nextP (S : Tb) : Nat := S.free.headD 0
def nextL (S : Tb) : Nat := match S.free with | [] => 0 | p :: _ => S.life p + 1
def nextB (S : Tb) : Bool := !S.free.isEmpty
/-- How Next's loop stands. -/
structure NextAt (w W : World) (bt b2 q g n k : Nat) (S : Tb) (nx : Nat → Int) (f : Int) (P L : Int) (B : Bool) : Prop where
  fa : FreeAt bt q g n k S nx f W
  sb : Boxed W w.heap.size 85 (.pointer (some ⟨q, 0, none⟩))
  r2 : W.heap[b2]? = some (.cells #[.int .i64 P, .int .i64 L] 94 (0, 0))
  r3 : Boxed W (b2 + 1) 4 (.bool B)
  bel : Below w.heap.size w W
theorem NextAt.keep {w W W' : World} {bt b2 q g n k : Nat} {S : Tb} {nx : Nat → Int} {f P L : Int} {B : Bool} (h : NextAt w W bt b2 q g n k S nx f P L B) (hc : KeepsCells W W') (hb : Below w.heap.size w W') : NextAt w W' bt b2 q g n k S nx f P L B :=
  ⟨h.fa.keep hc, hc _ _ h.sb rfl, hc _ _ h.r2 rfl, hc _ _ h.r3 rfl, hb⟩
set_option maxRecDepth 100000 in
set_option maxHeartbeats 4000000 in
theorem next_in (r : Nat) (hr : 5 ≤ r) {w : World} {q g n k : Nat} {S : Tb} (h : TA w q g n k S) :
    CallsIn Fence.wide r Tryz.prog 80 #[.pointer (some ⟨q, 0, none⟩)] w fun e w' => e = .returned (.tuple #[.agg #[.int .i64 (nextP S : Int), .int .i64 (nextL S : Int)], .bool (nextB S)]) ∧ Below w.heap.size w w' := by
  have hB0 : Below w.heap.size w (((w.alloc (.cells #[.pointer (some ⟨q, 0, none⟩)] 85)).alloc (.cells #[.int .i64 0, .int .i64 0] 94)).alloc (.cells #[.bool false] 4)) := (((Below.refl _ w).alloc (Nat.le_refl _) _).alloc (by simp) _).alloc (by simp; omega) _
  obtain ⟨nx, f, h1⟩ := (h.below hB0).ex
  have HI := Lib.hid (is_calls h1.own)
  have HH := Lib.hid h
  have HB0 := Lib.hid hB0
  have HT := Lib.hid h1
  clear h h1 hB0
  refine callsIn_of_wp_marks Tryz.func80 rfl trivial ?_ rfl
  simp only [Tryz.ntmps80, List.size_toArray, List.length_cons, List.length_nil, Nat.reduceAdd, Nat.reduceSub, Array.replicate_succ, Array.replicate_zero, List.push_toArray, List.append_toArray, List.nil_append, List.cons_append]
  gi_wp2_with fail
  refine ⟨trivial, (by intro _; omega), (callsIn_wide.2 HI.out).mono ?_⟩
  rintro e w3 ⟨rfl, rfl⟩
  gi_wp2_with fail
  refine ⟨trivial, (by intro _; omega), (callsIn_wide.2 (free_calls _ _)).mono ?_⟩
  rintro e w4 ⟨rfl, rfl⟩
  obtain ⟨W0, hW0⟩ : ∃ W0, W0 = (((w.alloc (.cells #[.pointer (some ⟨q, 0, none⟩)] 85)).alloc (.cells #[.int .i64 0, .int .i64 0] 94)).alloc (.cells #[.bool false] 4)).alloc (.cells #[.pointer (some ⟨q, 0, none⟩)] 85) := ⟨_, rfl⟩
  have hsz : W0.heap.size = w.heap.size + 1 + 1 + 1 + 1 := by rw [hW0]; simp
  have hbl : Below w.heap.size w W0 := by rw [hW0]; exact HB0.out.alloc (by simp; omega) _
  have h0 : NextAt w W0 (w.heap.size + 1 + 1 + 1) (w.heap.size + 1) q g n k S nx f 0 0 false := by
    refine ⟨⟨?_, ?_⟩, ?_, ?_, ?_, hbl⟩
    · have := Boxed.new (((w.alloc (.cells #[.pointer (some ⟨q, 0, none⟩)] 85)).alloc (.cells #[.int .i64 0, .int .i64 0] 94)).alloc (.cells #[.bool false] 4)) 85 (.pointer (some ⟨q, 0, none⟩))
      rw [hW0]
      simpa only [World.size_alloc] using this
    · rw [hW0]
      exact HT.out.keep (Below.heap_alloc _ _ _ HT.out.lt.1) (Below.heap_alloc _ _ _ HT.out.lt.2)
    · rw [hW0]
      exact (((Boxed.new w 85 (.pointer (some ⟨q, 0, none⟩))).alloc _).alloc _).alloc _
    · rw [hW0]
      have := World.alloc_heap_new (w.alloc (.cells #[.pointer (some ⟨q, 0, none⟩)] 85)) (.cells #[.int .i64 0, .int .i64 0] 94)
      rw [World.size_alloc] at this
      exact (Below.heap_alloc _ _ _ (by simp)).trans ((Below.heap_alloc _ _ _ (by simp)).trans this)
    · rw [hW0]
      have := (Boxed.new ((w.alloc (.cells #[.pointer (some ⟨q, 0, none⟩)] 85)).alloc (.cells #[.int .i64 0, .int .i64 0] 94)) 4 (.bool false)).alloc (.cells #[.pointer (some ⟨q, 0, none⟩)] 85)
      simpa only [World.size_alloc] using this
  have H0 := Lib.hid h0
  have HS := Lib.hid hsz
  gi_wp2_with fail
  rw [← hW0]
  clear hW0 h0 hsz hbl
  refine wpIn_rangeKeptK (encs := fun j => #[.int .i64 (fq S.free j : Nat)]) (N := S.free.length) (St := fun _ => FreeAt (w.heap.size + 1 + 1 + 1) q g n k S nx f) rfl (by omega) (gf := 121) (lb := #[.pointer (some ⟨w.heap.size + 1 + 1 + 1, 0, none⟩)]) rfl trivial (enters_of Tryz.func121 (by kernel_rfl) rfl)
    (free1_kept (r - 1) (by omega) _ q g n k S nx f)
    (fun _ => rfl)
    (fun j W => j = 0 ∧ NextAt w W (w.heap.size + 1 + 1 + 1) (w.heap.size + 1) q g n k S nx f 0 0 false)
    (fun c j W => c = .ret ∧ NextAt w W (w.heap.size + 1 + 1 + 1) (w.heap.size + 1) q g n k S nx f (nextP S : Int) (nextL S : Int) true)
    (fun j W h => h.2.fa)
    (ownFrom_cells _ (fun j W W' hI hc hb => ⟨hI.1, hI.2.keep hc (hI.2.bel.trans (hb.mono (by rw [HS.out]; omega)))⟩) (fun j W hI => by rw [HS.out]; exact hI.2.fa.box.lt))
    (fun c => ownFrom_cells _ (fun j W W' hI hc hb => ⟨hI.1, hI.2.keep hc (hI.2.bel.trans (hb.mono (by rw [HS.out]; omega)))⟩) (fun j W hI => by rw [HS.out]; exact hI.2.fa.box.lt))
    ⟨rfl, H0.out⟩
    (fun j a' _ => a' = { tmps := #[.pointer (some ⟨q, 0, none⟩), .pointer (some ⟨w.heap.size, 0, none⟩), .pointer (some ⟨w.heap.size + 1, 0, none⟩), .pointer (some ⟨w.heap.size + 1 + 1, 0, none⟩), .int .i64 (fq S.free j : Nat), .pointer (some ⟨q, 0, none⟩), .bool true, .bool false, undef, .pointer (some ⟨q, 0, none⟩), .func (.func 121) #[] #[.pointer (some ⟨w.heap.size + 1 + 1 + 1, 0, none⟩)], .int .i64 (fq S.free j : Nat), undef, undef, undef, undef, undef, undef, undef, undef, undef, undef, undef, undef, undef], defers := [] })
    (fun j a' => ownFrom_pure _ _) ?assign ?body ?done ?stop
  case assign =>
    intro l j W K hk hI hK
    have HIJ := Lib.hid hI
    clear hI
    gi_wp2
    exact hK _ _ (KeepsFrom.refl _ _) HIJ.out rfl
  case body =>
    rintro l j a' W hk ⟨rfl, hI⟩ rfl
    have HNx := Lib.hid hI
    have cb := hI.sb.cell
    obtain ⟨c4, -⟩ := ownS_cells hI.fa.tb.own
    obtain ⟨p, rest, hp⟩ : ∃ p rest, S.free = p :: rest := by
      cases e : S.free with
      | nil => rw [e] at hk; simp at hk
      | cons p rest => exact ⟨p, rest, rfl⟩
    have hpn := hI.fa.tb.ok.head hp
    obtain ⟨-, x1, -, -⟩ := hI.fa.tb.row.cell p hpn.1
    have hp2 : (p : Int) < (n : Int) := by omega
    have r0 : W.cell? ⟨w.heap.size + 1, 0, none⟩ = some (.int .i64 0) := by simp [World.cell?, hI.r2]
    have r1 : W.cell? ⟨w.heap.size + 1, 1, none⟩ = some (.int .i64 0) := by simp [World.cell?, hI.r2]
    have rf : ∀ i, W.frozen? ⟨w.heap.size + 1, i, none⟩ = false := fun i => by simp [World.frozen?, hI.r2]
    have r3 := hI.r3.cell
    have rg := hI.r3.frozen
    have hlim := hI.fa.tb.lim
    have hw1 : IntKind.i64.wrap ((S.life p : Int) + 1) = (S.life p : Int) + 1 := by rw [IntKind.wrap_i64]; omega
    have hg : fq S.free 0 = p := by rw [hp]; rfl
    have HP := Lib.hid (show nextP S = p ∧ nextL S = S.life p + 1 by unfold nextP nextL; rw [hp]; exact ⟨rfl, rfl⟩)
    rw [hg]
    clear hI hk hg hp hpn hlim
    generalize S.life p = L at *
    gi_wp2_with fail
    have hI := HNx.out
    obtain ⟨hp0, hp1⟩ := HP.out
    have hlt := HH.out.lt
    have hX : NextAt w (((W.setCell ⟨w.heap.size + 1, 0, none⟩ (.int .i64 (p : Int))).setCell ⟨w.heap.size + 1, 1, none⟩ (.int .i64 ((L : Int) + 1))).setCell ⟨w.heap.size + 1 + 1, 0, none⟩ (.bool true)) (w.heap.size + 1 + 1 + 1) (w.heap.size + 1) q g n k S nx f (nextP S : Int) (nextL S : Int) true := by
      refine ⟨hI.fa.same fun j hj => ?_, ?_, ?_, ?_, ?_⟩
      · rw [heap_setO _ _ _ (by omega), heap_setO _ _ _ (by omega), heap_setO _ _ _ (by omega)]
      · exact (heap_setO _ _ _ (by omega)).trans ((heap_setO _ _ _ (by omega)).trans ((heap_setO _ _ _ (by omega)).trans hI.sb))
      · refine (heap_setO _ _ _ (by omega)).trans ?_
        have := heap_setC (heap_setC hI.r2 0 (.int .i64 (p : Int))) 1 (.int .i64 ((L : Int) + 1))
        rw [hp0, hp1]
        simpa using this
      · have e : ((W.setCell ⟨w.heap.size + 1, 0, none⟩ (.int .i64 (p : Int))).setCell ⟨w.heap.size + 1, 1, none⟩ (.int .i64 ((L : Int) + 1))).heap[w.heap.size + 1 + 1]? = some (.cells #[.bool false] 4 (0, 0)) := (heap_setO _ _ _ (by omega)).trans ((heap_setO _ _ _ (by omega)).trans hI.r3)
        have := heap_setC e 0 (.bool true)
        have h2 : (((W.setCell ⟨w.heap.size + 1, 0, none⟩ (.int .i64 (p : Int))).setCell ⟨w.heap.size + 1, 1, none⟩ (.int .i64 ((L : Int) + 1))).setCell ⟨w.heap.size + 1 + 1, 0, none⟩ (.bool true)).heap[w.heap.size + 1 + 1]? = some (.cells #[.bool true] 4 (0, 0)) := by simpa using this
        exact h2
      · have o1 := ((((Off.refl (fun j => w.heap.size ≤ j) W).set (b := w.heap.size + 1) (.inl (by show _ ≤ _; omega)) 0 (.int .i64 (p : Int))).set (b := w.heap.size + 1) (.inl (by show _ ≤ _; omega)) 1 (.int .i64 ((L : Int) + 1))).set (b := w.heap.size + 1 + 1) (.inl (by show _ ≤ _; omega)) 0 (.bool true))
        exact hI.bel.trans (o1.below (fun j hj => hj) hI.bel.size)
    exact ⟨((((KeepsOthers.setCell _ _ _).trans (KeepsOthers.setCell _ _ _)).trans (KeepsOthers.setCell _ _ _)).from _), rfl, hX⟩
  case done =>
    rintro D W hD ⟨hz, hI⟩ hK
    have HNx := Lib.hid hI; have HK := Lib.hid hK; have HDD := Lib.hid hD; have HZ := Lib.hid hz
    have r0 : W.cell? ⟨w.heap.size + 1, 0, none⟩ = some (.int .i64 0) := by simp [World.cell?, hI.r2]
    have r1 : W.cell? ⟨w.heap.size + 1, 1, none⟩ = some (.int .i64 0) := by simp [World.cell?, hI.r2]
    have rf : ∀ i, W.frozen? ⟨w.heap.size + 1, i, none⟩ = false := fun i => by simp [World.frozen?, hI.r2]
    have r3 := hI.r3.cell
    have rg := hI.r3.frozen
    clear hI hK hD hz
    gi_wp2_with fail
    have hI := HNx.out
    have hS0 : S.free = [] := List.eq_nil_of_length_eq_zero HZ.out
    have hP : nextP S = 0 ∧ nextL S = 0 ∧ nextB S = false := by unfold nextP nextL nextB; rw [hS0]; exact ⟨rfl, rfl, rfl⟩
    obtain ⟨X, hX⟩ : ∃ X, X = ((W.setCell ⟨w.heap.size + 1, 0, none⟩ (.int .i64 0)).setCell ⟨w.heap.size + 1, 1, none⟩ (.int .i64 0)).setCell ⟨w.heap.size + 1 + 1, 0, none⟩ (.bool false) := ⟨_, rfl⟩
    rw [← hX]
    have hsw0 := HS.out
    have hDD0 := HDD.out
    have HX2 := Lib.hid (show X.heap[w.heap.size + 1]? = some (.cells #[.int .i64 (nextP S : Int), .int .i64 (nextL S : Int)] 94 (0, 0)) by
      rw [hX]
      refine (heap_setO _ _ _ (by omega)).trans ?_
      have := heap_setC (heap_setC hI.r2 0 (.int .i64 0)) 1 (.int .i64 0)
      rw [hP.1, hP.2.1]
      simpa using this)
    have HX3 := Lib.hid (show X.heap[w.heap.size + 1 + 1]? = some (.cells #[.bool (nextB S)] 4 (0, 0)) by
      rw [hX]
      have e : ((W.setCell ⟨w.heap.size + 1, 0, none⟩ (.int .i64 0)).setCell ⟨w.heap.size + 1, 1, none⟩ (.int .i64 0)).heap[w.heap.size + 1 + 1]? = some (.cells #[.bool false] 4 (0, 0)) := (heap_setO _ _ _ (by omega)).trans ((heap_setO _ _ _ (by omega)).trans hI.r3)
      have := heap_setC e 0 (.bool false)
      rw [hP.2.2]
      simpa using this)
    have HKX := Lib.hid (show X.heap[D]? = some (.deferred (some [])) by rw [hX]; exact (heap_setO _ _ _ (by omega)).trans ((heap_setO _ _ _ (by omega)).trans ((heap_setO _ _ _ (by omega)).trans HK.out)))
    have HXB := Lib.hid (show Below w.heap.size w X by
      rw [hX]
      have o1 := ((((Off.refl (fun j => w.heap.size ≤ j) W).set (b := w.heap.size + 1) (.inl (by show _ ≤ _; omega)) 0 (.int .i64 0)).set (b := w.heap.size + 1) (.inl (by show _ ≤ _; omega)) 1 (.int .i64 0)).set (b := w.heap.size + 1 + 1) (.inl (by show _ ≤ _; omega)) 0 (.bool false))
      exact hI.bel.trans (o1.below (fun j hj => hj) hI.bel.size))
    clear hX hI
    obtain ⟨V, hV⟩ : ∃ V, V = X.putObj D (.deferred none) := ⟨_, rfl⟩
    have hKX := HKX.out
    refine ⟨by simp, .inl ⟨_, _, rfl, run_takeDeferred hKX, ?_⟩⟩
    rw [← hV]
    have hsw := HS.out
    have hDD := HDD.out
    have s2 : V.heap[w.heap.size + 1]? = X.heap[w.heap.size + 1]? := by rw [hV]; exact World.putObj_heap_other (by omega)
    have s3 : V.heap[w.heap.size + 1 + 1]? = X.heap[w.heap.size + 1 + 1]? := by rw [hV]; exact World.putObj_heap_other (by omega)
    have c0 : V.cell? ⟨w.heap.size + 1, 0, none⟩ = some (.int .i64 (nextP S : Int)) := by simp [World.cell?, s2, HX2.out]
    have c1 : V.cell? ⟨w.heap.size + 1, 1, none⟩ = some (.int .i64 (nextL S : Int)) := by simp [World.cell?, s2, HX2.out]
    have c2 : V.cell? ⟨w.heap.size + 1 + 1, 0, none⟩ = some (.bool (nextB S)) := by simp [World.cell?, s3, HX3.out]
    have hO : Off (fun j => w.heap.size ≤ j) X V := by rw [hV]; exact Off.of_grown (grownBy_putObj' X D _) (fun j e => by cases e; show _ ≤ _; omega)
    exact ⟨.tuple #[.agg #[.int .i64 (nextP S : Int), .int .i64 (nextL S : Int)], .bool (nextB S)], by simp [results, Tryz.f80, go_sem, c0, c1, c2], rfl, HXB.out.trans (hO.below (fun j hj => hj) HXB.out.size)⟩
  case stop =>
    rintro D c j W hD hk ⟨rfl, hI⟩ hK
    have HNx := Lib.hid hI; have HK := Lib.hid hK; have HDD := Lib.hid hD
    have hb1 : nextB S = true := by
      unfold nextB
      cases e : S.free with
      | nil => rw [e] at hk; cases hk
      | cons p l => rfl
    have HKX := HK
    have HX2 := Lib.hid hI.r2
    have HX3 := Lib.hid (show W.heap[w.heap.size + 1 + 1]? = some (.cells #[.bool (nextB S)] 4 (0, 0)) by rw [hb1]; exact hI.r3)
    have HXB := Lib.hid hI.bel
    clear hI hK hD hk hb1
    obtain ⟨X, hX⟩ : ∃ X, X = W := ⟨_, rfl⟩
    rw [← hX] at HKX HX2 HX3 HXB ⊢
    clear hX
    gi_wp2_with fail
    obtain ⟨V, hV⟩ : ∃ V, V = X.putObj D (.deferred none) := ⟨_, rfl⟩
    have hKX := HKX.out
    refine ⟨by simp, .inl ⟨_, _, rfl, run_takeDeferred hKX, ?_⟩⟩
    rw [← hV]
    have hsw := HS.out
    have hDD := HDD.out
    have s2 : V.heap[w.heap.size + 1]? = X.heap[w.heap.size + 1]? := by rw [hV]; exact World.putObj_heap_other (by omega)
    have s3 : V.heap[w.heap.size + 1 + 1]? = X.heap[w.heap.size + 1 + 1]? := by rw [hV]; exact World.putObj_heap_other (by omega)
    have c0 : V.cell? ⟨w.heap.size + 1, 0, none⟩ = some (.int .i64 (nextP S : Int)) := by simp [World.cell?, s2, HX2.out]
    have c1 : V.cell? ⟨w.heap.size + 1, 1, none⟩ = some (.int .i64 (nextL S : Int)) := by simp [World.cell?, s2, HX2.out]
    have c2 : V.cell? ⟨w.heap.size + 1 + 1, 0, none⟩ = some (.bool (nextB S)) := by simp [World.cell?, s3, HX3.out]
    have hO : Off (fun j => w.heap.size ≤ j) X V := by rw [hV]; exact Off.of_grown (grownBy_putObj' X D _) (fun j e => by cases e; show _ ≤ _; omega)
    exact ⟨.tuple #[.agg #[.int .i64 (nextP S : Int), .int .i64 (nextL S : Int)], .bool (nextB S)], by simp [results, Tryz.f80, go_sem, c0, c1, c2], rfl, HXB.out.trans (hO.below (fun j hj => hj) HXB.out.size)⟩
theorem next_calls {w : World} {q g n k : Nat} {S : Tb} (h : TA w q g n k S) :
    Calls Tryz.prog 80 #[.pointer (some ⟨q, 0, none⟩)] w fun e w' => e = .returned (.tuple #[.agg #[.int .i64 (nextP S : Int), .int .i64 (nextL S : Int)], .bool (nextB S)]) ∧ Below w.heap.size w w' :=
  (callsIn_wide (n := 5)).1 (next_in 5 (by omega) h)
end Go.Proofs.YtcjkeobjojmpfaaGreat.Sl
end

section
/-
  CONTRACTS of slots' Take and Give.
-/
namespace Go.Proofs.YtcjkeobjojmpfaaGreat.Sl
open Go.RowKit

/-- HOW Take STANDS: its result's box, and that of what Next told. -/
structure TkAt (w W : World) (q g n k : Nat) (S : Tb) (nx : Nat → Int) (f : Int) (t wo : Nat) (b2 b4 p L : Nat) : Prop where
  own : W.heap[q]? = some (ownS g n k f t wo)
  row : SRow W g n S nx
  res : W.heap[b2]? = some (.cells #[.int .i64 0, .int .i64 0] 94 (0, 0))
  ref : W.heap[b4]? = some (.cells #[.int .i64 (p : Int), .int .i64 ((L : Int) + 1)] 94 (0, 0))
  ne : b2 ≠ b4 ∧ b2 ≠ q ∧ b2 ≠ g ∧ b4 ≠ q ∧ b4 ≠ g ∧ q ≠ g
  off : Off (Q2 q g) w W
section
variable {w W : World} {q g n k : Nat} {S : Tb} {nx : Nat → Int} {f : Int} {t wo b2 b4 p L : Nat}
theorem TkAt.drewN (h : TkAt w W q g n k S nx f t wo b2 b4 p L) (m : Nat) : TkAt w (W.drewN m) q g n k S nx f t wo b2 b4 p L :=
  ⟨h.own, h.row.keep rfl, h.res, h.ref, h.ne, ⟨h.off.os, h.off.tape, h.off.output, h.off.size, h.off.block⟩⟩
theorem TkAt.new (h : TkAt w W q g n k S nx f t wo b2 b4 p L) : W.cell? ⟨b4, 0, none⟩ = some (.int .i64 (p : Int)) ∧ W.cell? ⟨b4, 1, none⟩ = some (.int .i64 ((L : Int) + 1)) := ⟨by simp [World.cell?, h.ref], by simp [World.cell?, h.ref]⟩
theorem TkAt.old (h : TkAt w W q g n k S nx f t wo b2 b4 p L) : W.cell? ⟨b2, 0, none⟩ = some (.int .i64 0) ∧ W.cell? ⟨b2, 1, none⟩ = some (.int .i64 0) ∧ ∀ i, W.frozen? ⟨b2, i, none⟩ = false := ⟨by simp [World.cell?, h.res], by simp [World.cell?, h.res], fun i => by simp [World.frozen?, h.res]⟩
theorem TkAt.first (h : TkAt w W q g n k S nx f t wo b2 b4 p L) (f' : Int) : TkAt w (W.setCell ⟨q, 1, none⟩ (.int .i64 f')) q g n k S nx f' t wo b2 b4 p L :=
  ⟨ownS_first h.own f', h.row.keep (heap_setO _ _ _ (Ne.symm h.ne.2.2.2.2.2)), (heap_setO _ _ _ h.ne.2.1).trans h.res, (heap_setO _ _ _ h.ne.2.2.2.1).trans h.ref, h.ne, h.off.set (.inl (.inl rfl)) _ _⟩
theorem TkAt.count (h : TkAt w W q g n k S nx f t wo b2 b4 p L) (t' : Nat) : TkAt w (W.setCell ⟨q, 3, none⟩ (.int .i64 (t' : Int))) q g n k S nx f t' wo b2 b4 p L :=
  ⟨ownS_taken h.own t', h.row.keep (heap_setO _ _ _ (Ne.symm h.ne.2.2.2.2.2)), (heap_setO _ _ _ h.ne.2.1).trans h.res, (heap_setO _ _ _ h.ne.2.2.2.1).trans h.ref, h.ne, h.off.set (.inl (.inl rfl)) _ _⟩
theorem TkAt.taken (h : TkAt w W q g n k S nx f t wo b2 b4 p L) (hp : p < n) (hL : L = S.life p) (r : List Nat) : TkAt w (((W.setCell ⟨g, p * 4, none⟩ (.int .i64 (p : Int))).setCell ⟨g, p * 4 + 1, none⟩ (.int .i64 ((L : Int) + 1))).setCell ⟨g, p * 4 + 2, none⟩ (.bool true)) q g n k (takeT S p r) nx f t wo b2 b4 p L := by
  have e : ∀ b, b ≠ g → (((W.setCell ⟨g, p * 4, none⟩ (.int .i64 (p : Int))).setCell ⟨g, p * 4 + 1, none⟩ (.int .i64 ((L : Int) + 1))).setCell ⟨g, p * 4 + 2, none⟩ (.bool true)).heap[b]? = W.heap[b]? := fun b hb => by
    rw [heap_setO _ _ _ hb, heap_setO _ _ _ hb, heap_setO _ _ _ hb]
  refine ⟨(e q h.ne.2.2.2.2.2).trans h.own, ?_, (e b2 h.ne.2.2.1).trans h.res, (e b4 h.ne.2.2.2.2.1).trans h.ref, h.ne, ((h.off.set (.inl (.inr rfl)) _ _).set (.inl (.inr rfl)) _ _).set (.inl (.inr rfl)) _ _⟩
  rw [hL]
  exact h.row.taken hp r
end
section
variable {w : World} {q g n k : Nat} {S : Tb}
set_option maxHeartbeats 2000000 in
theorem take_no (h : TA w q g n k S) (hf : S.free = []) :
    Calls Tryz.prog 63 #[.pointer (some ⟨q, 0, none⟩)] w fun e w' => e = .returned (.tuple #[.agg #[.int .i64 0, .int .i64 0], .int .i64 4]) ∧ Below w.heap.size w w' := by
  have h1 := h.below (below_ref w 0 0)
  have HI := Lib.hid (by obtain ⟨nx, f, h2⟩ := h1.ex; exact is_calls h2.own)
  have HN := Lib.hid (next_calls h1)
  have hP : nextP S = 0 ∧ nextL S = 0 ∧ nextB S = false := by unfold nextP nextL nextB; rw [hf]; exact ⟨rfl, rfl, rfl⟩
  rw [hP.1, hP.2.1, hP.2.2] at HN
  clear h h1 hf hP
  go_enter Tryz.func63, Tryz.ntmps63
  go_wp2_with (first
    | (go_at_call 79; refine HI.out.mono ?_; rintro e w' ⟨rfl, rfl⟩)
    | (go_at_call 80; refine HN.out.mono ?_; rintro e w2 ⟨rfl, hb2⟩; have h3 := hb2.alloc hb2.size (.cells #[.int .i64 0, .int .i64 0] 94); have hbx := (h3.block w.heap.size (by simp)).trans (World.alloc_heap_new w (.cells #[.int .i64 0, .int .i64 0] 94)); have r0 : (w2.alloc (.cells #[.int .i64 0, .int .i64 0] 94)).cell? ⟨w.heap.size, 0, none⟩ = some (.int .i64 0) := by simp [World.cell?, hbx]
       have r1 : (w2.alloc (.cells #[.int .i64 0, .int .i64 0] 94)).cell? ⟨w.heap.size, 1, none⟩ = some (.int .i64 0) := by simp [World.cell?, hbx]
       have rf : ∀ i, (w2.alloc (.cells #[.int .i64 0, .int .i64 0] 94)).frozen? ⟨w.heap.size, i, none⟩ = false := fun i => by simp [World.frozen?, hbx]
       have HB2 := Lib.hid ((below_ref w 0 0).trans (hb2.mono (by simp))); have HBX := Lib.hid (show w.heap.size < w2.heap.size by have := hb2.size; simp at this; omega); clear hb2 hbx h3)
    | fail)
  refine bodyPost_ret (v := .tuple #[.agg #[.int .i64 0, .int .i64 0], .int .i64 4]) (by simp [results, Tryz.results63, go_sem, r0, r1]) rfl ⟨rfl, ?_⟩
  have hb := HB2.out.alloc HB2.out.size (.cells #[.int .i64 0, .int .i64 0] 94)
  exact (((Off.of_below (F := fun j => w.heap.size ≤ j) hb).set (b := w.heap.size) (.inl (Nat.le_refl _)) _ _).set (b := w.heap.size) (.inl (Nat.le_refl _)) _ _).below (fun j hj => hj) (Nat.le_refl _)
set_option maxHeartbeats 4000000 in
theorem take_yes (h : TA w q g n k S) {p : Nat} {rest : List Nat} (hf : S.free = p :: rest) :
    Calls Tryz.prog 63 #[.pointer (some ⟨q, 0, none⟩)] w fun e w' => e = .returned (.tuple #[.agg #[.int .i64 (p : Int), .int .i64 ((S.life p + 1 : Nat) : Int)], .int .i64 0]) ∧ TStep w w' q g n k (takeT S p rest) := by
  have mixed : Tryz.prog.follows .mixedOrders = true := by kernel_rfl
  obtain ⟨nx, f, ht⟩ := h.ex
  have h1 := h.below (below_ref w 0 0)
  have HI := Lib.hid (is_calls (ht.below (below_ref w 0 0)).own)
  have HN := Lib.hid (next_calls h1)
  have hP : nextP S = p ∧ nextL S = S.life p + 1 ∧ nextB S = true := by unfold nextP nextL nextB; rw [hf]; exact ⟨rfl, rfl, rfl⟩
  rw [hP.1, hP.2.1, hP.2.2] at HN
  have HT := Lib.hid ht
  have HF := Lib.hid hf
  have hpn := ht.ok.head hf
  have HP := Lib.hid hpn.1
  have hp2 : (p : Int) < (n : Int) := by have := hpn.1; omega
  clear h h1 hf hP ht hpn
  go_enter Tryz.func63, Tryz.ntmps63
  go_upto_region 6 with (first
    | (go_at_call 79; refine HI.out.mono ?_; rintro e w' ⟨rfl, rfl⟩)
    | (go_at_call 80; refine HN.out.mono ?_; rintro e w2 ⟨rfl, hb2⟩; have HB2 := Lib.hid hb2; clear hb2)
    | fail)
  have h0 : TkAt w (w2.alloc (.cells #[.int .i64 (p : Int), .int .i64 ((S.life p : Int) + 1)] 94)) q g n k S nx f (cnt n S.tk) (cnt n (wornF k S)) w.heap.size w2.heap.size p (S.life p) := by
    have hs2 : w.heap.size + 1 ≤ w2.heap.size := by have := HB2.out.size; rw [World.size_alloc] at this; exact this
    have hb3 := HB2.out.alloc HB2.out.size (.cells #[.int .i64 (p : Int), .int .i64 ((S.life p : Int) + 1)] 94)
    rw [World.size_alloc] at hb3
    have hB3 := (below_ref w 0 0).trans (hb3.mono (by omega))
    have ht3 := HT.out.below hB3
    have hlt := HT.out.lt
    exact ⟨ht3.own, ht3.row, (hb3.block _ (by omega)).trans (World.alloc_heap_new w _), World.alloc_heap_new w2 _, ⟨by omega, by omega, by omega, by omega, by omega, HT.out.ne⟩, Off.of_below hB3⟩
  have H0 := Lib.hid h0
  obtain ⟨b4, hb4⟩ : ∃ b4, w2.heap.size = b4 := ⟨_, rfl⟩
  rw [hb4] at H0 ⊢
  obtain ⟨W3, hW3⟩ : ∃ W3, w2.alloc (.cells #[.int .i64 (p : Int), .int .i64 ((S.life p : Int) + 1)] 94) = W3 := ⟨_, rfl⟩
  rw [hW3] at H0 ⊢
  have hct : (cnt n S.tk : Nat) ≤ n := cnt_le _ _
  have hnl := HT.out.lim
  have hw1 : IntKind.i64.wrap ((cnt n S.tk : Int) + 1) = (cnt n S.tk : Int) + 1 := by rw [IntKind.wrap_i64]; omega
  have HW1 := Lib.hid hw1
  clear hW3 h0 hct hnl hb4 hw1
  obtain ⟨c0, -⟩ := ownS_cells H0.out.own
  have s0 := H0.out.new.1
  go_quiet (fail)
  have H3 := Lib.hid (H0.out.drewN nq)
  obtain ⟨W4, hW4⟩ : ∃ W4, W3.drewN nq = W4 := ⟨_, rfl⟩
  rw [hW4] at H3 ⊢
  clear hW4 c0 s0 H0
  obtain ⟨-, -, -, x3⟩ := H3.out.row.cell p HP.out
  obtain ⟨-, c1, -, -, -, -, cf⟩ := ownS_cells H3.out.own
  go_upto_region 8 with fail
  have H4 := Lib.hid (H3.out.first (nx p))
  obtain ⟨W5, hW5⟩ : ∃ W5, W4.setCell ⟨q, 1, none⟩ (.int .i64 (nx p)) = W5 := ⟨_, rfl⟩
  rw [hW5] at H4 ⊢
  clear hW5 x3 c1 cf H3
  obtain ⟨x0, x1, x2, x3⟩ := H4.out.row.cell p HP.out
  have gf := H4.out.row.frozen
  obtain ⟨s0, s1⟩ := H4.out.new
  go_upto_region 9 with fail
  have H5 := Lib.hid (H4.out.taken HP.out rfl rest)
  obtain ⟨W6, hW6⟩ : ∃ W6, ((W5.setCell ⟨g, p * 4, none⟩ (.int .i64 (p : Int))).setCell ⟨g, p * 4 + 1, none⟩ (.int .i64 ((S.life p : Int) + 1))).setCell ⟨g, p * 4 + 2, none⟩ (.bool true) = W6 := ⟨_, rfl⟩
  rw [hW6] at H5 ⊢
  clear hW6 x0 x1 x2 x3 gf s0 s1 H4
  obtain ⟨-, -, -, c3, -, -, cf⟩ := ownS_cells H5.out.own
  have hw1 := HW1.out
  go_upto_region 10 with fail
  have H6 := Lib.hid (H5.out.count (cnt n S.tk + 1))
  have ec : ((cnt n S.tk + 1 : Nat) : Int) = (cnt n S.tk : Int) + 1 := by omega
  rw [ec] at H6
  obtain ⟨W7, hW7⟩ : ∃ W7, W6.setCell ⟨q, 3, none⟩ (.int .i64 ((cnt n S.tk : Int) + 1)) = W7 := ⟨_, rfl⟩
  rw [hW7] at H6 ⊢
  clear hW7 c3 cf hw1 H5 ec
  obtain ⟨s0, s1⟩ := H6.out.new
  obtain ⟨r0, r1, rf⟩ := H6.out.old
  go_wp2_with fail
  have HH := H6.out
  have HTo := HT.out
  have hlk := HTo.links
  rw [HF.out] at hlk
  refine bodyPost_ret (v := .tuple #[.agg #[.int .i64 (p : Int), .int .i64 ((S.life p : Int) + 1)], .int .i64 0]) (by simp [results, Tryz.results63, go_sem, r0, r1]) rfl ⟨by simp, ⟨nx, nx p, ?_⟩, ?_⟩
  · refine ⟨?_, ?_, hlk.2, HTo.ok.take HF.out, HTo.ne, HTo.lim⟩
    · rw [HTo.ok.cnt_take HF.out, HTo.ok.worn_take HF.out]
      exact (heap_setO _ _ _ (Ne.symm HH.ne.2.1)).trans ((heap_setO _ _ _ (Ne.symm HH.ne.2.1)).trans HH.own)
    · exact HH.row.keep ((heap_setO _ _ _ (Ne.symm HH.ne.2.2.1)).trans (heap_setO _ _ _ (Ne.symm HH.ne.2.2.1)))
  · exact (HH.off.set (.inr (Nat.le_refl _)) _ _).set (.inr (Nat.le_refl _)) _ _
end
/-- HOW Give STANDS. -/
structure GvAt (w W : World) (q g n k : Nat) (S : Tb) (nx : Nat → Int) (f : Int) (t wo : Nat) (b p L : Nat) : Prop where
  own : W.heap[q]? = some (ownS g n k f t wo)
  row : SRow W g n S nx
  ref : W.heap[b]? = some (.cells #[.int .i64 (p : Int), .int .i64 (L : Int)] 94 (0, 0))
  ne : b ≠ q ∧ b ≠ g ∧ q ≠ g
  off : Off (Q2 q g) w W
section
variable {w W : World} {q g n k : Nat} {S : Tb} {nx : Nat → Int} {f : Int} {t wo b p L : Nat}
theorem GvAt.drewN (h : GvAt w W q g n k S nx f t wo b p L) (m : Nat) : GvAt w (W.drewN m) q g n k S nx f t wo b p L :=
  ⟨h.own, h.row.keep rfl, h.ref, h.ne, ⟨h.off.os, h.off.tape, h.off.output, h.off.size, h.off.block⟩⟩
theorem GvAt.drew (h : GvAt w W q g n k S nx f t wo b p L) : GvAt w W.drew q g n k S nx f t wo b p L :=
  ⟨h.own, h.row.keep rfl, h.ref, h.ne, ⟨h.off.os, h.off.tape, h.off.output, h.off.size, h.off.block⟩⟩
theorem GvAt.below (h : GvAt w W q g n k S nx f t wo b p L) {W' : World} (hb : Below W.heap.size W W') : GvAt w W' q g n k S nx f t wo b p L :=
  ⟨(hb.block _ (Array.getElem?_eq_some_iff.1 h.own).1).trans h.own, h.row.keep (hb.block _ h.row.lt), (hb.block _ (Array.getElem?_eq_some_iff.1 h.ref).1).trans h.ref, h.ne, h.off.to ((Off.of_below hb))⟩
theorem GvAt.new (h : GvAt w W q g n k S nx f t wo b p L) : W.cell? ⟨b, 0, none⟩ = some (.int .i64 (p : Int)) ∧ W.cell? ⟨b, 1, none⟩ = some (.int .i64 (L : Int)) := ⟨by simp [World.cell?, h.ref], by simp [World.cell?, h.ref]⟩
theorem GvAt.mark (h : GvAt w W q g n k S nx f t wo b p L) (hp : p < n) (l : List Nat) : GvAt w (W.setCell ⟨g, p * 4 + 2, none⟩ (.bool false)) q g n k ⟨S.life, fun r => if r = p then false else S.tk r, l⟩ nx f t wo b p L :=
  ⟨(heap_setO _ _ _ h.ne.2.2).trans h.own, h.row.mark hp false l, (heap_setO _ _ _ h.ne.2.1).trans h.ref, h.ne, h.off.set (.inl (.inr rfl)) _ _⟩
theorem GvAt.count (h : GvAt w W q g n k S nx f t wo b p L) (t' : Nat) : GvAt w (W.setCell ⟨q, 3, none⟩ (.int .i64 (t' : Int))) q g n k S nx f t' wo b p L :=
  ⟨ownS_taken h.own t', h.row.keep (heap_setO _ _ _ (Ne.symm h.ne.2.2)), (heap_setO _ _ _ h.ne.1).trans h.ref, h.ne, h.off.set (.inl (.inl rfl)) _ _⟩
theorem GvAt.worn (h : GvAt w W q g n k S nx f t wo b p L) (t' : Nat) : GvAt w (W.setCell ⟨q, 4, none⟩ (.int .i64 (t' : Int))) q g n k S nx f t t' b p L :=
  ⟨ownS_worn h.own t', h.row.keep (heap_setO _ _ _ (Ne.symm h.ne.2.2)), (heap_setO _ _ _ h.ne.1).trans h.ref, h.ne, h.off.set (.inl (.inl rfl)) _ _⟩
end
section
variable {w : World} {q g n k : Nat} {S : Tb}
set_option maxHeartbeats 2000000 in
theorem give_no (h : TA w q g n k S) (P L : Int) (hl : liveT n S P L = false) :
    Calls Tryz.prog 71 #[.pointer (some ⟨q, 0, none⟩), .agg #[.int .i64 P, .int .i64 L]] w fun e w' => e = .returned (.int .i64 90) ∧ Below w.heap.size w w' := by
  have h1 := h.below (below_ref w P L)
  have HI := Lib.hid (by obtain ⟨nx, f, h2⟩ := h1.ex; exact is_calls h2.own)
  have HL := Lib.hid (live_calls h1 P L)
  rw [hl] at HL
  clear h h1 hl
  go_enter Tryz.func71, Tryz.ntmps71
  go_wp2_with (first
    | (go_at_call 79; refine HI.out.mono ?_; rintro e w' ⟨rfl, rfl⟩)
    | (go_at_call 90; refine HL.out.mono ?_; rintro e w2 ⟨rfl, hb2⟩; have HB2 := Lib.hid hb2; clear hb2)
    | fail)
  go_ret
  exact ⟨rfl, (below_ref w P L).trans (HB2.out.mono (by simp))⟩
set_option maxHeartbeats 4000000 in
theorem give_yes (h : TA w q g n k S) {p : Nat} (hp : p < n) (ht : S.tk p = true) :
    Calls Tryz.prog 71 #[.pointer (some ⟨q, 0, none⟩), .agg #[.int .i64 (p : Int), .int .i64 (S.life p : Int)]] w fun e w' => e = .returned (.int .i64 0) ∧ TStep w w' q g n k (giveT k S p) := by
  have mixed : Tryz.prog.follows .mixedOrders = true := by kernel_rfl
  obtain ⟨nx, f, htb⟩ := h.ex
  have h1 := h.below (below_ref w p (S.life p))
  have HI := Lib.hid (is_calls (htb.below (below_ref w p (S.life p))).own)
  have HL := Lib.hid (live_calls h1 p (S.life p))
  rw [liveT_nat hp, ht] at HL
  have hd : (true && decide ((S.life p : Int) = (S.life p : Int))) = true := by simp
  rw [hd] at HL
  have HT := Lib.hid htb
  have HP := Lib.hid hp
  have HK := Lib.hid ht
  have hp2 : (p : Int) < (n : Int) := by omega
  clear h h1 hd hp ht htb
  go_enter Tryz.func71, Tryz.ntmps71
  go_upto_region 5 with (first
    | (go_at_call 79; refine HI.out.mono ?_; rintro e w' ⟨rfl, rfl⟩)
    | (go_at_call 90; refine HL.out.mono ?_; rintro e w2 ⟨rfl, hb2⟩; have HB2 := Lib.hid hb2; clear hb2)
    | fail)
  have h0 : GvAt w w2 q g n k S nx f (cnt n S.tk) (cnt n (wornF k S)) w.heap.size p (S.life p) := by
    have hlt := HT.out.lt
    have hb := (below_ref w p (S.life p)).trans (HB2.out.mono (by simp))
    have t2 := HT.out.below hb
    exact ⟨t2.own, t2.row, (HB2.out.block _ (by simp)).trans (World.alloc_heap_new w _), ⟨by omega, by omega, HT.out.ne⟩, Off.of_below hb⟩
  have H0 := Lib.hid h0
  clear h0
  obtain ⟨c0, -⟩ := ownS_cells H0.out.own
  obtain ⟨-, -, x2, -⟩ := H0.out.row.cell p HP.out
  have gf := H0.out.row.frozen
  have s0 := H0.out.new.1
  go_cut [] from 14 to 21 (fun wx => GvAt w wx q g n k ⟨S.life, fun r => if r = p then false else S.tk r, S.free⟩ nx f (cnt n S.tk) (cnt n (wornF k S)) w.heap.size p (S.life p))
  case first =>
    go_region
    all_goals
      go_wp2_with fail
      go_meet
      exact (H0.out.mark HP.out S.free).drew
  case rest =>
    have H1 := Lib.hid hcut
    clear hcut H0 c0 x2 gf s0
    have hlim := HT.out.lim
    have hcl : cnt n S.tk ≤ n := cnt_le _ _
    have hwl : cnt n (wornF k S) ≤ n := cnt_le _ _
    obtain ⟨c', hc'⟩ : ∃ c', cnt n (giveT k S p).tk = c' := ⟨_, rfl⟩
    have hcg := cnt_give (k := k) HP.out HK.out
    rw [hc'] at hcg
    have HC := Lib.hid hc'
    have hw1 : IntKind.i64.wrap ((cnt n S.tk : Int) - 1) = (c' : Int) := by rw [IntKind.wrap_i64]; omega
    obtain ⟨wo, hwo⟩ : ∃ wo, cnt n (wornF k S) = wo := ⟨_, rfl⟩
    have HWo := Lib.hid hwo
    rw [hwo] at H1 hwl
    have hw2 : IntKind.i64.wrap ((wo : Int) + 1) = (wo : Int) + 1 := by rw [IntKind.wrap_i64]; omega
    have hle := HT.out.ok.le p HP.out
    clear hc' hwo hcl hwl hcg
    obtain ⟨-, -, -, c3, -, -, cf⟩ := ownS_cells H1.out.own
    go_upto_region 7 with fail
    have H2 := Lib.hid (H1.out.count c')
    obtain ⟨W3, hW3⟩ : ∃ W3, wc.setCell ⟨q, 3, none⟩ (.int .i64 (c' : Int)) = W3 := ⟨_, rfl⟩
    rw [hW3] at H2 ⊢
    clear hW3 c3 cf H1 hw1
    obtain ⟨-, -, c2, -⟩ := ownS_cells H2.out.own
    obtain ⟨s0, s1⟩ := H2.out.new
    by_cases hk : S.life p = k
    · have hd : ((S.life p : Int) == (k : Int)) = true := by simp [hk]
      have HKk := Lib.hid hk
      clear hk hlim hle
      go_quiet (fail)
      have H3 := Lib.hid (H2.out.drewN nq)
      obtain ⟨W4, hW4⟩ : ∃ W4, W3.drewN nq = W4 := ⟨_, rfl⟩
      rw [hW4] at H3 ⊢
      clear hW4 c2 s0 s1 H2
      obtain ⟨-, -, -, -, c4, -, cf⟩ := ownS_cells H3.out.own
      go_wp2_with fail
      go_ret
      have H4 := H3.out.worn (wo + 1)
      have ew : ((wo + 1 : Nat) : Int) = (wo : Int) + 1 := by omega
      rw [ew] at H4
      have e1 : giveT k S p = ⟨S.life, fun r => if r = p then false else S.tk r, S.free⟩ := by unfold giveT; rw [if_pos HKk.out]
      refine ⟨rfl, ⟨nx, f, ?_, ?_, ?_, HT.out.ok.give HP.out HK.out, HT.out.ne, HT.out.lim⟩, H4.off⟩
      · rw [HC.out, worn_give HP.out HK.out, if_pos HKk.out, HWo.out]
        exact H4.own
      · rw [e1]; exact H4.row
      · rw [e1]; exact HT.out.links
    · have hd : ((S.life p : Int) == (k : Int)) = false := by rw [beq_eq_false_iff_ne]; omega
      have HKk := Lib.hid hk
      clear hk hlim hle hw2
      go_quiet (fail)
      have H3 := Lib.hid (H2.out.drewN nq)
      obtain ⟨W4, hW4⟩ : ∃ W4, W3.drewN nq = W4 := ⟨_, rfl⟩
      rw [hW4] at H3 ⊢
      clear hW4 c2 s0 s1 H2
      have s0 := H3.out.new.1
      have HLk := Lib.hid (link_raw H3.out.own H3.out.row H3.out.ne.2.2 p HP.out)
      go_wp2_with (first | (go_at_call 76; refine HLk.out.mono ?_; rintro e w5 ⟨rfl, g1, g2, g3⟩; have G1 := Lib.hid g1; have G2 := Lib.hid g2; have G3 := Lib.hid g3; clear g1 g2 g3) | fail)
      go_ret
      have e1 : giveT k S p = ⟨S.life, fun r => if r = p then false else S.tk r, p :: S.free⟩ := by unfold giveT; rw [if_neg HKk.out]
      have hnf := HT.out.ok.notfree HK.out
      refine ⟨rfl, ⟨fun r => if r = p then f else nx r, (p : Int), ?_, ?_, ?_, HT.out.ok.give HP.out HK.out, HT.out.ne, HT.out.lim⟩, H3.out.off.to G3.out⟩
      · rw [HC.out, worn_give HP.out HK.out, if_neg HKk.out, HWo.out]
        exact G1.out
      · rw [e1]; exact ⟨G2.out.blk, G2.out.cell⟩
      · rw [e1]; exact HT.out.links.put hnf
end
end Go.Proofs.YtcjkeobjojmpfaaGreat.Sl
end
