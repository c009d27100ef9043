/-
  CONTRACTS of slots' free, Next, Take.
-/
import Derived.Test.YtecbpohkbniadaaGreatSlotsB
namespace Go.Proofs.YtecbpohkbniadaaGreat.Sl
open Go.RowKit

attribute [local go_sem] Oper.semAt_some

set_option maxHeartbeats 1000000 in
theorem free_calls (q : Nat) (w : World) :
    Calls Tryz.prog 130 #[.pointer (some ⟨q, 0, none⟩)] w fun e w' => e = .returned (.func (.func 145) #[] #[.pointer (some ⟨w.heap.size, 0, none⟩)]) ∧ w' = w.alloc (.cells #[.pointer (some ⟨q, 0, none⟩)] 83) := by
  go_enter Tryz.func130, Tryz.ntmps130
  go_wp2
  go_ret
  exact ⟨rfl, rfl⟩
/-- What the iterator reads. -/
structure FreeAt (Bt q g n k : Nat) (S : Tb) (nx : Nat → Int) (f : Int) (W : World) : Prop where
  box : Boxed W Bt 83 (.pointer (some ⟨q, 0, none⟩))
  tb : TB W q g n k S nx f
theorem FreeAt.keep {Bt q g n k : Nat} {S : Tb} {nx : Nat → Int} {f : Int} {W W' : World} (h : FreeAt Bt q g n k S nx f W) (hc : KeepsCells W W') : FreeAt Bt q g n k S nx f W' := by
  obtain ⟨cur, hcu, _⟩ := h.tb.row.blk
  exact ⟨hc _ _ h.box rfl, h.tb.keep ((hc _ _ h.tb.own rfl).trans h.tb.own.symm) ((hc _ _ hcu rfl).trans hcu.symm)⟩
theorem FreeAt.same {Bt q g n k : Nat} {S : Tb} {nx : Nat → Int} {f : Int} {W W' : World} (h : FreeAt Bt q g n k S nx f W) (e : ∀ j, j = Bt ∨ j = q ∨ j = g → W'.heap[j]? = W.heap[j]?) : FreeAt Bt q g n k S nx f W' :=
  ⟨(e _ (.inl rfl)).trans h.box, h.tb.keep (e _ (.inr (.inl rfl))) (e _ (.inr (.inr rfl)))⟩
set_option maxRecDepth 100000 in
set_option maxHeartbeats 2000000 in
theorem free1_kept (r : Nat) (hr : 1 ≤ r) (Bt q g n k : Nat) (S : Tb) (nx : Nat → Int) (f : Int) :
    SeqKeptK Fence.wide r Tryz.prog 145 #[.pointer (some ⟨Bt, 0, none⟩)] (fun j => #[.int .i64 (fq S.free j : Nat)]) S.free.length (fun _ => FreeAt Bt q g n k S nx f) := by
  intro l J Jx W hJA hJx hSt hY h0
  have hY0 := Lib.hid hY
  have hJ0 := Lib.hid hJA
  have hS0 := Lib.hid hSt
  have HJ00 := Lib.hid h0
  have k1 := hSt 0 W h0
  have c1 := k1.box.cell
  obtain ⟨-, c2, -⟩ := ownS_cells k1.tb.own
  have HLk := Lib.hid k1.tb.links
  have HNd := Lib.hid k1.tb.ok.nodup
  have HMm := Lib.hid k1.tb.ok.mem
  clear hY hJA hJx hSt h0 k1
  refine callsIn_of_wp Tryz.func145 rfl trivial ?_ rfl
  simp only [Tryz.ntmps145, List.size_toArray, List.length_cons, List.length_nil, Nat.reduceAdd, Nat.reduceSub, Array.replicate_succ, Array.replicate_zero, List.push_toArray, List.append_toArray, List.nil_append, List.cons_append]
  gi_wp2
  gi_loopw [3] (fun jv wr => ∃ (j : Nat) (i : Int), j ≤ S.free.length ∧ jv = .int .i64 i ∧ Links nx i (S.free.drop j) ∧ J j wr) (fun jv _ => after (intOf jv) S.free)
  case atStart => exact ⟨0, f, Nat.zero_le _, rfl, HLk.out, HJ00.out⟩
  case round =>
    obtain ⟨j, i, hj, rfl, hl, hJ⟩ := hrel
    have HJ := Lib.hid hJ
    have k1 := hS0.out j wr hJ
    have c3 := k1.box.cell
    obtain ⟨c4, -⟩ := ownS_cells k1.tb.own
    have HAf := Lib.hid (after_links HNd.out hl)
    clear hJ c1 c2
    by_cases hlt : j < S.free.length
    · rw [drop_get hlt] at hl
      obtain ⟨p, hp⟩ : ∃ p, fq S.free j = p := ⟨_, rfl⟩
      have hpm : p ∈ S.free := by
        rw [← hp, fq, List.getD_eq_getElem?_getD, List.getElem?_eq_getElem hlt]; exact List.getElem_mem hlt
      have hpn := ((HMm.out p).1 hpm).1
      change Links nx i (fq S.free j :: _) at hl
      rw [hp] at hl
      obtain ⟨rfl, hl2⟩ := hl
      have e1 : ((p : Int) != -1) = true := by rw [bne_iff_ne]; omega
      obtain ⟨fn, tmps, assign, body, hy, hR⟩ := hY0.out j _ hlt HJ.out
      rw [hp] at hy
      have HR := Lib.hid hR
      have HL2 := Lib.hid hl2
      clear hR hl2 k1 c3 c4 hpm hp
      gi_wp2_with fail
      refine HR.out.mono ?_
      rintro e W3 (⟨rfl, hJ3⟩ | ⟨rfl, hJx3⟩)
      · have k1 := hS0.out (j + 1) W3 hJ3
        have HJ3 := Lib.hid hJ3
        have c3 := k1.box.cell
        obtain ⟨c4, -⟩ := ownS_cells k1.tb.own
        obtain ⟨-, -, -, x3⟩ := k1.tb.row.cell p hpn
        have hp2 : (p : Int) < (n : Int) := by omega
        have HAf2 := Lib.hid (after_links HNd.out HL2.out)
        clear hJ3 k1
        gi_wp2
        go_roundw
        case rel => exact ⟨j + 1, _, hlt, rfl, HL2.out, HJ3.out⟩
        case measure =>
          simp only [intOf]
          rw [HAf2.out, HAf.out]
          simp only [List.length_drop]
          omega
      · gi_wp2
        refine bodyPost_ret (results_none rfl _ _ _) rfl ?_
        exact ⟨⟨_, rfl⟩, .inr ⟨j, hlt, hJx3⟩⟩
    · obtain rfl : j = S.free.length := by omega
      rw [List.drop_length] at hl
      obtain rfl : i = -1 := hl
      clear k1 hlt
      gi_wp2
      refine bodyPost_end (results_none rfl _ _ _) rfl ?_
      exact ⟨⟨_, rfl⟩, .inl HJ.out⟩
/-- What Next tells. -/
def nextP (S : Tb) : Nat := S.free.headD 0
def nextL (S : Tb) : Nat := match S.free with | [] => 0 | p :: _ => S.life p + 1
def nextB (S : Tb) : Bool := !S.free.isEmpty
/-- How Next's loop stands. -/
structure NextAt (w W : World) (bt b2 q g n k : Nat) (S : Tb) (nx : Nat → Int) (f : Int) (P L : Int) (B : Bool) : Prop where
  fa : FreeAt bt q g n k S nx f W
  sb : Boxed W w.heap.size 83 (.pointer (some ⟨q, 0, none⟩))
  r2 : W.heap[b2]? = some (.cells #[.int .i64 P, .int .i64 L] 108 (0, 0))
  r3 : Boxed W (b2 + 1) 4 (.bool B)
  bel : Below w.heap.size w W
theorem NextAt.keep {w W W' : World} {bt b2 q g n k : Nat} {S : Tb} {nx : Nat → Int} {f P L : Int} {B : Bool} (h : NextAt w W bt b2 q g n k S nx f P L B) (hc : KeepsCells W W') (hb : Below w.heap.size w W') : NextAt w W' bt b2 q g n k S nx f P L B :=
  ⟨h.fa.keep hc, hc _ _ h.sb rfl, hc _ _ h.r2 rfl, hc _ _ h.r3 rfl, hb⟩
set_option maxRecDepth 100000 in
set_option maxHeartbeats 4000000 in
theorem next_in (r : Nat) (hr : 5 ≤ r) {w : World} {q g n k : Nat} {S : Tb} (h : TA w q g n k S) :
    CallsIn Fence.wide r Tryz.prog 104 #[.pointer (some ⟨q, 0, none⟩)] w fun e w' => e = .returned (.tuple #[.agg #[.int .i64 (nextP S : Int), .int .i64 (nextL S : Int)], .bool (nextB S)]) ∧ Below w.heap.size w w' := by
  have hB0 : Below w.heap.size w (((w.alloc (.cells #[.pointer (some ⟨q, 0, none⟩)] 83)).alloc (.cells #[.int .i64 0, .int .i64 0] 108)).alloc (.cells #[.bool false] 4)) := (((Below.refl _ w).alloc (Nat.le_refl _) _).alloc (by simp) _).alloc (by simp; omega) _
  obtain ⟨nx, f, h1⟩ := (h.below hB0).ex
  have HI := Lib.hid (is_calls h1.own)
  have HH := Lib.hid h
  have HB0 := Lib.hid hB0
  have HT := Lib.hid h1
  clear h h1 hB0
  refine callsIn_of_wp_marks Tryz.func104 rfl trivial ?_ rfl
  simp only [Tryz.ntmps104, List.size_toArray, List.length_cons, List.length_nil, Nat.reduceAdd, Nat.reduceSub, Array.replicate_succ, Array.replicate_zero, List.push_toArray, List.append_toArray, List.nil_append, List.cons_append]
  gi_wp2_with fail
  refine ⟨trivial, (by intro _; omega), (callsIn_wide.2 HI.out).mono ?_⟩
  rintro e w3 ⟨rfl, rfl⟩
  gi_wp2_with fail
  refine ⟨trivial, (by intro _; omega), (callsIn_wide.2 (free_calls _ _)).mono ?_⟩
  rintro e w4 ⟨rfl, rfl⟩
  obtain ⟨W0, hW0⟩ : ∃ W0, W0 = (((w.alloc (.cells #[.pointer (some ⟨q, 0, none⟩)] 83)).alloc (.cells #[.int .i64 0, .int .i64 0] 108)).alloc (.cells #[.bool false] 4)).alloc (.cells #[.pointer (some ⟨q, 0, none⟩)] 83) := ⟨_, rfl⟩
  have hsz : W0.heap.size = w.heap.size + 1 + 1 + 1 + 1 := by rw [hW0]; simp
  have hbl : Below w.heap.size w W0 := by rw [hW0]; exact HB0.out.alloc (by simp; omega) _
  have h0 : NextAt w W0 (w.heap.size + 1 + 1 + 1) (w.heap.size + 1) q g n k S nx f 0 0 false := by
    refine ⟨⟨?_, ?_⟩, ?_, ?_, ?_, hbl⟩
    · have := Boxed.new (((w.alloc (.cells #[.pointer (some ⟨q, 0, none⟩)] 83)).alloc (.cells #[.int .i64 0, .int .i64 0] 108)).alloc (.cells #[.bool false] 4)) 83 (.pointer (some ⟨q, 0, none⟩))
      rw [hW0]
      simpa only [World.size_alloc] using this
    · rw [hW0]
      exact HT.out.keep (Below.heap_alloc _ _ _ HT.out.lt.1) (Below.heap_alloc _ _ _ HT.out.lt.2)
    · rw [hW0]
      exact (((Boxed.new w 83 (.pointer (some ⟨q, 0, none⟩))).alloc _).alloc _).alloc _
    · rw [hW0]
      have := World.alloc_heap_new (w.alloc (.cells #[.pointer (some ⟨q, 0, none⟩)] 83)) (.cells #[.int .i64 0, .int .i64 0] 108)
      rw [World.size_alloc] at this
      exact (Below.heap_alloc _ _ _ (by simp)).trans ((Below.heap_alloc _ _ _ (by simp)).trans this)
    · rw [hW0]
      have := (Boxed.new ((w.alloc (.cells #[.pointer (some ⟨q, 0, none⟩)] 83)).alloc (.cells #[.int .i64 0, .int .i64 0] 108)) 4 (.bool false)).alloc (.cells #[.pointer (some ⟨q, 0, none⟩)] 83)
      simpa only [World.size_alloc] using this
  have H0 := Lib.hid h0
  have HS := Lib.hid hsz
  gi_wp2_with fail
  rw [← hW0]
  clear hW0 h0 hsz hbl
  refine wpIn_rangeKeptK (encs := fun j => #[.int .i64 (fq S.free j : Nat)]) (N := S.free.length) (St := fun _ => FreeAt (w.heap.size + 1 + 1 + 1) q g n k S nx f) rfl (by omega) (gf := 145) (lb := #[.pointer (some ⟨w.heap.size + 1 + 1 + 1, 0, none⟩)]) rfl trivial (enters_of Tryz.func145 (by kernel_rfl) rfl)
    (free1_kept (r - 1) (by omega) _ q g n k S nx f)
    (fun _ => rfl)
    (fun j W => j = 0 ∧ NextAt w W (w.heap.size + 1 + 1 + 1) (w.heap.size + 1) q g n k S nx f 0 0 false)
    (fun c j W => c = .ret ∧ NextAt w W (w.heap.size + 1 + 1 + 1) (w.heap.size + 1) q g n k S nx f (nextP S : Int) (nextL S : Int) true)
    (fun j W h => h.2.fa)
    (ownFrom_cells _ (fun j W W' hI hc hb => ⟨hI.1, hI.2.keep hc (hI.2.bel.trans (hb.mono (by rw [HS.out]; omega)))⟩) (fun j W hI => by rw [HS.out]; exact hI.2.fa.box.lt))
    (fun c => ownFrom_cells _ (fun j W W' hI hc hb => ⟨hI.1, hI.2.keep hc (hI.2.bel.trans (hb.mono (by rw [HS.out]; omega)))⟩) (fun j W hI => by rw [HS.out]; exact hI.2.fa.box.lt))
    ⟨rfl, H0.out⟩
    (fun j a' _ => a' = { tmps := #[.pointer (some ⟨q, 0, none⟩), .pointer (some ⟨w.heap.size, 0, none⟩), .pointer (some ⟨w.heap.size + 1, 0, none⟩), .pointer (some ⟨w.heap.size + 1 + 1, 0, none⟩), .int .i64 (fq S.free j : Nat), .pointer (some ⟨q, 0, none⟩), .bool true, .bool false, undef, .pointer (some ⟨q, 0, none⟩), .func (.func 145) #[] #[.pointer (some ⟨w.heap.size + 1 + 1 + 1, 0, none⟩)], .int .i64 (fq S.free j : Nat), undef, undef, undef, undef, undef, undef, undef, undef, undef, undef, undef, undef, undef], defers := [] })
    (fun j a' => ownFrom_pure _ _) ?assign ?body ?done ?stop
  case assign =>
    intro l j W K hk hI hK
    have HIJ := Lib.hid hI
    clear hI
    gi_wp2
    exact hK _ _ (KeepsFrom.refl _ _) HIJ.out rfl
  case body =>
    rintro l j a' W hk ⟨rfl, hI⟩ rfl
    have HNx := Lib.hid hI
    have cb := hI.sb.cell
    obtain ⟨c4, -⟩ := ownS_cells hI.fa.tb.own
    obtain ⟨p, rest, hp⟩ : ∃ p rest, S.free = p :: rest := by
      cases e : S.free with
      | nil => rw [e] at hk; simp at hk
      | cons p rest => exact ⟨p, rest, rfl⟩
    have hpn := hI.fa.tb.ok.head hp
    obtain ⟨-, x1, -, -⟩ := hI.fa.tb.row.cell p hpn.1
    have hp2 : (p : Int) < (n : Int) := by omega
    have r0 : W.cell? ⟨w.heap.size + 1, 0, none⟩ = some (.int .i64 0) := by simp [World.cell?, hI.r2]
    have r1 : W.cell? ⟨w.heap.size + 1, 1, none⟩ = some (.int .i64 0) := by simp [World.cell?, hI.r2]
    have rf : ∀ i, W.frozen? ⟨w.heap.size + 1, i, none⟩ = false := fun i => by simp [World.frozen?, hI.r2]
    have r3 := hI.r3.cell
    have rg := hI.r3.frozen
    have hlim := hI.fa.tb.lim
    have hw1 : IntKind.i64.wrap ((S.life p : Int) + 1) = (S.life p : Int) + 1 := by rw [IntKind.wrap_i64]; omega
    have hg : fq S.free 0 = p := by rw [hp]; rfl
    have HP := Lib.hid (show nextP S = p ∧ nextL S = S.life p + 1 by unfold nextP nextL; rw [hp]; exact ⟨rfl, rfl⟩)
    rw [hg]
    clear hI hk hg hp hpn hlim
    generalize S.life p = L at *
    gi_wp2_with fail
    have hI := HNx.out
    obtain ⟨hp0, hp1⟩ := HP.out
    have hlt := HH.out.lt
    have hX : NextAt w (((W.setCell ⟨w.heap.size + 1, 0, none⟩ (.int .i64 (p : Int))).setCell ⟨w.heap.size + 1, 1, none⟩ (.int .i64 ((L : Int) + 1))).setCell ⟨w.heap.size + 1 + 1, 0, none⟩ (.bool true)) (w.heap.size + 1 + 1 + 1) (w.heap.size + 1) q g n k S nx f (nextP S : Int) (nextL S : Int) true := by
      refine ⟨hI.fa.same fun j hj => ?_, ?_, ?_, ?_, ?_⟩
      · rw [heap_setO _ _ _ (by omega), heap_setO _ _ _ (by omega), heap_setO _ _ _ (by omega)]
      · exact (heap_setO _ _ _ (by omega)).trans ((heap_setO _ _ _ (by omega)).trans ((heap_setO _ _ _ (by omega)).trans hI.sb))
      · refine (heap_setO _ _ _ (by omega)).trans ?_
        have := heap_setC (heap_setC hI.r2 0 (.int .i64 (p : Int))) 1 (.int .i64 ((L : Int) + 1))
        rw [hp0, hp1]
        simpa using this
      · have e : ((W.setCell ⟨w.heap.size + 1, 0, none⟩ (.int .i64 (p : Int))).setCell ⟨w.heap.size + 1, 1, none⟩ (.int .i64 ((L : Int) + 1))).heap[w.heap.size + 1 + 1]? = some (.cells #[.bool false] 4 (0, 0)) := (heap_setO _ _ _ (by omega)).trans ((heap_setO _ _ _ (by omega)).trans hI.r3)
        have := heap_setC e 0 (.bool true)
        have h2 : (((W.setCell ⟨w.heap.size + 1, 0, none⟩ (.int .i64 (p : Int))).setCell ⟨w.heap.size + 1, 1, none⟩ (.int .i64 ((L : Int) + 1))).setCell ⟨w.heap.size + 1 + 1, 0, none⟩ (.bool true)).heap[w.heap.size + 1 + 1]? = some (.cells #[.bool true] 4 (0, 0)) := by simpa using this
        exact h2
      · have o1 := ((((Off.refl (fun j => w.heap.size ≤ j) W).set (b := w.heap.size + 1) (.inl (by show _ ≤ _; omega)) 0 (.int .i64 (p : Int))).set (b := w.heap.size + 1) (.inl (by show _ ≤ _; omega)) 1 (.int .i64 ((L : Int) + 1))).set (b := w.heap.size + 1 + 1) (.inl (by show _ ≤ _; omega)) 0 (.bool true))
        exact hI.bel.trans (o1.below (fun j hj => hj) hI.bel.size)
    exact ⟨((((KeepsOthers.setCell _ _ _).trans (KeepsOthers.setCell _ _ _)).trans (KeepsOthers.setCell _ _ _)).from _), rfl, hX⟩
  case done =>
    rintro D W hD ⟨hz, hI⟩ hK
    have HNx := Lib.hid hI; have HK := Lib.hid hK; have HDD := Lib.hid hD; have HZ := Lib.hid hz
    have r0 : W.cell? ⟨w.heap.size + 1, 0, none⟩ = some (.int .i64 0) := by simp [World.cell?, hI.r2]
    have r1 : W.cell? ⟨w.heap.size + 1, 1, none⟩ = some (.int .i64 0) := by simp [World.cell?, hI.r2]
    have rf : ∀ i, W.frozen? ⟨w.heap.size + 1, i, none⟩ = false := fun i => by simp [World.frozen?, hI.r2]
    have r3 := hI.r3.cell
    have rg := hI.r3.frozen
    clear hI hK hD hz
    gi_wp2_with fail
    have hI := HNx.out
    have hS0 : S.free = [] := List.eq_nil_of_length_eq_zero HZ.out
    have hP : nextP S = 0 ∧ nextL S = 0 ∧ nextB S = false := by unfold nextP nextL nextB; rw [hS0]; exact ⟨rfl, rfl, rfl⟩
    obtain ⟨X, hX⟩ : ∃ X, X = ((W.setCell ⟨w.heap.size + 1, 0, none⟩ (.int .i64 0)).setCell ⟨w.heap.size + 1, 1, none⟩ (.int .i64 0)).setCell ⟨w.heap.size + 1 + 1, 0, none⟩ (.bool false) := ⟨_, rfl⟩
    rw [← hX]
    have hsw0 := HS.out
    have hDD0 := HDD.out
    have HX2 := Lib.hid (show X.heap[w.heap.size + 1]? = some (.cells #[.int .i64 (nextP S : Int), .int .i64 (nextL S : Int)] 108 (0, 0)) by
      rw [hX]
      refine (heap_setO _ _ _ (by omega)).trans ?_
      have := heap_setC (heap_setC hI.r2 0 (.int .i64 0)) 1 (.int .i64 0)
      rw [hP.1, hP.2.1]
      simpa using this)
    have HX3 := Lib.hid (show X.heap[w.heap.size + 1 + 1]? = some (.cells #[.bool (nextB S)] 4 (0, 0)) by
      rw [hX]
      have e : ((W.setCell ⟨w.heap.size + 1, 0, none⟩ (.int .i64 0)).setCell ⟨w.heap.size + 1, 1, none⟩ (.int .i64 0)).heap[w.heap.size + 1 + 1]? = some (.cells #[.bool false] 4 (0, 0)) := (heap_setO _ _ _ (by omega)).trans ((heap_setO _ _ _ (by omega)).trans hI.r3)
      have := heap_setC e 0 (.bool false)
      rw [hP.2.2]
      simpa using this)
    have HKX := Lib.hid (show X.heap[D]? = some (.deferred (some [])) by rw [hX]; exact (heap_setO _ _ _ (by omega)).trans ((heap_setO _ _ _ (by omega)).trans ((heap_setO _ _ _ (by omega)).trans HK.out)))
    have HXB := Lib.hid (show Below w.heap.size w X by
      rw [hX]
      have o1 := ((((Off.refl (fun j => w.heap.size ≤ j) W).set (b := w.heap.size + 1) (.inl (by show _ ≤ _; omega)) 0 (.int .i64 0)).set (b := w.heap.size + 1) (.inl (by show _ ≤ _; omega)) 1 (.int .i64 0)).set (b := w.heap.size + 1 + 1) (.inl (by show _ ≤ _; omega)) 0 (.bool false))
      exact hI.bel.trans (o1.below (fun j hj => hj) hI.bel.size))
    clear hX hI
    obtain ⟨V, hV⟩ : ∃ V, V = X.putObj D (.deferred none) := ⟨_, rfl⟩
    have hKX := HKX.out
    refine ⟨by simp, .inl ⟨_, _, rfl, run_takeDeferred hKX, ?_⟩⟩
    rw [← hV]
    have hsw := HS.out
    have hDD := HDD.out
    have s2 : V.heap[w.heap.size + 1]? = X.heap[w.heap.size + 1]? := by rw [hV]; exact World.putObj_heap_other (by omega)
    have s3 : V.heap[w.heap.size + 1 + 1]? = X.heap[w.heap.size + 1 + 1]? := by rw [hV]; exact World.putObj_heap_other (by omega)
    have c0 : V.cell? ⟨w.heap.size + 1, 0, none⟩ = some (.int .i64 (nextP S : Int)) := by simp [World.cell?, s2, HX2.out]
    have c1 : V.cell? ⟨w.heap.size + 1, 1, none⟩ = some (.int .i64 (nextL S : Int)) := by simp [World.cell?, s2, HX2.out]
    have c2 : V.cell? ⟨w.heap.size + 1 + 1, 0, none⟩ = some (.bool (nextB S)) := by simp [World.cell?, s3, HX3.out]
    have hO : Off (fun j => w.heap.size ≤ j) X V := by rw [hV]; exact Off.of_grown (grownBy_putObj' X D _) (fun j e => by cases e; show _ ≤ _; omega)
    exact ⟨.tuple #[.agg #[.int .i64 (nextP S : Int), .int .i64 (nextL S : Int)], .bool (nextB S)], by simp [results, Tryz.f104, go_sem, c0, c1, c2], rfl, HXB.out.trans (hO.below (fun j hj => hj) HXB.out.size)⟩
  case stop =>
    rintro D c j W hD hk ⟨rfl, hI⟩ hK
    have HNx := Lib.hid hI; have HK := Lib.hid hK; have HDD := Lib.hid hD
    have hb1 : nextB S = true := by
      unfold nextB
      cases e : S.free with
      | nil => rw [e] at hk; cases hk
      | cons p l => rfl
    have HKX := HK
    have HX2 := Lib.hid hI.r2
    have HX3 := Lib.hid (show W.heap[w.heap.size + 1 + 1]? = some (.cells #[.bool (nextB S)] 4 (0, 0)) by rw [hb1]; exact hI.r3)
    have HXB := Lib.hid hI.bel
    clear hI hK hD hk hb1
    obtain ⟨X, hX⟩ : ∃ X, X = W := ⟨_, rfl⟩
    rw [← hX] at HKX HX2 HX3 HXB ⊢
    clear hX
    gi_wp2_with fail
    obtain ⟨V, hV⟩ : ∃ V, V = X.putObj D (.deferred none) := ⟨_, rfl⟩
    have hKX := HKX.out
    refine ⟨by simp, .inl ⟨_, _, rfl, run_takeDeferred hKX, ?_⟩⟩
    rw [← hV]
    have hsw := HS.out
    have hDD := HDD.out
    have s2 : V.heap[w.heap.size + 1]? = X.heap[w.heap.size + 1]? := by rw [hV]; exact World.putObj_heap_other (by omega)
    have s3 : V.heap[w.heap.size + 1 + 1]? = X.heap[w.heap.size + 1 + 1]? := by rw [hV]; exact World.putObj_heap_other (by omega)
    have c0 : V.cell? ⟨w.heap.size + 1, 0, none⟩ = some (.int .i64 (nextP S : Int)) := by simp [World.cell?, s2, HX2.out]
    have c1 : V.cell? ⟨w.heap.size + 1, 1, none⟩ = some (.int .i64 (nextL S : Int)) := by simp [World.cell?, s2, HX2.out]
    have c2 : V.cell? ⟨w.heap.size + 1 + 1, 0, none⟩ = some (.bool (nextB S)) := by simp [World.cell?, s3, HX3.out]
    have hO : Off (fun j => w.heap.size ≤ j) X V := by rw [hV]; exact Off.of_grown (grownBy_putObj' X D _) (fun j e => by cases e; show _ ≤ _; omega)
    exact ⟨.tuple #[.agg #[.int .i64 (nextP S : Int), .int .i64 (nextL S : Int)], .bool (nextB S)], by simp [results, Tryz.f104, go_sem, c0, c1, c2], rfl, HXB.out.trans (hO.below (fun j hj => hj) HXB.out.size)⟩
theorem next_calls {w : World} {q g n k : Nat} {S : Tb} (h : TA w q g n k S) :
    Calls Tryz.prog 104 #[.pointer (some ⟨q, 0, none⟩)] w fun e w' => e = .returned (.tuple #[.agg #[.int .i64 (nextP S : Int), .int .i64 (nextL S : Int)], .bool (nextB S)]) ∧ Below w.heap.size w w' :=
  (callsIn_wide (n := 5)).1 (next_in 5 (by omega) h)
end Go.Proofs.YtecbpohkbniadaaGreat.Sl
