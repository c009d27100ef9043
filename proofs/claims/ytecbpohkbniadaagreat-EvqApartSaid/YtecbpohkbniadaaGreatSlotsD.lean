/-
  CONTRACTS of slots' Take and Give.
-/
import Derived.Test.YtecbpohkbniadaaGreatSlotsC
import Derived.Deep.CutBlock
namespace Go.Proofs.YtecbpohkbniadaaGreat.Sl
open Go.RowKit

/-- HOW Take STANDS: its result's box, and that of what Next told. -/
structure TkAt (w W : World) (q g n k : Nat) (S : Tb) (nx : Nat → Int) (f : Int) (t wo : Nat) (b2 b4 p L : Nat) : Prop where
  own : W.heap[q]? = some (ownS g n k f t wo)
  row : SRow W g n S nx
  res : W.heap[b2]? = some (.cells #[.int .i64 0, .int .i64 0] 108 (0, 0))
  ref : W.heap[b4]? = some (.cells #[.int .i64 (p : Int), .int .i64 ((L : Int) + 1)] 108 (0, 0))
  ne : b2 ≠ b4 ∧ b2 ≠ q ∧ b2 ≠ g ∧ b4 ≠ q ∧ b4 ≠ g ∧ q ≠ g
  off : Off (Q2 q g) w W
section
variable {w W : World} {q g n k : Nat} {S : Tb} {nx : Nat → Int} {f : Int} {t wo b2 b4 p L : Nat}
theorem TkAt.drewN (h : TkAt w W q g n k S nx f t wo b2 b4 p L) (m : Nat) : TkAt w (W.drewN m) q g n k S nx f t wo b2 b4 p L :=
  ⟨h.own, h.row.keep rfl, h.res, h.ref, h.ne, ⟨h.off.os, h.off.tape, h.off.output, h.off.size, h.off.block⟩⟩
theorem TkAt.new (h : TkAt w W q g n k S nx f t wo b2 b4 p L) : W.cell? ⟨b4, 0, none⟩ = some (.int .i64 (p : Int)) ∧ W.cell? ⟨b4, 1, none⟩ = some (.int .i64 ((L : Int) + 1)) := ⟨by simp [World.cell?, h.ref], by simp [World.cell?, h.ref]⟩
theorem TkAt.old (h : TkAt w W q g n k S nx f t wo b2 b4 p L) : W.cell? ⟨b2, 0, none⟩ = some (.int .i64 0) ∧ W.cell? ⟨b2, 1, none⟩ = some (.int .i64 0) ∧ ∀ i, W.frozen? ⟨b2, i, none⟩ = false := ⟨by simp [World.cell?, h.res], by simp [World.cell?, h.res], fun i => by simp [World.frozen?, h.res]⟩
theorem TkAt.first (h : TkAt w W q g n k S nx f t wo b2 b4 p L) (f' : Int) : TkAt w (W.setCell ⟨q, 1, none⟩ (.int .i64 f')) q g n k S nx f' t wo b2 b4 p L :=
  ⟨ownS_first h.own f', h.row.keep (heap_setO _ _ _ (Ne.symm h.ne.2.2.2.2.2)), (heap_setO _ _ _ h.ne.2.1).trans h.res, (heap_setO _ _ _ h.ne.2.2.2.1).trans h.ref, h.ne, h.off.set (.inl (.inl rfl)) _ _⟩
theorem TkAt.count (h : TkAt w W q g n k S nx f t wo b2 b4 p L) (t' : Nat) : TkAt w (W.setCell ⟨q, 3, none⟩ (.int .i64 (t' : Int))) q g n k S nx f t' wo b2 b4 p L :=
  ⟨ownS_taken h.own t', h.row.keep (heap_setO _ _ _ (Ne.symm h.ne.2.2.2.2.2)), (heap_setO _ _ _ h.ne.2.1).trans h.res, (heap_setO _ _ _ h.ne.2.2.2.1).trans h.ref, h.ne, h.off.set (.inl (.inl rfl)) _ _⟩
theorem TkAt.taken (h : TkAt w W q g n k S nx f t wo b2 b4 p L) (hp : p < n) (hL : L = S.life p) (r : List Nat) : TkAt w (((W.setCell ⟨g, p * 4, none⟩ (.int .i64 (p : Int))).setCell ⟨g, p * 4 + 1, none⟩ (.int .i64 ((L : Int) + 1))).setCell ⟨g, p * 4 + 2, none⟩ (.bool true)) q g n k (takeT S p r) nx f t wo b2 b4 p L := by
  have e : ∀ b, b ≠ g → (((W.setCell ⟨g, p * 4, none⟩ (.int .i64 (p : Int))).setCell ⟨g, p * 4 + 1, none⟩ (.int .i64 ((L : Int) + 1))).setCell ⟨g, p * 4 + 2, none⟩ (.bool true)).heap[b]? = W.heap[b]? := fun b hb => by
    rw [heap_setO _ _ _ hb, heap_setO _ _ _ hb, heap_setO _ _ _ hb]
  refine ⟨(e q h.ne.2.2.2.2.2).trans h.own, ?_, (e b2 h.ne.2.2.1).trans h.res, (e b4 h.ne.2.2.2.2.1).trans h.ref, h.ne, ((h.off.set (.inl (.inr rfl)) _ _).set (.inl (.inr rfl)) _ _).set (.inl (.inr rfl)) _ _⟩
  rw [hL]
  exact h.row.taken hp r
end
section
variable {w : World} {q g n k : Nat} {S : Tb}
set_option maxHeartbeats 2000000 in
theorem take_no (h : TA w q g n k S) (hf : S.free = []) :
    Calls Tryz.prog 83 #[.pointer (some ⟨q, 0, none⟩)] w fun e w' => e = .returned (.tuple #[.agg #[.int .i64 0, .int .i64 0], .int .i64 4]) ∧ Below w.heap.size w w' := by
  have h1 := h.below (below_ref w 0 0)
  have HI := Lib.hid (by obtain ⟨nx, f, h2⟩ := h1.ex; exact is_calls h2.own)
  have HN := Lib.hid (next_calls h1)
  have hP : nextP S = 0 ∧ nextL S = 0 ∧ nextB S = false := by unfold nextP nextL nextB; rw [hf]; exact ⟨rfl, rfl, rfl⟩
  rw [hP.1, hP.2.1, hP.2.2] at HN
  clear h h1 hf hP
  go_enter Tryz.func83, Tryz.ntmps83
  go_wp2_with (first
    | (go_at_call 103; refine HI.out.mono ?_; rintro e w' ⟨rfl, rfl⟩)
    | (go_at_call 104; refine HN.out.mono ?_; rintro e w2 ⟨rfl, hb2⟩; have h3 := hb2.alloc hb2.size (.cells #[.int .i64 0, .int .i64 0] 108); have hbx := (h3.block w.heap.size (by simp)).trans (World.alloc_heap_new w (.cells #[.int .i64 0, .int .i64 0] 108)); have r0 : (w2.alloc (.cells #[.int .i64 0, .int .i64 0] 108)).cell? ⟨w.heap.size, 0, none⟩ = some (.int .i64 0) := by simp [World.cell?, hbx]
       have r1 : (w2.alloc (.cells #[.int .i64 0, .int .i64 0] 108)).cell? ⟨w.heap.size, 1, none⟩ = some (.int .i64 0) := by simp [World.cell?, hbx]
       have rf : ∀ i, (w2.alloc (.cells #[.int .i64 0, .int .i64 0] 108)).frozen? ⟨w.heap.size, i, none⟩ = false := fun i => by simp [World.frozen?, hbx]
       have HB2 := Lib.hid ((below_ref w 0 0).trans (hb2.mono (by simp))); have HBX := Lib.hid (show w.heap.size < w2.heap.size by have := hb2.size; simp at this; omega); clear hb2 hbx h3)
    | fail)
  refine bodyPost_ret (v := .tuple #[.agg #[.int .i64 0, .int .i64 0], .int .i64 4]) (by simp [results, Tryz.results83, go_sem, r0, r1]) rfl ⟨rfl, ?_⟩
  have hb := HB2.out.alloc HB2.out.size (.cells #[.int .i64 0, .int .i64 0] 108)
  exact (((Off.of_below (F := fun j => w.heap.size ≤ j) hb).set (b := w.heap.size) (.inl (Nat.le_refl _)) _ _).set (b := w.heap.size) (.inl (Nat.le_refl _)) _ _).below (fun j hj => hj) (Nat.le_refl _)
set_option maxHeartbeats 4000000 in
theorem take_yes (h : TA w q g n k S) {p : Nat} {rest : List Nat} (hf : S.free = p :: rest) :
    Calls Tryz.prog 83 #[.pointer (some ⟨q, 0, none⟩)] w fun e w' => e = .returned (.tuple #[.agg #[.int .i64 (p : Int), .int .i64 ((S.life p + 1 : Nat) : Int)], .int .i64 0]) ∧ TStep w w' q g n k (takeT S p rest) := by
  have mixed : Tryz.prog.follows .mixedOrders = true := by kernel_rfl
  obtain ⟨nx, f, ht⟩ := h.ex
  have h1 := h.below (below_ref w 0 0)
  have HI := Lib.hid (is_calls (ht.below (below_ref w 0 0)).own)
  have HN := Lib.hid (next_calls h1)
  have hP : nextP S = p ∧ nextL S = S.life p + 1 ∧ nextB S = true := by unfold nextP nextL nextB; rw [hf]; exact ⟨rfl, rfl, rfl⟩
  rw [hP.1, hP.2.1, hP.2.2] at HN
  have HT := Lib.hid ht
  have HF := Lib.hid hf
  have hpn := ht.ok.head hf
  have HP := Lib.hid hpn.1
  have hp2 : (p : Int) < (n : Int) := by have := hpn.1; omega
  clear h h1 hf hP ht hpn
  go_enter Tryz.func83, Tryz.ntmps83
  go_upto_region 6 with (first
    | (go_at_call 103; refine HI.out.mono ?_; rintro e w' ⟨rfl, rfl⟩)
    | (go_at_call 104; refine HN.out.mono ?_; rintro e w2 ⟨rfl, hb2⟩; have HB2 := Lib.hid hb2; clear hb2)
    | fail)
  have h0 : TkAt w (w2.alloc (.cells #[.int .i64 (p : Int), .int .i64 ((S.life p : Int) + 1)] 108)) q g n k S nx f (cnt n S.tk) (cnt n (wornF k S)) w.heap.size w2.heap.size p (S.life p) := by
    have hs2 : w.heap.size + 1 ≤ w2.heap.size := by have := HB2.out.size; rw [World.size_alloc] at this; exact this
    have hb3 := HB2.out.alloc HB2.out.size (.cells #[.int .i64 (p : Int), .int .i64 ((S.life p : Int) + 1)] 108)
    rw [World.size_alloc] at hb3
    have hB3 := (below_ref w 0 0).trans (hb3.mono (by omega))
    have ht3 := HT.out.below hB3
    have hlt := HT.out.lt
    exact ⟨ht3.own, ht3.row, (hb3.block _ (by omega)).trans (World.alloc_heap_new w _), World.alloc_heap_new w2 _, ⟨by omega, by omega, by omega, by omega, by omega, HT.out.ne⟩, Off.of_below hB3⟩
  have H0 := Lib.hid h0
  obtain ⟨b4, hb4⟩ : ∃ b4, w2.heap.size = b4 := ⟨_, rfl⟩
  rw [hb4] at H0 ⊢
  obtain ⟨W3, hW3⟩ : ∃ W3, w2.alloc (.cells #[.int .i64 (p : Int), .int .i64 ((S.life p : Int) + 1)] 108) = W3 := ⟨_, rfl⟩
  rw [hW3] at H0 ⊢
  have hct : (cnt n S.tk : Nat) ≤ n := cnt_le _ _
  have hnl := HT.out.lim
  have hw1 : IntKind.i64.wrap ((cnt n S.tk : Int) + 1) = (cnt n S.tk : Int) + 1 := by rw [IntKind.wrap_i64]; omega
  have HW1 := Lib.hid hw1
  clear hW3 h0 hct hnl hb4 hw1
  obtain ⟨c0, -⟩ := ownS_cells H0.out.own
  have s0 := H0.out.new.1
  go_quiet (fail)
  have H3 := Lib.hid (H0.out.drewN nq)
  obtain ⟨W4, hW4⟩ : ∃ W4, W3.drewN nq = W4 := ⟨_, rfl⟩
  rw [hW4] at H3 ⊢
  clear hW4 c0 s0 H0
  obtain ⟨-, -, -, x3⟩ := H3.out.row.cell p HP.out
  obtain ⟨-, c1, -, -, -, -, cf⟩ := ownS_cells H3.out.own
  go_upto_region 8 with fail
  have H4 := Lib.hid (H3.out.first (nx p))
  obtain ⟨W5, hW5⟩ : ∃ W5, W4.setCell ⟨q, 1, none⟩ (.int .i64 (nx p)) = W5 := ⟨_, rfl⟩
  rw [hW5] at H4 ⊢
  clear hW5 x3 c1 cf H3
  obtain ⟨x0, x1, x2, x3⟩ := H4.out.row.cell p HP.out
  have gf := H4.out.row.frozen
  obtain ⟨s0, s1⟩ := H4.out.new
  go_upto_region 9 with fail
  have H5 := Lib.hid (H4.out.taken HP.out rfl rest)
  obtain ⟨W6, hW6⟩ : ∃ W6, ((W5.setCell ⟨g, p * 4, none⟩ (.int .i64 (p : Int))).setCell ⟨g, p * 4 + 1, none⟩ (.int .i64 ((S.life p : Int) + 1))).setCell ⟨g, p * 4 + 2, none⟩ (.bool true) = W6 := ⟨_, rfl⟩
  rw [hW6] at H5 ⊢
  clear hW6 x0 x1 x2 x3 gf s0 s1 H4
  obtain ⟨-, -, -, c3, -, -, cf⟩ := ownS_cells H5.out.own
  have hw1 := HW1.out
  go_upto_region 10 with fail
  have H6 := Lib.hid (H5.out.count (cnt n S.tk + 1))
  have ec : ((cnt n S.tk + 1 : Nat) : Int) = (cnt n S.tk : Int) + 1 := by omega
  rw [ec] at H6
  obtain ⟨W7, hW7⟩ : ∃ W7, W6.setCell ⟨q, 3, none⟩ (.int .i64 ((cnt n S.tk : Int) + 1)) = W7 := ⟨_, rfl⟩
  rw [hW7] at H6 ⊢
  clear hW7 c3 cf hw1 H5 ec
  obtain ⟨s0, s1⟩ := H6.out.new
  obtain ⟨r0, r1, rf⟩ := H6.out.old
  go_wp2_with fail
  have HH := H6.out
  have HTo := HT.out
  have hlk := HTo.links
  rw [HF.out] at hlk
  refine bodyPost_ret (v := .tuple #[.agg #[.int .i64 (p : Int), .int .i64 ((S.life p : Int) + 1)], .int .i64 0]) (by simp [results, Tryz.results83, go_sem, r0, r1]) rfl ⟨by simp, ⟨nx, nx p, ?_⟩, ?_⟩
  · refine ⟨?_, ?_, hlk.2, HTo.ok.take HF.out, HTo.ne, HTo.lim⟩
    · rw [HTo.ok.cnt_take HF.out, HTo.ok.worn_take HF.out]
      exact (heap_setO _ _ _ (Ne.symm HH.ne.2.1)).trans ((heap_setO _ _ _ (Ne.symm HH.ne.2.1)).trans HH.own)
    · exact HH.row.keep ((heap_setO _ _ _ (Ne.symm HH.ne.2.2.1)).trans (heap_setO _ _ _ (Ne.symm HH.ne.2.2.1)))
  · exact (HH.off.set (.inr (Nat.le_refl _)) _ _).set (.inr (Nat.le_refl _)) _ _
end
/-- HOW Give STANDS. -/
structure GvAt (w W : World) (q g n k : Nat) (S : Tb) (nx : Nat → Int) (f : Int) (t wo : Nat) (b p L : Nat) : Prop where
  own : W.heap[q]? = some (ownS g n k f t wo)
  row : SRow W g n S nx
  ref : W.heap[b]? = some (.cells #[.int .i64 (p : Int), .int .i64 (L : Int)] 108 (0, 0))
  ne : b ≠ q ∧ b ≠ g ∧ q ≠ g
  off : Off (Q2 q g) w W
section
variable {w W : World} {q g n k : Nat} {S : Tb} {nx : Nat → Int} {f : Int} {t wo b p L : Nat}
theorem GvAt.drewN (h : GvAt w W q g n k S nx f t wo b p L) (m : Nat) : GvAt w (W.drewN m) q g n k S nx f t wo b p L :=
  ⟨h.own, h.row.keep rfl, h.ref, h.ne, ⟨h.off.os, h.off.tape, h.off.output, h.off.size, h.off.block⟩⟩
theorem GvAt.drew (h : GvAt w W q g n k S nx f t wo b p L) : GvAt w W.drew q g n k S nx f t wo b p L :=
  ⟨h.own, h.row.keep rfl, h.ref, h.ne, ⟨h.off.os, h.off.tape, h.off.output, h.off.size, h.off.block⟩⟩
theorem GvAt.below (h : GvAt w W q g n k S nx f t wo b p L) {W' : World} (hb : Below W.heap.size W W') : GvAt w W' q g n k S nx f t wo b p L :=
  ⟨(hb.block _ (Array.getElem?_eq_some_iff.1 h.own).1).trans h.own, h.row.keep (hb.block _ h.row.lt), (hb.block _ (Array.getElem?_eq_some_iff.1 h.ref).1).trans h.ref, h.ne, h.off.to ((Off.of_below hb))⟩
theorem GvAt.new (h : GvAt w W q g n k S nx f t wo b p L) : W.cell? ⟨b, 0, none⟩ = some (.int .i64 (p : Int)) ∧ W.cell? ⟨b, 1, none⟩ = some (.int .i64 (L : Int)) := ⟨by simp [World.cell?, h.ref], by simp [World.cell?, h.ref]⟩
theorem GvAt.mark (h : GvAt w W q g n k S nx f t wo b p L) (hp : p < n) (l : List Nat) : GvAt w (W.setCell ⟨g, p * 4 + 2, none⟩ (.bool false)) q g n k ⟨S.life, fun r => if r = p then false else S.tk r, l⟩ nx f t wo b p L :=
  ⟨(heap_setO _ _ _ h.ne.2.2).trans h.own, h.row.mark hp false l, (heap_setO _ _ _ h.ne.2.1).trans h.ref, h.ne, h.off.set (.inl (.inr rfl)) _ _⟩
theorem GvAt.count (h : GvAt w W q g n k S nx f t wo b p L) (t' : Nat) : GvAt w (W.setCell ⟨q, 3, none⟩ (.int .i64 (t' : Int))) q g n k S nx f t' wo b p L :=
  ⟨ownS_taken h.own t', h.row.keep (heap_setO _ _ _ (Ne.symm h.ne.2.2)), (heap_setO _ _ _ h.ne.1).trans h.ref, h.ne, h.off.set (.inl (.inl rfl)) _ _⟩
theorem GvAt.worn (h : GvAt w W q g n k S nx f t wo b p L) (t' : Nat) : GvAt w (W.setCell ⟨q, 4, none⟩ (.int .i64 (t' : Int))) q g n k S nx f t t' b p L :=
  ⟨ownS_worn h.own t', h.row.keep (heap_setO _ _ _ (Ne.symm h.ne.2.2)), (heap_setO _ _ _ h.ne.1).trans h.ref, h.ne, h.off.set (.inl (.inl rfl)) _ _⟩
end
section
variable {w : World} {q g n k : Nat} {S : Tb}
set_option maxHeartbeats 2000000 in
theorem give_no (h : TA w q g n k S) (P L : Int) (hl : liveT n S P L = false) :
    Calls Tryz.prog 91 #[.pointer (some ⟨q, 0, none⟩), .agg #[.int .i64 P, .int .i64 L]] w fun e w' => e = .returned (.int .i64 90) ∧ Below w.heap.size w w' := by
  have h1 := h.below (below_ref w P L)
  have HI := Lib.hid (by obtain ⟨nx, f, h2⟩ := h1.ex; exact is_calls h2.own)
  have HL := Lib.hid (live_calls h1 P L)
  rw [hl] at HL
  clear h h1 hl
  go_enter Tryz.func91, Tryz.ntmps91
  go_wp2_with (first
    | (go_at_call 103; refine HI.out.mono ?_; rintro e w' ⟨rfl, rfl⟩)
    | (go_at_call 114; refine HL.out.mono ?_; rintro e w2 ⟨rfl, hb2⟩; have HB2 := Lib.hid hb2; clear hb2)
    | fail)
  go_ret
  exact ⟨rfl, (below_ref w P L).trans (HB2.out.mono (by simp))⟩
set_option maxHeartbeats 4000000 in
theorem give_yes (h : TA w q g n k S) {p : Nat} (hp : p < n) (ht : S.tk p = true) :
    Calls Tryz.prog 91 #[.pointer (some ⟨q, 0, none⟩), .agg #[.int .i64 (p : Int), .int .i64 (S.life p : Int)]] w fun e w' => e = .returned (.int .i64 0) ∧ TStep w w' q g n k (giveT k S p) := by
  have mixed : Tryz.prog.follows .mixedOrders = true := by kernel_rfl
  obtain ⟨nx, f, htb⟩ := h.ex
  have h1 := h.below (below_ref w p (S.life p))
  have HI := Lib.hid (is_calls (htb.below (below_ref w p (S.life p))).own)
  have HL := Lib.hid (live_calls h1 p (S.life p))
  rw [liveT_nat hp, ht] at HL
  have hd : (true && decide ((S.life p : Int) = (S.life p : Int))) = true := by simp
  rw [hd] at HL
  have HT := Lib.hid htb
  have HP := Lib.hid hp
  have HK := Lib.hid ht
  have hp2 : (p : Int) < (n : Int) := by omega
  clear h h1 hd hp ht htb
  go_enter Tryz.func91, Tryz.ntmps91
  go_upto_region 5 with (first
    | (go_at_call 103; refine HI.out.mono ?_; rintro e w' ⟨rfl, rfl⟩)
    | (go_at_call 114; refine HL.out.mono ?_; rintro e w2 ⟨rfl, hb2⟩; have HB2 := Lib.hid hb2; clear hb2)
    | fail)
  have h0 : GvAt w w2 q g n k S nx f (cnt n S.tk) (cnt n (wornF k S)) w.heap.size p (S.life p) := by
    have hlt := HT.out.lt
    have hb := (below_ref w p (S.life p)).trans (HB2.out.mono (by simp))
    have t2 := HT.out.below hb
    exact ⟨t2.own, t2.row, (HB2.out.block _ (by simp)).trans (World.alloc_heap_new w _), ⟨by omega, by omega, HT.out.ne⟩, Off.of_below hb⟩
  have H0 := Lib.hid h0
  clear h0
  obtain ⟨c0, -⟩ := ownS_cells H0.out.own
  obtain ⟨-, -, x2, -⟩ := H0.out.row.cell p HP.out
  have gf := H0.out.row.frozen
  have s0 := H0.out.new.1
  go_cut [] from 14 to 21 (fun wx => GvAt w wx q g n k ⟨S.life, fun r => if r = p then false else S.tk r, S.free⟩ nx f (cnt n S.tk) (cnt n (wornF k S)) w.heap.size p (S.life p))
  case first =>
    go_region
    all_goals
      go_wp2_with fail
      go_meet
      exact (H0.out.mark HP.out S.free).drew
  case rest =>
    have H1 := Lib.hid hcut
    clear hcut H0 c0 x2 gf s0
    have hlim := HT.out.lim
    have hcl : cnt n S.tk ≤ n := cnt_le _ _
    have hwl : cnt n (wornF k S) ≤ n := cnt_le _ _
    obtain ⟨c', hc'⟩ : ∃ c', cnt n (giveT k S p).tk = c' := ⟨_, rfl⟩
    have hcg := cnt_give (k := k) HP.out HK.out
    rw [hc'] at hcg
    have HC := Lib.hid hc'
    have hw1 : IntKind.i64.wrap ((cnt n S.tk : Int) - 1) = (c' : Int) := by rw [IntKind.wrap_i64]; omega
    obtain ⟨wo, hwo⟩ : ∃ wo, cnt n (wornF k S) = wo := ⟨_, rfl⟩
    have HWo := Lib.hid hwo
    rw [hwo] at H1 hwl
    have hw2 : IntKind.i64.wrap ((wo : Int) + 1) = (wo : Int) + 1 := by rw [IntKind.wrap_i64]; omega
    have hle := HT.out.ok.le p HP.out
    clear hc' hwo hcl hwl hcg
    obtain ⟨-, -, -, c3, -, -, cf⟩ := ownS_cells H1.out.own
    go_upto_region 7 with fail
    have H2 := Lib.hid (H1.out.count c')
    obtain ⟨W3, hW3⟩ : ∃ W3, wc.setCell ⟨q, 3, none⟩ (.int .i64 (c' : Int)) = W3 := ⟨_, rfl⟩
    rw [hW3] at H2 ⊢
    clear hW3 c3 cf H1 hw1
    obtain ⟨-, -, c2, -⟩ := ownS_cells H2.out.own
    obtain ⟨s0, s1⟩ := H2.out.new
    by_cases hk : S.life p = k
    · have hd : ((S.life p : Int) == (k : Int)) = true := by simp [hk]
      have HKk := Lib.hid hk
      clear hk hlim hle
      go_quiet (fail)
      have H3 := Lib.hid (H2.out.drewN nq)
      obtain ⟨W4, hW4⟩ : ∃ W4, W3.drewN nq = W4 := ⟨_, rfl⟩
      rw [hW4] at H3 ⊢
      clear hW4 c2 s0 s1 H2
      obtain ⟨-, -, -, -, c4, -, cf⟩ := ownS_cells H3.out.own
      go_wp2_with fail
      go_ret
      have H4 := H3.out.worn (wo + 1)
      have ew : ((wo + 1 : Nat) : Int) = (wo : Int) + 1 := by omega
      rw [ew] at H4
      have e1 : giveT k S p = ⟨S.life, fun r => if r = p then false else S.tk r, S.free⟩ := by unfold giveT; rw [if_pos HKk.out]
      refine ⟨rfl, ⟨nx, f, ?_, ?_, ?_, HT.out.ok.give HP.out HK.out, HT.out.ne, HT.out.lim⟩, H4.off⟩
      · rw [HC.out, worn_give HP.out HK.out, if_pos HKk.out, HWo.out]
        exact H4.own
      · rw [e1]; exact H4.row
      · rw [e1]; exact HT.out.links
    · have hd : ((S.life p : Int) == (k : Int)) = false := by rw [beq_eq_false_iff_ne]; omega
      have HKk := Lib.hid hk
      clear hk hlim hle hw2
      go_quiet (fail)
      have H3 := Lib.hid (H2.out.drewN nq)
      obtain ⟨W4, hW4⟩ : ∃ W4, W3.drewN nq = W4 := ⟨_, rfl⟩
      rw [hW4] at H3 ⊢
      clear hW4 c2 s0 s1 H2
      have s0 := H3.out.new.1
      have HLk := Lib.hid (link_raw H3.out.own H3.out.row H3.out.ne.2.2 p HP.out)
      go_wp2_with (first | (go_at_call 96; refine HLk.out.mono ?_; rintro e w5 ⟨rfl, g1, g2, g3⟩; have G1 := Lib.hid g1; have G2 := Lib.hid g2; have G3 := Lib.hid g3; clear g1 g2 g3) | fail)
      go_ret
      have e1 : giveT k S p = ⟨S.life, fun r => if r = p then false else S.tk r, p :: S.free⟩ := by unfold giveT; rw [if_neg HKk.out]
      have hnf := HT.out.ok.notfree HK.out
      refine ⟨rfl, ⟨fun r => if r = p then f else nx r, (p : Int), ?_, ?_, ?_, HT.out.ok.give HP.out HK.out, HT.out.ne, HT.out.lim⟩, H3.out.off.to G3.out⟩
      · rw [HC.out, worn_give HP.out HK.out, if_neg HKk.out, HWo.out]
        exact G1.out
      · rw [e1]; exact ⟨G2.out.blk, G2.out.cell⟩
      · rw [e1]; exact HT.out.links.put hnf
end
end Go.Proofs.YtecbpohkbniadaaGreat.Sl
