import Derived.Test.YtcjkeobjojmpfaaGreatMEvqEq
import Derived.Test.YtcjkeobjojmpfaaGreatMEvqFrom
import Derived.Test.YtcjkeobjojmpfaaGreatMEvqM
import Derived.Test.YtcjkeobjojmpfaaGreatMHeapA
import Derived.Test.YtcjkeobjojmpfaaGreatMEvqAw
import Derived.Test.YtcjkeobjojmpfaaGreatMEvqOne
section
/-
  CONTRACT of slices.IndexFunc at EvqCuts' function: the first event that is not before a time.
-/
namespace Go.Proofs.YtcjkeobjojmpfaaGreat
open Go.RowKit Go.Shelf

set_option maxHeartbeats 1000000 in
theorem late1_calls (x : Ev) (t : Int) (b : Nat) (W : World) (hb : W.heap[b]? = some (.cells #[.int .i64 t] 3 (0, 0))) :
    Calls Tryz.prog 19 #[.agg #[.int .i64 x.1.1, .int .i64 x.1.2.1, .int .i64 x.1.2.2, .int .i64 x.2.1, .int .i64 x.2.2], .pointer (some ⟨b, 0, none⟩)] W fun e w' => e = .returned (.bool (decide (t ≤ x.1.1))) ∧ Below W.heap.size W w' := by
  have hB : Below W.heap.size W (W.alloc (.cells #[.int .i64 x.1.1, .int .i64 x.1.2.1, .int .i64 x.1.2.2, .int .i64 x.2.1, .int .i64 x.2.2] 33)) := (Below.refl _ W).alloc (Nat.le_refl _) _
  have hb2 : (W.alloc (.cells #[.int .i64 x.1.1, .int .i64 x.1.2.1, .int .i64 x.1.2.2, .int .i64 x.2.1, .int .i64 x.2.2] 33)).cell? ⟨b, 0, none⟩ = some (.int .i64 t) := by
    have := (hB.block b (Array.getElem?_eq_some_iff.1 hb).1).trans hb
    simp only [World.cell?, this]; rfl
  have HB := Lib.hid hB
  clear hB hb
  by_cases h : t ≤ x.1.1
  · have hd : decide (t ≤ x.1.1) = true := by simp [h]
    have h2 : x.1.1 ≥ t := h
    go_enter Tryz.func19, Tryz.ntmps19
    go_wp2_with fail
    go_ret
    exact ⟨by rw [hd]; rfl, HB.out⟩
  · have hd : decide (t ≤ x.1.1) = false := by simp [h]
    have h2 : ¬ (x.1.1 ≥ t) := h
    go_enter Tryz.func19, Tryz.ntmps19
    go_wp2_with fail
    go_ret
    exact ⟨by first | rfl | (rw [hd]; rfl), HB.out⟩
/-- Which event is the first that is not before a time. -/
def LateIs (l : List Ev) (t r : Int) : Prop := (r = -1 ∧ ∀ k : Nat, k < l.length → (vn l k).1.1 < t) ∨ ∃ k : Nat, r = (k : Int) ∧ k < l.length ∧ t ≤ (vn l k).1.1 ∧ ∀ j : Nat, j < k → (vn l j).1.1 < t
set_option maxRecDepth 100000 in
set_option maxHeartbeats 4000000 in
theorem indexLate_calls {w : World} (lv : Value) (l : List Ev) (hv : LO w lv l) (t : Int) (b : Nat) (hb : w.heap[b]? = some (.cells #[.int .i64 t] 3 (0, 0))) (hlen : l.length ≤ 1000) :
    Calls Tryz.prog 18 #[lv, .func (.func 19) #[] #[.pointer (some ⟨b, 0, none⟩)]] w fun e w' => ∃ r, e = .returned (.int .i64 r) ∧ LateIs l t r ∧ Below w.heap.size w w' := by
  obtain ⟨la, lc, rfl, hlc, hle⟩ := hv.shape
  have HV := Lib.hid hv
  have HBx := Lib.hid hb
  clear hv hb
  go_enter Tryz.func18, Tryz.ntmps18
  go_wp2_with fail
  go_loopw [8] (fun jv wr => ∃ k : Nat, k ≤ l.length ∧ jv = .int .i64 (k : Int) ∧ Below w.heap.size w wr ∧ ∀ j : Nat, j < k → (vn l j).1.1 < t) (fun jv _ => l.length - (intOf jv).toNat)
  case atStart => exact ⟨0, Nat.zero_le _, by simp, Below.refl _ _, fun j hj => absurd hj (Nat.not_lt_zero j)⟩
  case round =>
    obtain ⟨k, hk, rfl, hbw, hno⟩ := hrel
    have HNo := Lib.hid hno
    by_cases hlt : k < l.length
    · have e1 : (k : Int) < (l.length : Int) := by omega
      have hrow : ∃ g o, la = some ⟨g, o, none⟩ ∧ VAt wr g (o + k * 5) (vn l k) := by
        obtain ⟨g, o, e, hl, hr⟩ := HV.out.at hlt
        exact ⟨g, o, e, hr.keep (hbw.block g hl)⟩
      obtain ⟨g, o, rfl, v0, v1, v2, v3, v4⟩ := hrow
      obtain ⟨x, hxe⟩ : ∃ x, vn l k = x := ⟨_, rfl⟩
      have HXe := Lib.hid hxe
      rw [hxe] at v0 v1 v2 v3 v4
      have HBW := Lib.hid hbw
      have HW := Lib.hid (show ∀ W, Below wr.heap.size wr W → Calls Tryz.prog 19 #[.agg #[.int .i64 x.1.1, .int .i64 x.1.2.1, .int .i64 x.1.2.2, .int .i64 x.2.1, .int .i64 x.2.2], .pointer (some ⟨b, 0, none⟩)] W fun e w' => e = .returned (.bool (decide (t ≤ x.1.1))) ∧ Below w.heap.size w w' from fun W hW => by
        have hW2 := hbw.trans (hW.mono hbw.size)
        refine (late1_calls x t b W ((hW2.block b (Array.getElem?_eq_some_iff.1 HBx.out).1).trans HBx.out)).mono ?_
        rintro e w' ⟨h1, h2⟩
        exact ⟨h1, hW2.trans (h2.mono hW2.size)⟩)
      clear hno hbw hxe
      by_cases hr : t ≤ x.1.1
      · rw [show decide (t ≤ x.1.1) = true by simp [hr]] at HW
        have HRt := Lib.hid hr
        clear hr
        go_wp2_with (first | (go_at_call 19; refine (HW.out _ (Below.refl _ _)).mono ?_; rintro e w5 ⟨rfl, b5⟩; have B5 := Lib.hid b5; clear b5) | (go_at_call 19; refine (HW.out _ ((Below.refl _ _).alloc (Nat.le_refl _) _)).mono ?_; rintro e w5 ⟨rfl, b5⟩; have B5 := Lib.hid b5; clear b5) | fail)
        go_ret
        exact ⟨k, rfl, .inr ⟨k, rfl, hlt, by rw [HXe.out]; exact HRt.out, HNo.out⟩, B5.out⟩
      · rw [show decide (t ≤ x.1.1) = false by simp [hr]] at HW
        have HRt := Lib.hid hr
        clear hr
        go_wp2_with (first | (go_at_call 19; refine (HW.out _ (Below.refl _ _)).mono ?_; rintro e w5 ⟨rfl, b5⟩; have B5 := Lib.hid b5; clear b5) | (go_at_call 19; refine (HW.out _ ((Below.refl _ _).alloc (Nat.le_refl _) _)).mono ?_; rintro e w5 ⟨rfl, b5⟩; have B5 := Lib.hid b5; clear b5) | fail)
        go_roundw
        case rel =>
          refine ⟨k + 1, hlt, by go_num, B5.out, fun j hj => ?_⟩
          rcases Nat.lt_or_ge j k with c | c
          · exact HNo.out j c
          · obtain rfl : j = k := by omega
            rw [HXe.out]; have := HRt.out; omega
        case measure => simp [intOf]; omega
    · obtain rfl : k = l.length := by omega
      clear hno
      have HBW := Lib.hid hbw
      go_wp2_with fail
      go_ret
      exact ⟨-1, rfl, .inl ⟨rfl, HNo.out⟩, HBW.out⟩
end Go.Proofs.YtcjkeobjojmpfaaGreat
end

section
/-
  PLAIN FACTS for EvqCuts: where a list in order is cut at a time; what there is from there on.
-/
namespace Go.Proofs.YtcjkeobjojmpfaaGreat
open Go.RowKit

theorem late_cut {L : List Ev} {t r : Int} (h : LateIs L t r) : ∃ n, CutAt L t n ∧ ((r = -1 ∧ n = L.length) ∨ r = (n : Int)) := by
  rcases h with ⟨rfl, h⟩ | ⟨k, rfl, h1, h2, h3⟩
  · exact ⟨L.length, ⟨Nat.le_refl _, h, fun c => absurd c (Nat.lt_irrefl _)⟩, .inl ⟨rfl, rfl⟩⟩
  · exact ⟨k, ⟨Nat.le_of_lt h1, h3, fun _ => h2⟩, .inr rfl⟩
theorem cutAt_unique {L : List Ev} {t : Int} {n m : Nat} (h : CutAt L t n) (k : CutAt L t m) : n = m := by
  obtain ⟨a1, a2, a3⟩ := h
  obtain ⟨b1, b2, b3⟩ := k
  rcases Nat.lt_trichotomy n m with e | e | e
  · have h1 := b2 n e; have h2 := a3 (by omega); omega
  · exact e
  · have h1 := a2 m e; have h2 := b3 (by omega); omega
theorem fromL_cut {L : List Ev} {t : Int} {n : Nat} (h : CutAt L t n) (ha : AscV L) (hr : ∀ x ∈ L, RightV x) (m : Nat) : fromL (t, 0, 0) m L = (L.drop n).take m := by
  obtain ⟨a1, a2, a3⟩ := h
  unfold fromL
  congr 1
  conv => lhs; rw [← List.take_append_drop n L]
  rw [List.filter_append, List.filter_eq_nil_iff.2, List.nil_append, List.filter_eq_self.2]
  · intro x hx
    obtain ⟨j, hj, rfl⟩ := List.getElem_of_mem hx
    rw [List.length_drop] at hj
    rw [List.getElem_drop]
    have e := vn_get (l := L) (i := n + j) (by omega)
    rw [List.getElem?_eq_getElem (by omega)] at e
    rw [Option.some.inj e]
    have hx2 := hr _ (vn_mem (l := L) (i := n + j) (by omega))
    have ht : t ≤ (vn L (n + j)).1.1 := by
      have h1 := a3 (by omega)
      rcases Nat.eq_zero_or_pos j with c | c
      · subst c; exact h1
      · have h2 := ltV_of_asc ha (show n < n + j by omega) (by omega)
        unfold LtV LessK at h2
        omega
    obtain ⟨⟨q1, q2, q3⟩, -⟩ := hx2
    rw [decide_eq_true_eq]
    unfold LessK
    simp only
    omega
  · intro x hx
    obtain ⟨j, hj, rfl⟩ := List.mem_take_iff_getElem.1 hx
    have e := vn_get (l := L) (i := j) (by omega)
    rw [List.getElem?_eq_getElem (by omega)] at e
    rw [Option.some.inj e]
    have h1 := a2 j (by omega)
    rw [decide_eq_true_eq, Classical.not_not]
    unfold LessK
    simp only
    omega
end Go.Proofs.YtcjkeobjojmpfaaGreat
end

section
/-
  CONTRACT of key.Ends at a small time.
-/
namespace Go.Proofs.YtcjkeobjojmpfaaGreat
open Go.RowKit

set_option maxHeartbeats 1000000 in
theorem endsC_calls (t : Nat) (ht : t ≤ 1000) (w : World) :
    Calls Tryz.prog 20 #[.int .i64 (t : Int)] w fun e w' => e = .returned (.tuple #[.agg #[.int .i64 (t : Int), .int .i64 0, .int .i64 0], .agg #[.int .i64 (t : Int), .int .i64 16, .int .i64 4294967295], .int .i64 0]) ∧ Below w.heap.size w w' := by
  go_enter Tryz.func20, Tryz.ntmps20
  go_wp2_with fail
  go_returns
  exact ⟨rfl, ((Below.refl _ _).alloc (Nat.le_refl _) _).alloc (by simp) _⟩
end Go.Proofs.YtcjkeobjojmpfaaGreat
end

section
/-
  EvqCuts RETURNS TRUE: all before a time are taken at once as they would be one by one; the rest stays; From tells them from a key on, as many as one wants.
-/
namespace Go.Proofs.YtcjkeobjojmpfaaGreat
open Go.RowKit Go.Shelf

theorem oqFrom {w W : World} {q U : Nat} {L : List Ev} {R : List (Value × List Ev)} {K : List (Nat × Obj)} (h : Oq w W q U L R K) (key : Ky) (m : Nat) :
    Calls Tryz.prog 21 #[.pointer (some ⟨q, 0, none⟩), .agg #[.int .i64 key.1, .int .i64 key.2.1, .int .i64 key.2.2], .int .i64 (m : Int)] W fun e w' => ∃ v, e = .returned v ∧ Oq w w' q U L ((v, fromL key m L) :: R) K := by
  obtain ⟨G, h1, -⟩ := h.ex
  refine (fromQ_calls h1 key m).mono ?_
  rintro e w' ⟨v, h2, h3, h4⟩
  exact ⟨v, h2, h.add h4 h3⟩
theorem evs_facts (l : List Sv) (m : Nat) : (evsS ((l.take m).map madeV)).length ≤ m ∧ DistV (evsS ((l.take m).map madeV)) ∧ ∀ x ∈ evsS ((l.take m).map madeV), RightV x := by
  refine ⟨?_, evsS_dist _, fun x hx => ?_⟩
  · have := evsS_len ((l.take m).map madeV)
    rw [List.length_map, List.length_take] at this
    omega
  · obtain ⟨y, _, rfl⟩ := List.mem_map.1 (evsS_sub _ x hx)
    exact madeV_right y
set_option maxRecDepth 100000 in
set_option maxHeartbeats 4000000 in
theorem wEvqCuts {w : World} (lv : Value) (l : List Sv) (hv : SvRow w lv l) (t m : Nat) (ht : t < 256) (hm : m < 256) :
    Calls Tryz.prog 4 #[lv, .int .u8 (t : Int), .int .u8 (m : Int)] w fun e w' => e = .returned (.bool true) ∧ Below w.heap.size w w' := by
  have HV := Lib.hid hv
  have HA := Lib.hid (awake10_calls w)
  clear hv
  go_enter Tryz.func4, Tryz.ntmps4
  go_wp2_with (first
    | (go_at_call 8; refine HA.out.mono ?_; rintro e w1 ⟨rfl, b1⟩; have B1 := Lib.hid b1; clear b1)
    | fail)
  refine (events_calls lv l (HV.out.below B1.out) 60 (by omega)).mono ?_
  rintro e w2 ⟨v, rfl, ho, hb⟩
  obtain ⟨hlen, hdist, hright⟩ := evs_facts l 60
  generalize evsS ((l.take 60).map madeV) = L at ho hlen hdist hright
  obtain ⟨hlv, -⟩ := LV.of_owns ho
  have B2 := Lib.hid (B1.out.trans (hb.mono B1.out.size))
  have HF := Lib.hid (filled_calls v L hlv 60 (by omega) (by omega) (by omega) hdist hright)
  have hSl : (inOrd L).length ≤ 60 := by rw [inOrd_len]; exact hlen
  obtain ⟨la, lc, rfl, -, -⟩ := hlv.shape
  clear ho hb B1 hdist hright HA hlv
  go_wp2_with (first | (go_at_call 10; refine HF.out.mono ?_; rintro e w3 ⟨q, v3, rfl, h3⟩; have H3 := Lib.hid h3; clear h3) | fail)
  have hT : (t : Int) % 21 = ((t % 21 : Nat) : Int) := by omega
  rw [hT]
  generalize hTe : t % 21 = T at *
  have hT20 : T ≤ 20 := by omega
  have O3 := H3.out.one B2.out
  generalize inOrd L = S at *
  generalize L.length = U at *
  obtain ⟨sa, sc, rfl, hsc, hsl⟩ := (O3.row (List.mem_singleton.2 rfl)).shape
  have O4 := O3.box (.cells #[.int .i64 (T : Int)] 3)
  have hfac := O3.facts
  have HI := Lib.hid (indexLate_calls _ S (O4.row (List.mem_singleton.2 rfl)) (T : Int) w3.heap.size (O4.kept (List.mem_singleton.2 rfl)) (by omega))
  have HO4 := Lib.hid O4
  generalize w3.alloc (.cells #[.int .i64 (T : Int)] 3) = w4 at *
  generalize w3.heap.size = b at *
  have HFac := Lib.hid hfac
  clear O3 O4 H3 HF B2 HV hfac
  refine HI.out.mono ?_
  rintro e w5 ⟨r, rfl, hr, hb5⟩
  have O5 := Lib.hid (HO4.out.below hb5)
  obtain ⟨n, hn, hrn⟩ := late_cut hr
  have HR := Lib.hid hr
  have HCn := Lib.hid hn
  have hnl : n ≤ S.length := hn.1
  clear HI HO4 hb5 hr hn
  have hlate : (r = -1 ∧ n = S.length) ∨ (r = (n : Int) ∧ n < S.length) := by
    rcases hrn with h | h
    · exact .inl h
    · refine .inr ⟨h, ?_⟩
      rcases HR.out with ⟨h2, _⟩ | ⟨k, h2, h3, _⟩
      · omega
      · omega
  clear hrn HR
  have hx5 : ∀ W : World, W.heap[b]? = some (.cells #[.int .i64 (T : Int)] 3 (0, 0)) → W.cell? ⟨b, 0, none⟩ = some (.int .i64 (T : Int)) := by
    intro W h
    simp only [World.cell?, h]; rfl
  have HX := Lib.hid hx5
  clear hx5
  rcases hlate with ⟨rfl, rfl⟩ | ⟨rfl, hnS⟩
  · go_wp2_with fail
    go_quiet (fail)
    have O6 := Lib.hid (show Oq w (w5.drewN nq) q U S [(.slice (if sc = S.length then sa else Option.map (fun x => x.add (S.length * 5)) sa) 0 (sc - S.length), S.drop S.length), (.slice sa S.length sc, S.take S.length), (.slice sa S.length sc, S)] [(b, .cells #[.int .i64 (T : Int)] 3)] from by
      have h := O5.out.below (below_drV (Below.refl _ _) nq)
      have hr := h.row (List.mem_singleton.2 rfl)
      have hd := hr.dropIf S.length (Nat.le_refl _) hsl
      rw [Nat.sub_self] at hd
      exact (h.part (List.mem_singleton.2 rfl) (hr.take' S.length (Nat.le_refl _)) (fun k hk => own_cap hk)).part (List.mem_cons_of_mem _ (List.mem_singleton.2 rfl)) hd (fun k hk => own_dropIf hk))
    generalize (if sc = S.length then sa else Option.map (fun x : Addr => x.add (S.length * 5)) sa) = sb at *
    generalize hcb : sc - S.length = cb at *
    have hx6 := HX.out _ (O6.out.kept (List.mem_singleton.2 rfl))
    clear O5
    go_wp2_with fail
    refine (endsC_calls T (by omega) _).mono ?_
    rintro e w7 ⟨rfl, b7⟩
    have O7 := Lib.hid (O6.out.below b7)
    clear b7 O6
    have hm0 : min (m : Int) 0 = 0 := by omega
    go_wp2_with fail
    refine (oqFrom ((O7.out.box _).box _) ((T : Int), 0, 0) m).mono ?_
    rintro e w8 ⟨v8, rfl, o8⟩
    have hfl : fromL ((T : Int), 0, 0) m S = (S.drop S.length).take 0 := by
      obtain ⟨f1, f2, f3, f4⟩ := HFac.out
      rw [fromL_cut HCn.out f1 f4, List.drop_length]; simp
    rw [hfl] at o8
    have hr8 := (o8.row (List.mem_cons_of_mem _ (List.mem_cons_self ..))).take' 0 (Nat.le_refl _)
    have O8 := Lib.hid (o8.part (List.mem_cons_of_mem _ (List.mem_cons_self ..)) hr8 (fun k hk => own_cap hk))
    obtain ⟨a8, c8, rfl, -, -⟩ := (o8.row (List.mem_cons_self ..)).shape
    have hl8 : ((S.drop S.length).take 0).length = 0 := by rw [List.length_take, List.length_drop]; omega
    rw [hl8] at O8
    rw [hl8]
    clear o8 O7 hr8 hfl
    go_wp2_with fail
    refine (oqEqual O8.out (v := .slice a8 0 c8) (v' := .slice sb 0 cb) (l := (S.drop S.length).take 0) (by simp) (by simp) (by omega)).mono ?_
    rintro e w9 ⟨rfl, o9⟩
    have O9 := Lib.hid o9
    have hx9 := HX.out _ (o9.kept (b := b) (o := .cells #[.int .i64 (T : Int)] 3) (by simp))
    clear o9 O8 hx6
    go_wp2_with fail
    refine (oqTakeBefore O9.out (T : Int)).mono ?_
    rintro e w10 ⟨v10, n', rfl, hn', o10⟩
    rw [cutAt_unique hn' HCn.out] at o10
    have O10 := Lib.hid o10
    have hx10 := HX.out _ (o10.kept (b := b) (o := .cells #[.int .i64 (T : Int)] 3) (by simp))
    obtain ⟨a10, c10, rfl, -, -⟩ := (o10.row (List.mem_cons_self ..)).shape
    have hl10 : (S.take S.length).length = S.length := by rw [List.length_take]; omega
    rw [hl10] at O10
    rw [hl10]
    clear o10 O9 hx9 hn'
    go_wp2_with fail
    refine (oqEqual O10.out (v := .slice a10 S.length c10) (v' := .slice sa S.length sc) (l := S.take S.length) (by simp) (by simp) (by omega)).mono ?_
    rintro e w11 ⟨rfl, o11⟩
    have O11 := Lib.hid o11
    clear o11 O10 hx10
    go_wp2_with fail
    refine (oqAll O11.out).mono ?_
    rintro e w12 ⟨v12, rfl, o12⟩
    have O12 := Lib.hid o12
    obtain ⟨a12, c12, rfl, -, -⟩ := (o12.row (List.mem_cons_self ..)).shape
    have hl12 : (S.drop S.length).length = 0 := by rw [List.length_drop]; omega
    rw [hl12] at O12
    rw [hl12]
    clear o12 O11
    go_wp2_with fail
    refine (oqEqual O12.out (v := .slice a12 0 c12) (v' := .slice sb 0 cb) (l := S.drop S.length) (by simp) (by simp) (by omega)).mono ?_
    rintro e w13 ⟨rfl, o13⟩
    have O13 := Lib.hid o13
    have hx13 := HX.out _ (o13.kept (b := b) (o := .cells #[.int .i64 (T : Int)] 3) (by simp))
    clear o13 O12
    go_wp2_with fail
    refine (oqTakeBefore O13.out (T : Int)).mono ?_
    rintro e w14 ⟨v14, n', rfl, hn', o14⟩
    have h0 : CutAt (S.drop S.length) (T : Int) 0 := ⟨Nat.zero_le _, fun j hj => absurd hj (Nat.not_lt_zero j), fun h => by
      rw [List.length_drop] at h
      omega⟩
    rw [cutAt_unique hn' h0] at o14
    obtain ⟨a14, c14, rfl, -, -⟩ := (o14.row (List.mem_cons_self ..)).shape
    have O14 := Lib.hid o14
    have hl14 : 60 - ((S.drop S.length).drop 0).length = 60 - 0 := by rw [List.drop_zero, hl12]
    clear o14 O13 hx13 hn' h0
    go_wp2_with fail
    refine (oqRoom O14.out).mono ?_
    rintro e w15 ⟨rfl, o15⟩
    rw [hl14]
    have O15 := Lib.hid o15.bel
    clear o15 O14
    go_wp2_with fail
    go_ret
    exact ⟨by simp, O15.out⟩
  · have hne : ¬ sc = n := by omega
    go_wp2_with fail
    go_quiet (fail)
    have O6 := Lib.hid (show Oq w (w5.drewN nq) q U S [(.slice (Option.map (fun x => x.add (n * 5)) sa) (S.length - n) (sc - n), S.drop n), (.slice sa n sc, S.take n), (.slice sa S.length sc, S)] [(b, .cells #[.int .i64 (T : Int)] 3)] from by
      have h := O5.out.below (below_drV (Below.refl _ _) nq)
      have hr := h.row (List.mem_singleton.2 rfl)
      exact (h.part (List.mem_singleton.2 rfl) (hr.take' n (by omega)) (fun k hk => own_cap hk)).part (List.mem_cons_of_mem _ (List.mem_singleton.2 rfl)) (hr.drop' n (by omega)) (fun k hk => own_drop hk))
    generalize Option.map (fun x : Addr => x.add (n * 5)) sa = sb at *
    generalize hcb : sc - n = cb at *
    have hcb2 : S.length - n ≤ cb := by omega
    have hx6 := HX.out _ (O6.out.kept (List.mem_singleton.2 rfl))
    clear O5
    go_wp2_with fail
    refine (endsC_calls T (by omega) _).mono ?_
    rintro e w7 ⟨rfl, b7⟩
    have O7 := Lib.hid (O6.out.below b7)
    clear b7 O6
    obtain ⟨mm, hmm⟩ : ∃ k : Nat, k = min m (S.length - n) := ⟨_, rfl⟩
    have hmin : min (m : Int) ((S.length - n : Nat) : Int) = (mm : Int) := by omega
    go_wp2_with fail
    rw [← hmm]
    refine (oqFrom ((O7.out.box _).box _) ((T : Int), 0, 0) m).mono ?_
    rintro e w8 ⟨v8, rfl, o8⟩
    have hfl : fromL ((T : Int), 0, 0) m S = (S.drop n).take mm := by
      obtain ⟨f1, f2, f3, f4⟩ := HFac.out
      rw [fromL_cut HCn.out f1 f4, hmm, show min m (S.length - n) = min m (S.drop n).length by rw [List.length_drop], List.take_eq_take_iff]
      omega
    rw [hfl] at o8
    have hm1 : mm ≤ S.length - n := by omega
    have hr8 := (o8.row (List.mem_cons_of_mem _ (List.mem_cons_self ..))).take' mm hm1
    have O8 := Lib.hid (o8.part (List.mem_cons_of_mem _ (List.mem_cons_self ..)) hr8 (fun k hk => own_cap hk))
    obtain ⟨a8, c8, rfl, -, -⟩ := (o8.row (List.mem_cons_self ..)).shape
    have hl8 : ((S.drop n).take mm).length = mm := by rw [List.length_take, List.length_drop]; omega
    rw [hl8] at O8
    rw [hl8]
    have hm2 : mm ≤ cb := by omega
    have HM := Lib.hid hmm
    clear o8 O7 hr8 hfl hmin hmm
    go_wp2_with fail
    refine (oqEqual O8.out (v := .slice a8 mm c8) (v' := .slice sb mm cb) (l := (S.drop n).take mm) (by simp) (by simp) (by omega)).mono ?_
    rintro e w9 ⟨rfl, o9⟩
    have O9 := Lib.hid o9
    have hx9 := HX.out _ (o9.kept (b := b) (o := .cells #[.int .i64 (T : Int)] 3) (by simp))
    clear o9 O8 hx6
    go_wp2_with fail
    refine (oqTakeBefore O9.out (T : Int)).mono ?_
    rintro e w10 ⟨v10, n', rfl, hn', o10⟩
    rw [cutAt_unique hn' HCn.out] at o10
    have O10 := Lib.hid o10
    have hx10 := HX.out _ (o10.kept (b := b) (o := .cells #[.int .i64 (T : Int)] 3) (by simp))
    obtain ⟨a10, c10, rfl, -, -⟩ := (o10.row (List.mem_cons_self ..)).shape
    have hl10 : (S.take n).length = n := by rw [List.length_take]; omega
    rw [hl10] at O10
    rw [hl10]
    clear o10 O9 hx9 hn'
    go_wp2_with fail
    refine (oqEqual O10.out (v := .slice a10 n c10) (v' := .slice sa n sc) (l := S.take n) (by simp) (by simp) (by omega)).mono ?_
    rintro e w11 ⟨rfl, o11⟩
    have O11 := Lib.hid o11
    clear o11 O10 hx10
    go_wp2_with fail
    refine (oqAll O11.out).mono ?_
    rintro e w12 ⟨v12, rfl, o12⟩
    have O12 := Lib.hid o12
    obtain ⟨a12, c12, rfl, -, -⟩ := (o12.row (List.mem_cons_self ..)).shape
    have hl12 : (S.drop n).length = S.length - n := by rw [List.length_drop]
    rw [hl12] at O12
    rw [hl12]
    clear o12 O11
    go_wp2_with fail
    refine (oqEqual O12.out (v := .slice a12 (S.length - n) c12) (v' := .slice sb (S.length - n) cb) (l := S.drop n) (by simp) (by simp) (by omega)).mono ?_
    rintro e w13 ⟨rfl, o13⟩
    have O13 := Lib.hid o13
    have hx13 := HX.out _ (o13.kept (b := b) (o := .cells #[.int .i64 (T : Int)] 3) (by simp))
    clear o13 O12
    go_wp2_with fail
    refine (oqTakeBefore O13.out (T : Int)).mono ?_
    rintro e w14 ⟨v14, n', rfl, hn', o14⟩
    have h0 : CutAt (S.drop n) (T : Int) 0 := ⟨Nat.zero_le _, fun j hj => absurd hj (Nat.not_lt_zero j), fun h => by
      rw [List.length_drop] at h
      rw [vn_drop]
      exact HCn.out.2.2 (by omega)⟩
    rw [cutAt_unique hn' h0] at o14
    obtain ⟨a14, c14, rfl, -, -⟩ := (o14.row (List.mem_cons_self ..)).shape
    have O14 := Lib.hid o14
    have hl14 : 60 - ((S.drop n).drop 0).length = 60 - (S.length - n) := by rw [List.drop_zero, hl12]
    have hsub : IntKind.i64.wrap (60 - ((S.length - n : Nat) : Int)) = ((60 - (S.length - n) : Nat) : Int) := by rw [IntKind.wrap_i64]; omega
    clear o14 O13 hx13 hn' h0
    go_wp2_with fail
    refine (oqRoom O14.out).mono ?_
    rintro e w15 ⟨rfl, o15⟩
    rw [hl14]
    have O15 := Lib.hid o15.bel
    clear o15 O14
    go_wp2_with fail
    go_ret
    exact ⟨by simp, O15.out⟩
end Go.Proofs.YtcjkeobjojmpfaaGreat
end
