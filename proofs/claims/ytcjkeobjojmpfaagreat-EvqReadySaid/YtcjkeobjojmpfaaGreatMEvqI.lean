import Derived.Test.YtcjkeobjojmpfaaGreatMEvqG
import Derived.Test.YtcjkeobjojmpfaaGreatMEvqM
section
/-
  A SET OF NAMES as a map of bools: how it lies in memory; which event of a list is there twice.
-/
namespace Go.Proofs.YtcjkeobjojmpfaaGreat
open Go.RowKit Go.Shelf

theorem run_makeMap_h (m : Nat) (w : World) : (Instr.makeMap 109 (some (.int .i64 (m : Int)))).run Tryz.prog w = .ok (.map (some w.heap.size)) (w.alloc (.map #[] 0)) := by
  simp [Instr.makeMap, run_underlying Tryz.underlying109, asInt, asIntOf, Result.andThen]
theorem zeroBool (w : World) : (zeroValue 4).run Tryz.prog w = .ok (.bool false) w := by kernel_rfl
theorem plainElem_bool_inv {P : Program} {e : TypeId} (he : P.underlying e = some .bool) {v : Value} {z : DataW Unit × List MemPlace} (h : plainElem P e v = some z) : ∃ b, v = .bool b ∧ z = (.lit (.bool b), []) := by
  unfold plainElem at h
  rw [he] at h
  cases v <;> simp at h
  exact ⟨_, rfl, h.symm⟩
/-- BLOCK b IS A MAP of at most n names, which says g. -/
def MB (w : World) (b n : Nat) (g : Int → Int → Bool) : Prop :=
  ∃ D : DataW Unit, w.ownsMap Tryz.prog 97 (plainElem Tryz.prog 4) b n D ∧ ∀ s q, wfI s → wfI q → D.atKey (klN s q) (.lit (.bool false)) = .lit (.bool (g s q))
theorem MB.lt {w : World} {b n : Nat} {g : Int → Int → Bool} (h : MB w b n g) : b < w.heap.size := by obtain ⟨D, h, _⟩ := h; exact h.lt
theorem MB.keep {w w' : World} {b n : Nat} {g : Int → Int → Bool} (h : MB w b n g) (e : w'.heap[b]? = w.heap[b]?) : MB w' b n g := by
  obtain ⟨D, ⟨es, clock, hb, r⟩, h2⟩ := h
  exact ⟨D, ⟨es, clock, e.trans hb, r⟩, h2⟩
theorem MB.below {w w' : World} {b n : Nat} {g : Int → Int → Bool} (h : MB w b n g) (hb : Below w.heap.size w w') : MB w' b n g := h.keep (hb.block b h.lt)
theorem MB.new (w : World) : MB (w.alloc (.map #[] 0)) w.heap.size 0 (fun _ _ => false) :=
  ⟨.map [], World.ownsMap_made w _ _ _, fun _ _ _ _ => rfl⟩
theorem MB.at {w : World} {b n : Nat} {g : Int → Int → Bool} (h : MB w b n g) {s q : Int} (hs : wfI s) (hq : wfI q) :
    (Instr.lookup 109 (.map (some b)) (.agg #[.int .i64 s, .int .i64 q]) false).run Tryz.prog w = .ok (.bool (g s q)) w := by
  obtain ⟨D, h1, h3⟩ := h
  obtain ⟨v, ps, hr, hv⟩ := h1.lookup keyedName Tryz.underlying109 (zeroBool w) (plainElem_bool Tryz.underlying4 false) (keyN hs hq)
  obtain ⟨c, rfl, hz⟩ := plainElem_bool_inv Tryz.underlying4 hv
  have hz1 : D.atKey (klN s q) (.lit (.bool false)) = .lit (.bool c) := congrArg Prod.fst hz
  rw [h3 s q hs hq] at hz1
  have : g s q = c := by simpa using hz1
  rw [hr, this]
theorem MB.store {w : World} {b n : Nat} {g : Int → Int → Bool} (h : MB w b n g) {s q : Int} (hs : wfI s) (hq : wfI q) (hn : n < maxLen) :
    ∃ w', (Instr.mapUpdate 109 (.map (some b)) (.agg #[.int .i64 s, .int .i64 q]) (.bool true)).run Tryz.prog w = .ok () w' ∧ MB w' b (n + 1) (fun a c => if a = s ∧ c = q then true else g a c) ∧ w.grownBy w' (some b) := by
  obtain ⟨D, h1, h3⟩ := h
  obtain ⟨w', hr, o1, o2⟩ := h1.store keyedName Tryz.underlying109 hn (keyN hs hq) (plainElem_bool Tryz.underlying4 true)
  refine ⟨w', hr, ⟨_, o1, fun s' q' hs' hq' => ?_⟩, o2.grown⟩
  show _ = DataW.lit (Lit.bool (if s' = s ∧ q' = q then true else g s' q'))
  by_cases e : s' = s ∧ q' = q
  · obtain ⟨rfl, rfl⟩ := e
    rw [if_pos ⟨rfl, rfl⟩]
    exact Maps.atKey_put_same h1.isMap (klN_key hs hq) _ _
  · rw [if_neg e]
    exact (Maps.atKey_put_other (klN_ne hs' hq' hs hq e) _ _).trans (h3 s' q' hs' hq')
/-- The names of a list's beginning. -/
def metN (l : List Ev) (s q : Int) : Bool := l.any fun y => decide (nmV y = (s, q))
theorem metN_snoc (l : List Ev) (x : Ev) : metN (l ++ [x]) = fun a c => if a = x.1.2.1 ∧ c = x.1.2.2 then true else metN l a c := by
  funext a c
  unfold metN
  rw [List.any_append]
  by_cases e : a = x.1.2.1 ∧ c = x.1.2.2
  · obtain ⟨rfl, rfl⟩ := e
    simp [nmV]
  · rw [if_neg e]
    have : ¬ (x.1.2 = (a, c)) := fun c2 => e ⟨(congrArg Prod.fst c2).symm, (congrArg Prod.snd c2).symm⟩
    simp [this]
/-- An event of a list is there, in the queue, or before it in the list. -/
def TwiceAt (L l : List Ev) (k : Nat) : Prop := (∃ y ∈ L, nmV y = nmV (vn l k)) ∨ metN (l.take k) (vn l k).1.2.1 (vn l k).1.2.2 = true
/-- Which event is told. -/
def TwiceIs (L l : List Ev) (r : Int) : Prop := (r = -1 ∧ ∀ k : Nat, k < l.length → ¬ TwiceAt L l k) ∨ ∃ k : Nat, r = (k : Int) ∧ k < l.length ∧ TwiceAt L l k ∧ ∀ j : Nat, j < k → ¬ TwiceAt L l j
end Go.Proofs.YtcjkeobjojmpfaaGreat
end

section
/-
  LISTS OF EVENTS that begin anywhere in their block.
-/
namespace Go.Proofs.YtcjkeobjojmpfaaGreat
open Go.RowKit

/-- WHAT THE VALUE OF A LIST IS that begins at any place of its block. -/
def LO (w : World) (tv : Value) (t : List Ev) : Prop := (tv = .slice none 0 0 ∧ t = []) ∨ ∃ g o cap, tv = .slice (some ⟨g, o, none⟩) t.length cap ∧ g < w.heap.size ∧ t.length ≤ cap ∧ (∀ i, i < t.length → VAt w g (o + i * 5) (vn t i)) ∧ cap ≤ maxLen
theorem LV.lo {w : World} {tv : Value} {t : List Ev} (h : LV w tv t) : LO w tv t := by
  rcases h with h | ⟨g, cap, rfl, hr, hm⟩
  · exact .inl h
  · exact .inr ⟨g, 0, cap, rfl, hr.lt, hr.le, fun i hi => by rw [Nat.zero_add]; exact hr.cell i hi, hm⟩
theorem LO.keep {w w' : World} {tv : Value} {t : List Ev} (h : LO w tv t) (hs : w.heap.size ≤ w'.heap.size) (e : ∀ k, tv.ownBlock = some k → w'.heap[k]? = w.heap[k]?) : LO w' tv t := by
  rcases h with h | ⟨g, o, cap, rfl, hl, hle, hr, hm⟩
  · exact .inl h
  · exact .inr ⟨g, o, cap, rfl, Nat.lt_of_lt_of_le hl hs, hle, fun i hi => (hr i hi).keep (e g rfl), hm⟩
theorem LO.lt {w : World} {tv : Value} {t : List Ev} (h : LO w tv t) : ∀ k, tv.ownBlock = some k → k < w.heap.size := by
  rcases h with ⟨rfl, _⟩ | ⟨g, o, cap, rfl, hl, _⟩
  · intro k hk; cases hk
  · intro k hk; cases hk; exact hl
theorem LO.below {w w' : World} {tv : Value} {t : List Ev} (h : LO w tv t) (hb : Below w.heap.size w w') : LO w' tv t := h.keep hb.size fun k hk => hb.block k (h.lt k hk)
theorem LO.shape {w : World} {tv : Value} {t : List Ev} (h : LO w tv t) : ∃ a c, tv = .slice a t.length c ∧ c ≤ maxLen ∧ t.length ≤ c := by
  rcases h with ⟨rfl, rfl⟩ | ⟨g, o, cap, rfl, _, hle, hr, hm⟩
  · exact ⟨none, 0, rfl, Nat.zero_le _, Nat.zero_le _⟩
  · exact ⟨_, _, rfl, hm, hle⟩
theorem vn_drop (l : List Ev) (n i : Nat) : vn (l.drop n) i = vn l (n + i) := by
  unfold vn
  rw [List.getD_eq_getElem?_getD, List.getD_eq_getElem?_getD, List.getElem?_drop]
theorem vn_takeI {l : List Ev} {n i : Nat} (h : i < n) : vn (l.take n) i = vn l i := by
  unfold vn
  rw [List.getD_eq_getElem?_getD, List.getD_eq_getElem?_getD, List.getElem?_take_of_lt h]
/-- What is left of a list behind its first n. -/
theorem VR.dropO {w : World} {g cap : Nat} {t : List Ev} (h : VR w g cap t) (n : Nat) (hn : n ≤ t.length) (hm : cap ≤ maxLen) : LO w (.slice (some ⟨g, n * 5, none⟩) (t.length - n) (cap - n)) (t.drop n) := by
  have hle := h.le
  refine .inr ⟨g, n * 5, cap - n, by rw [List.length_drop], h.lt, by rw [List.length_drop]; omega, fun i hi => ?_, by omega⟩
  rw [List.length_drop] at hi
  rw [vn_drop, ← Nat.add_mul]
  exact h.cell (n + i) (by omega)
/-- The first n of a list. -/
theorem VR.takeV {w : World} {g cap : Nat} {t : List Ev} (h : VR w g cap t) (n : Nat) (hn : n ≤ t.length) : VR w g cap (t.take n) := by
  have hle := h.le
  refine ⟨h.blk, by rw [List.length_take]; omega, fun i hi => ?_⟩
  rw [List.length_take] at hi
  rw [vn_takeI (by omega)]
  exact h.cell i (by omega)
/-- Where the k-th event lies. -/
theorem LO.at {w : World} {la : Option Addr} {n lc : Nat} {t : List Ev} (h : LO w (.slice la n lc) t) {k : Nat} (hk : k < t.length) : ∃ g o, la = some ⟨g, o, none⟩ ∧ g < w.heap.size ∧ VAt w g (o + k * 5) (vn t k) := by
  rcases h with ⟨_, e⟩ | ⟨g, o, c, e, hl, _, hr, _⟩
  · rw [e] at hk; cases hk
  · simp at e
    exact ⟨g, o, e.1, hl, hr k hk⟩
end Go.Proofs.YtcjkeobjojmpfaaGreat
end

section
/-
  CONTRACT of evq's twice.
-/
namespace Go.Proofs.YtcjkeobjojmpfaaGreat
open Go.RowKit Go.Shelf

set_option maxRecDepth 100000 in
set_option maxHeartbeats 4000000 in
theorem twiceO_calls {w : World} {q : Nat} {G : Nat → Prop} {cap U : Nat} {L : List Ev} (h : QA w q G cap U L) (lv : Value) (l : List Ev) (hv : LO w lv l) (hr : ∀ x ∈ l, RightV x) (hlen : l.length ≤ 1000) :
    Calls Tryz.prog 44 #[.pointer (some ⟨q, 0, none⟩), lv] w fun e w' => ∃ r, e = .returned (.int .i64 r) ∧ TwiceIs L l r ∧ Below w.heap.size w w' := by
  obtain ⟨la, lc, rfl, hlc, hle⟩ := hv.shape
  have HV := Lib.hid hv
  have HR := Lib.hid hr
  have HQ := Lib.hid h
  have hmk := run_makeMap_h l.length w
  clear hv hr h
  go_enter Tryz.func44, Tryz.ntmps44
  go_wp2_with fail
  have hb0 : Below w.heap.size w (w.alloc (.map #[] 0)) := (Below.refl _ w).alloc (Nat.le_refl _) _
  have HM0 := Lib.hid (And.intro (MB.new w) hb0)
  clear hb0
  go_loopw [16] (fun jv wr => ∃ k : Nat, k ≤ l.length ∧ jv = .int .i64 (k : Int) ∧ (MB wr w.heap.size k (metN (l.take k)) ∧ Below w.heap.size w wr) ∧ ∀ j : Nat, j < k → ¬ TwiceAt L l j) (fun jv _ => l.length - (intOf jv).toNat)
  case atStart => exact ⟨0, Nat.zero_le _, by simp, HM0.out, fun j hj => absurd hj (Nat.not_lt_zero j)⟩
  case round =>
    obtain ⟨k, hk, rfl, ⟨hm, hbw⟩, hno⟩ := hrel
    have HNo := Lib.hid hno
    by_cases hlt : k < l.length
    · have e1 : (k : Int) < (l.length : Int) := by omega
      have hrt := HR.out _ (vn_mem hlt)
      have hrow : ∃ g o, la = some ⟨g, o, none⟩ ∧ VAt wr g (o + k * 5) (vn l k) := by
        obtain ⟨g, o, e, hl, hr⟩ := HV.out.at hlt
        exact ⟨g, o, e, hr.keep (hbw.block g hl)⟩
      obtain ⟨g, o, rfl, v0, v1, v2, v3, v4⟩ := hrow
      obtain ⟨p, ev, M, S, f, hb0, hls, -⟩ := HQ.out.ex
      have hb := hb0.below hbw
      obtain ⟨x, hxe⟩ : ∃ x, vn l k = x := ⟨_, rfl⟩
      rw [hxe] at hrt v0 v1 v2 v3 v4
      have HXe := Lib.hid hxe
      have hwf : wfI x.1.2.1 ∧ wfI x.1.2.2 := by
        obtain ⟨⟨h1, h2, h3⟩, _⟩ := hrt
        exact ⟨wfI_of (by omega), wfI_of (by omega)⟩
      have HTw := Lib.hid (show (f x.1.2.1 x.1.2.2).isSome = true ∨ metN (l.take k) x.1.2.1 x.1.2.2 = true ↔ TwiceAt L l k from by
        unfold TwiceAt
        rw [hxe, hls]
        constructor
        · rintro (c | c)
          · left
            obtain ⟨⟨i, li⟩, hi⟩ := Option.isSome_iff_exists.1 c
            obtain ⟨i1, i2, i3, _⟩ := (hb.st.names _ _ _ _).1 hi
            exact ⟨_, (hb.st.mem _).2 ⟨i, i1, i2, rfl⟩, i3⟩
          · exact .inr c
        · rintro (⟨y, hy, e⟩ | c)
          · left
            cases hf : f x.1.2.1 x.1.2.2 with
            | some r => rfl
            | none => exact absurd e ((hb.st.none_iff _ _).1 hf y hy)
          · exact .inr c)
      have HNm := Lib.hid (nameOf_calls x)
      unfold vV at HNm
      have HB := Lib.hid hb
      have HM := Lib.hid hm
      have HBW := Lib.hid hbw
      have hba : Below wr.heap.size wr (wr.alloc (.cells #[.int .i64 x.1.1, .int .i64 x.1.2.1, .int .i64 x.1.2.2, .int .i64 x.2.1, .int .i64 x.2.2] 33)) := (Below.refl _ wr).alloc (Nat.le_refl _) _
      have HBa := Lib.hid hba
      clear hno hm hbw hb hb0 hls hxe hrt hba HM0
      go_upto_region 6 with (first
        | (go_at_call 62; refine (HNm.out _).mono ?_; rintro e w5 ⟨rfl, b5⟩; have B5 := Lib.hid (HBa.out.trans (b5.mono HBa.out.size)); clear b5)
        | fail)
      obtain ⟨nb, hnb⟩ : ∃ nb, w5.heap.size = nb := ⟨_, rfl⟩
      have hN0 : (w5.alloc (.cells #[.int .i64 x.1.2.1, .int .i64 x.1.2.2] 97)).heap[w5.heap.size]? = some (.cells #[.int .i64 x.1.2.1, .int .i64 x.1.2.2] 97 (0, 0)) := World.alloc_heap_new w5 _
      have B6 := Lib.hid (B5.out.alloc B5.out.size (.cells #[.int .i64 x.1.2.1, .int .i64 x.1.2.2] 97))
      obtain ⟨W6, hW6⟩ : ∃ W6, w5.alloc (.cells #[.int .i64 x.1.2.1, .int .i64 x.1.2.2] 97) = W6 := ⟨_, rfl⟩
      rw [hnb] at hN0 ⊢
      rw [hW6] at hN0 B6 ⊢
      have HN0 := Lib.hid hN0
      clear hW6 hnb v0 v1 v2 v3 v4
      have hn0 : W6.cell? ⟨nb, 0, none⟩ = some (.int .i64 x.1.2.1) := by simp [World.cell?, hN0]
      have hn1 : W6.cell? ⟨nb, 1, none⟩ = some (.int .i64 x.1.2.2) := by simp [World.cell?, hN0]
      clear hN0
      have hbd : Below W6.heap.size W6 W6.drew := (Below.refl _ _).drew
      have hbz : Below W6.heap.size W6 (W6.alloc (.cells #[.int .i64 0, .int .i64 0] 94)).drew := ((Below.refl _ _).alloc (Nat.le_refl _) _).drew
      obtain ⟨B, hB⟩ : ∃ B, (f x.1.2.1 x.1.2.2).isSome = B := ⟨_, rfl⟩
      have HQ6 := Lib.hid (HB.out.below B6.out)
      have hlk1 := (HQ6.out.below hbd).nam.look hwf.1 hwf.2
      have hlk2 := (HQ6.out.below hbz).nam.look hwf.1 hwf.2
      rw [hB] at hlk1 hlk2 HTw
      generalize fP (f x.1.2.1 x.1.2.2) = fp, fL (f x.1.2.1 x.1.2.2) = fl at hlk1 hlk2
      obtain ⟨-, -, -, d3, -, -⟩ := ownQ_cells (HQ6.out.below hbd).own
      obtain ⟨-, -, -, f3, -, -⟩ := ownQ_cells (HQ6.out.below hbz).own
      have hm0 : W6.drew.cell? ⟨nb, 0, none⟩ = some (.int .i64 x.1.2.1) := hn0
      have hm1 : W6.drew.cell? ⟨nb, 1, none⟩ = some (.int .i64 x.1.2.2) := hn1
      have hz : (W6.alloc (.cells #[.int .i64 0, .int .i64 0] 94)).drew.heap[nb]? = some (.cells #[.int .i64 x.1.2.1, .int .i64 x.1.2.2] 97 (0, 0)) := (hbz.block nb (Array.getElem?_eq_some_iff.1 HN0.out).1).trans HN0.out
      have hk0 : (W6.alloc (.cells #[.int .i64 0, .int .i64 0] 94)).drew.cell? ⟨nb, 0, none⟩ = some (.int .i64 x.1.2.1) := by simp only [World.cell?, hz]; rfl
      have hk1 : (W6.alloc (.cells #[.int .i64 0, .int .i64 0] 94)).drew.cell? ⟨nb, 1, none⟩ = some (.int .i64 x.1.2.2) := by simp only [World.cell?, hz]; rfl
      clear hz hbd hbz hB
      go_cut [9, 10] from 23 to 31 (fun s9 s10 wx => s10 = .bool B ∧ Below W6.heap.size W6 wx)
      case first =>
        go_region_law (fail)
        all_goals
          go_wp2_with fail
          go_meet
          exact ⟨rfl, ((Below.refl _ _).alloc (Nat.le_refl _) _).drew⟩
      case rest =>
        obtain ⟨rfl, hbx⟩ := hcut
        have hB7 := B6.out.trans (hbx.mono B6.out.size)
        have HM7 := Lib.hid (HM.out.below hB7)
        have HB7 := Lib.hid (HBW.out.trans (hB7.mono HBW.out.size))
        have hz : wc.heap[nb]? = some (.cells #[.int .i64 x.1.2.1, .int .i64 x.1.2.2] 97 (0, 0)) := (hbx.block nb (Array.getElem?_eq_some_iff.1 HN0.out).1).trans HN0.out
        have z0 : wc.cell? ⟨nb, 0, none⟩ = some (.int .i64 x.1.2.1) := by simp [World.cell?, hz]
        have z1 : wc.cell? ⟨nb, 1, none⟩ = some (.int .i64 x.1.2.2) := by simp [World.cell?, hz]
        have hmt := HM7.out.at hwf.1 hwf.2
        obtain ⟨w8, hup, m8, g8⟩ := HM7.out.store hwf.1 hwf.2 (show k < maxLen by unfold maxLen; omega)
        have HUp := Lib.hid (And.intro m8 g8)
        obtain ⟨C, hC⟩ : ∃ C, metN (l.take k) x.1.2.1 x.1.2.2 = C := ⟨_, rfl⟩
        rw [hC] at hmt HTw
        clear hbx hB7 hz m8 g8 hC hlk1 hlk2 d3 f3 hm0 hm1 hk0 hk1 hn0 hn1 HN0 HQ6 B6 B5
        cases B with
        | true =>
          go_wp2_with fail
          go_ret
          exact ⟨k, rfl, .inr ⟨k, rfl, hlt, HTw.out.1 (by simp), HNo.out⟩, HB7.out⟩
        | false =>
          cases C with
          | true =>
            go_wp2_with fail
            go_ret
            exact ⟨k, rfl, .inr ⟨k, rfl, hlt, HTw.out.1 (by simp), HNo.out⟩, HB7.out⟩
          | false =>
            go_wp2_with fail
            go_roundw
            case rel =>
              refine ⟨k + 1, hlt, by go_num, ⟨?_, ?_⟩, fun j hj => ?_⟩
              · rw [take_vn _ _ hlt, HXe.out, metN_snoc]
                exact HUp.out.1
              · exact HB7.out.grown HUp.out.2 HB7.out.size (fun j hj => by cases hj; exact Nat.le_refl _)
              · rcases Nat.lt_or_ge j k with c | c
                · exact HNo.out j c
                · obtain rfl : j = k := by omega
                  intro c2
                  rcases HTw.out.2 c2 with c3 | c3 <;> cases c3
            case measure => simp [intOf]; omega
    · obtain rfl : k = l.length := by omega
      clear hno hm
      go_wp2_with fail
      go_ret
      exact ⟨-1, rfl, .inl ⟨rfl, HNo.out⟩, hbw⟩
theorem twiceQ_calls {w : World} {q : Nat} {G : Nat → Prop} {cap U : Nat} {L : List Ev} (h : QA w q G cap U L) (lv : Value) (l : List Ev) (hv : LV w lv l) (hr : ∀ x ∈ l, RightV x) (hlen : l.length ≤ 1000) :
    Calls Tryz.prog 44 #[.pointer (some ⟨q, 0, none⟩), lv] w fun e w' => ∃ r, e = .returned (.int .i64 r) ∧ TwiceIs L l r ∧ Below w.heap.size w w' := twiceO_calls h lv l hv.lo hr hlen
end Go.Proofs.YtcjkeobjojmpfaaGreat
end

section
/-
  CONTRACTS of slices.IndexFunc at wrong, and of evq's PutAll and Put.
-/
namespace Go.Proofs.YtcjkeobjojmpfaaGreat
open Go.RowKit Go.Shelf

/-- Which event is the first that is not right. -/
def WrongIs (l : List Ev) (r : Int) : Prop := (r = -1 ∧ ∀ k : Nat, k < l.length → RightV (vn l k)) ∨ ∃ k : Nat, r = (k : Int) ∧ k < l.length ∧ ¬ RightV (vn l k) ∧ ∀ j : Nat, j < k → RightV (vn l j)
set_option maxRecDepth 100000 in
set_option maxHeartbeats 4000000 in
theorem indexO_calls {w : World} (lv : Value) (l : List Ev) (hv : LO w lv l) (hlen : l.length ≤ 1000) :
    Calls Tryz.prog 18 #[lv, .func (.func 43) #[] #[]] w fun e w' => ∃ r, e = .returned (.int .i64 r) ∧ WrongIs l r ∧ Below w.heap.size w w' := by
  obtain ⟨la, lc, rfl, hlc, hle⟩ := hv.shape
  have HV := Lib.hid hv
  clear hv
  go_enter Tryz.func18, Tryz.ntmps18
  go_wp2_with fail
  go_loopw [8] (fun jv wr => ∃ k : Nat, k ≤ l.length ∧ jv = .int .i64 (k : Int) ∧ Below w.heap.size w wr ∧ ∀ j : Nat, j < k → RightV (vn l j)) (fun jv _ => l.length - (intOf jv).toNat)
  case atStart => exact ⟨0, Nat.zero_le _, by simp, Below.refl _ _, fun j hj => absurd hj (Nat.not_lt_zero j)⟩
  case round =>
    obtain ⟨k, hk, rfl, hbw, hno⟩ := hrel
    have HNo := Lib.hid hno
    by_cases hlt : k < l.length
    · have e1 : (k : Int) < (l.length : Int) := by omega
      have hrow : ∃ g o, la = some ⟨g, o, none⟩ ∧ VAt wr g (o + k * 5) (vn l k) := by
        obtain ⟨g, o, e, hl, hr⟩ := HV.out.at hlt
        exact ⟨g, o, e, hr.keep (hbw.block g hl)⟩
      obtain ⟨g, o, rfl, v0, v1, v2, v3, v4⟩ := hrow
      obtain ⟨x, hxe⟩ : ∃ x, vn l k = x := ⟨_, rfl⟩
      have HXe := Lib.hid hxe
      rw [hxe] at v0 v1 v2 v3 v4
      have HBW := Lib.hid hbw
      have HW := Lib.hid (wrongV_calls x)
      unfold vV at HW
      clear hno hbw hxe
      by_cases hr : RightV x
      · rw [show decide (RightV x) = true by simp [hr]] at HW
        have HRt := Lib.hid hr
        clear hr
        go_wp2_with (first | (go_at_call 43; refine (HW.out _).mono ?_; rintro e w5 ⟨rfl, b5⟩; have B5 := Lib.hid (HBW.out.trans (b5.mono HBW.out.size)); clear b5) | fail)
        go_roundw
        case rel =>
          refine ⟨k + 1, hlt, by go_num, B5.out, fun j hj => ?_⟩
          rcases Nat.lt_or_ge j k with c | c
          · exact HNo.out j c
          · obtain rfl : j = k := by omega
            rw [HXe.out]; exact HRt.out
        case measure => simp [intOf]; omega
      · rw [show decide (RightV x) = false by simp [hr]] at HW
        have HRt := Lib.hid hr
        clear hr
        go_wp2_with (first | (go_at_call 43; refine (HW.out _).mono ?_; rintro e w5 ⟨rfl, b5⟩; have B5 := Lib.hid (HBW.out.trans (b5.mono HBW.out.size)); clear b5) | fail)
        go_ret
        exact ⟨k, rfl, .inr ⟨k, rfl, hlt, by rw [HXe.out]; exact HRt.out, HNo.out⟩, B5.out⟩
    · obtain rfl : k = l.length := by omega
      clear hno
      have HBW := Lib.hid hbw
      go_wp2_with fail
      go_ret
      exact ⟨-1, rfl, .inl ⟨rfl, HNo.out⟩, hbw⟩
/-- What PutAll tells, and what it leaves. -/
def PutIs (cap : Nat) (L l : List Ev) (r e : Int) (L' : List Ev) : Prop :=
  (e = 100 ∧ L' = L ∧ ∃ k : Nat, r = (k : Int) ∧ k < l.length ∧ ¬ RightV (vn l k) ∧ ∀ j : Nat, j < k → RightV (vn l j)) ∨
  (e = 101 ∧ L' = L ∧ (∀ x ∈ l, RightV x) ∧ ∃ k : Nat, r = (k : Int) ∧ k < l.length ∧ TwiceAt L l k ∧ ∀ j : Nat, j < k → ¬ TwiceAt L l j) ∨
  (e = 4 ∧ L' = L ∧ (∀ x ∈ l, RightV x) ∧ r = -1 ∧ (∀ k : Nat, k < l.length → ¬ TwiceAt L l k) ∧ cap < L.length + l.length) ∨
  (e = 0 ∧ L' = l.foldl (fun acc x => insV x acc) L ∧ (∀ x ∈ l, RightV x) ∧ r = -1 ∧ (∀ k : Nat, k < l.length → ¬ TwiceAt L l k) ∧ L.length + l.length ≤ cap)
theorem all_vn {l : List Ev} {P : Ev → Prop} (h : ∀ k : Nat, k < l.length → P (vn l k)) : ∀ x ∈ l, P x := by
  intro x hx
  obtain ⟨k, hk, rfl⟩ := List.getElem_of_mem hx
  have := h k hk
  have e := vn_get hk
  rw [List.getElem?_eq_getElem hk] at e
  rwa [← Option.some.inj e] at this
set_option maxRecDepth 100000 in
set_option maxHeartbeats 4000000 in
theorem putAllO_calls {w : World} {q : Nat} {G : Nat → Prop} {cap U : Nat} {L : List Ev} (h : QA w q G cap U L) (hU : U + 1000 < 4294967296) (lv : Value) (l : List Ev) (hv : LO w lv l) (hG : ∀ k, lv.ownBlock = some k → ¬ G k) (hlen : l.length ≤ 1000) :
    Calls Tryz.prog 12 #[.pointer (some ⟨q, 0, none⟩), lv] w fun e w' => ∃ r c L', e = .returned (.tuple #[.int .i64 r, .int .i64 c]) ∧ PutIs cap L l r c L' ∧ QStep w w' q G cap (U + l.length) L' := by
  have HI := Lib.hid (by obtain ⟨p, ev, M, S, f, hb, -, -⟩ := h.ex; exact isQ_calls hb.own)
  obtain ⟨la, lc, rfl, hlc, hle⟩ := hv.shape
  have HV := Lib.hid hv
  have HQ := Lib.hid h
  have HG := Lib.hid hG
  have HW := Lib.hid (indexO_calls _ l hv hlen)
  have HSm := Lib.hid (show ∀ W, Below w.heap.size w W → QStep w W q G cap (U + l.length) L from fun W hb => QStep.same (HQ.out.mono (by omega)) hb)
  have HT := Lib.hid (show ∀ W, Below w.heap.size w W → (∀ x ∈ l, RightV x) → Calls Tryz.prog 44 #[.pointer (some ⟨q, 0, none⟩), .slice la l.length lc] W fun e w' => ∃ r, e = .returned (.int .i64 r) ∧ TwiceIs L l r ∧ Below w.heap.size w w' from fun W hb hr => (twiceO_calls (HQ.out.below hb) _ l (HV.out.below hb) hr hlen).mono (by
    rintro e w' ⟨r, h1, h2, h3⟩
    exact ⟨r, h1, h2, hb.trans (h3.mono hb.size)⟩))
  have HRm := Lib.hid (show ∀ W, Below w.heap.size w W → Calls Tryz.prog 23 #[.pointer (some ⟨q, 0, none⟩)] W fun e w' => e = .returned (.int .i64 ((cap - L.length : Nat) : Int)) ∧ Below w.heap.size w w' from fun W hb => (roomQ_calls (HQ.out.below hb)).mono (by
    rintro e w' ⟨h1, h3⟩
    exact ⟨h1, hb.trans (h3.mono hb.size)⟩))
  have hcl := h.facts.2.2.1
  clear hv h hG
  have hne : ∀ k : Nat, ((k : Int) == -1) = false := fun k => by rw [beq_eq_false_iff_ne]; omega
  go_enter Tryz.func12, Tryz.ntmps12
  go_wp2_with (first
    | (go_at_call 42; refine HI.out.mono ?_; rintro e w2 ⟨rfl, rfl⟩)
    | fail)
  refine HW.out.mono ?_
  rintro e w3 ⟨r, rfl, (⟨rfl, hw⟩ | ⟨k, rfl, h1, h2, h3⟩), b3⟩
  · have B3 := Lib.hid b3
    have HRt := Lib.hid (all_vn hw)
    clear hw b3
    go_wp2_with fail
    refine (HT.out _ B3.out HRt.out).mono ?_
    rintro e w4 ⟨r, rfl, (⟨rfl, ht⟩ | ⟨k, rfl, h1, h2, h3⟩), b4⟩
    · have B4 := Lib.hid b4
      have HTn := Lib.hid ht
      clear ht b4
      go_wp2_with fail
      refine (HRm.out _ B4.out).mono ?_
      rintro e w5 ⟨rfl, b5⟩
      have B5 := Lib.hid b5
      clear b5
      by_cases hfull : ((cap - L.length : Nat) : Int) < (l.length : Int)
      · go_wp2_with fail
        go_ret2
        exact ⟨_, _, L, rfl, .inr (.inr (.inl ⟨rfl, rfl, HRt.out, rfl, HTn.out, by omega⟩)), HSm.out _ B5.out⟩
      · have hfit : L.length + l.length ≤ cap := by omega
        have HFit := Lib.hid hfit
        have HS0 := Lib.hid (QStep.same HQ.out B5.out)
        have hd : decide (cap - L.length < l.length) = false := decide_eq_false (by omega)
        clear hfit
        go_wp2_with fail
        go_loopw [31] (fun jv wr => ∃ k : Nat, k ≤ l.length ∧ jv = .int .i64 (k : Int) ∧ QStep w wr q G cap (U + k) ((l.take k).foldl (fun acc x => insV x acc) L)) (fun jv _ => l.length - (intOf jv).toNat)
        case atStart => exact ⟨0, Nat.zero_le _, by simp, HS0.out⟩
        case round =>
          obtain ⟨k, hk, rfl, hst⟩ := hrel
          have HS := Lib.hid hst
          by_cases hlt : k < l.length
          · have e1 : (k : Int) < (l.length : Int) := by omega
            obtain ⟨G', hq, hoff, hfoot⟩ := hst.ex
            have hrow : ∃ g o, la = some ⟨g, o, none⟩ ∧ VAt wr g (o + k * 5) (vn l k) := by
              obtain ⟨g, o, e, hl, hr⟩ := HV.out.at hlt
              exact ⟨g, o, e, hr.keep (hoff.block g hl (HG.out g (by rw [e]; rfl)))⟩
            obtain ⟨g, o, rfl, v0, v1, v2, v3, v4⟩ := hrow
            obtain ⟨x, hxe⟩ : ∃ x, vn l k = x := ⟨_, rfl⟩
            have HXe := Lib.hid hxe
            rw [hxe] at v0 v1 v2 v3 v4
            have hnot := HTn.out k hlt
            have hbox : Below wr.heap.size wr (wr.alloc (.cells #[.int .i64 x.1.1, .int .i64 x.1.2.1, .int .i64 x.1.2.2, .int .i64 x.2.1, .int .i64 x.2.2] 33)) := (Below.refl _ wr).alloc (Nat.le_refl _) _
            have HA := Lib.hid (addQ_calls (hq.below hbox) x (by rw [← hxe]; exact HRt.out _ (vn_mem hlt)) (fun y hy e => by
              rw [foldl_ins_mem] at hy
              apply hnot
              unfold TwiceAt
              rw [hxe]
              rcases hy with hy | hy
              · right
                exact List.any_eq_true.2 ⟨y, hy, by simpa using e⟩
              · exact .inl ⟨y, hy, e⟩) (by rw [foldl_ins_len, List.length_take]; have := HFit.out; omega) (by omega))
            unfold vV at HA
            have HO := Lib.hid (And.intro (hoff.to (Off.of_below hbox)) hfoot)
            clear hst hq hoff hfoot hnot hbox hxe HS0
            go_wp2_with (first | (go_at_call 45; refine HA.out.mono ?_; rintro e w6 ⟨⟨v, rfl⟩, hs6⟩; have HS6 := Lib.hid hs6; clear hs6) | fail)
            go_roundw
            case rel =>
              have hfin : QStep w w6 q G cap (U + (k + 1)) ((l.take (k + 1)).foldl (fun acc x => insV x acc) L) := by
                have := QStep.trans HO.out.1 (fun k hk => HO.out.2 k hk) HS6.out
                rw [take_vn _ _ hlt, List.foldl_append, HXe.out]
                exact this
              exact ⟨k + 1, hlt, by go_num, hfin⟩
            case measure => simp [intOf]; omega
          · obtain rfl : k = l.length := by omega
            clear hst
            go_wp2_with fail
            go_ret2
            have := HS.out
            rw [List.take_length] at this
            exact ⟨_, _, _, rfl, .inr (.inr (.inr ⟨rfl, rfl, HRt.out, rfl, HTn.out, HFit.out⟩)), this⟩
    · have HK := Lib.hid (And.intro h1 (And.intro h2 h3))
      have B4 := Lib.hid b4
      clear h1 h2 h3 b4
      have hk := hne k
      go_wp2_with fail
      go_ret2
      exact ⟨_, _, L, rfl, .inr (.inl ⟨rfl, rfl, HRt.out, k, rfl, HK.out.1, HK.out.2⟩), HSm.out _ B4.out⟩
  · have HK := Lib.hid (And.intro h1 (And.intro h2 h3))
    have B3 := Lib.hid b3
    clear h1 h2 h3 b3
    have hk := hne k
    go_wp2_with fail
    go_ret2
    exact ⟨_, _, L, rfl, .inl ⟨rfl, rfl, k, rfl, HK.out.1, HK.out.2⟩, HSm.out _ B3.out⟩
theorem putAllQ_calls {w : World} {q : Nat} {G : Nat → Prop} {cap U : Nat} {L : List Ev} (h : QA w q G cap U L) (hU : U + 1000 < 4294967296) (lv : Value) (l : List Ev) (hv : LV w lv l) (hG : ∀ k, lv.ownBlock = some k → ¬ G k) (hlen : l.length ≤ 1000) :
    Calls Tryz.prog 12 #[.pointer (some ⟨q, 0, none⟩), lv] w fun e w' => ∃ r c L', e = .returned (.tuple #[.int .i64 r, .int .i64 c]) ∧ PutIs cap L l r c L' ∧ QStep w w' q G cap (U + l.length) L' := putAllO_calls h hU lv l hv.lo hG hlen
end Go.Proofs.YtcjkeobjojmpfaaGreat
end
