/-
  CONTRACT of slices.Compact, at a slice of keys of the call's own.
-/
import Derived.Test.YtapaccbffhcjdaaDoorKeySortC
import Derived.Test.YtapaccbffhcjdaaDoorIRow
import Derived.BigQuiet
import Derived.Lib.SlicesCompact
import Derived.Laws.CopyRow
namespace Go.Proofs.YtapaccbffhcjdaaDoor
open Go.RowKit Go.Shelf Go.Sort

theorem heap_setC {w : World} {b : Nat} {cs : Array Value} {t : TypeId} (h : w.heap[b]? = some (.cells cs t (0, 0))) (i : Nat) (v : Value) :
    (w.setCell ⟨b, i, none⟩ v).heap[b]? = some (.cells (cs.modify i fun _ => v) t (0, 0)) := by
  obtain ⟨hlt, hk⟩ := Array.getElem?_eq_some_iff.1 h
  show (w.heap.modify b _)[b]? = _
  rw [Array.getElem?_eq_getElem (by rw [Array.size_modify]; exact hlt), Array.getElem_modify_self, hk]
  rfl
/-- THE BLOCK g HOLDS THE KEYS l, with room for cap. -/
abbrev OK3 (w : World) (base g cap : Nat) (l : List Ky) : Prop := OwnK w base (.slice (some ⟨g, 0, none⟩) l.length cap) l
theorem OK3.cells {w : World} {base g cap : Nat} {l : List Ky} (h : OK3 w base g cap l) (j : Nat) (hj : j < l.length) :
    (w.cell? ⟨g, j * 3, none⟩ = some (.int .i64 (kq l j).1) ∧ w.cell? ⟨g, j * 3 + 1, none⟩ = some (.int .i64 (kq l j).2.1) ∧ w.cell? ⟨g, j * 3 + 2, none⟩ = some (.int .i64 (kq l j).2.2)) ∧ ∀ t, w.frozen? ⟨g, t, none⟩ = false := by
  obtain ⟨g0, g1, g2⟩ := cellsL_get l j hj
  have hf : ∀ t, w.frozen? ⟨g, t, none⟩ = false := by
    obtain ⟨_, ⟨e, _⟩ | ⟨g', c, cur, e, _, hg, _⟩⟩ := h
    · cases e
    · cases e
      intro t
      simp [World.frozen?, hg]
  rcases h.row with ⟨rfl, _⟩ | ⟨b, o, c, e, _, _, _, h4⟩
  · cases hj
  · cases e
    refine ⟨⟨?_, ?_, ?_⟩, hf⟩
    · have := h4 _ _ g0; rwa [Nat.zero_add] at this
    · have := h4 _ _ g1; rwa [Nat.zero_add] at this
    · have := h4 _ _ g2; rwa [Nat.zero_add] at this
theorem OK3.take {w : World} {base g cap : Nat} {l : List Ky} (h : OK3 w base g cap l) (k : Nat) (hk : k ≤ l.length) : OwnK w base (.slice (some ⟨g, 0, none⟩) k cap) (l.take k) := by
  obtain ⟨hl, ⟨e, _⟩ | ⟨g', c, cur, e, hb, hg, hn, hm, hs, ht⟩⟩ := h
  · cases e
  · cases e
    unfold OwnK
    rw [List.length_take, Nat.min_eq_left hk]
    refine ⟨by rw [cellsL_len, List.length_take, Nat.min_eq_left hk], .inr ⟨g, cap, cur, rfl, hb, hg, by omega, hm, hs, ?_⟩⟩
    rw [← cellsL_take, ← ht, List.take_take, Nat.min_eq_left (by omega)]
theorem OK3.lt {w : World} {base g cap : Nat} {l : List Ky} (h : OK3 w base g cap l) : base ≤ g ∧ g < w.heap.size ∧ l.length ≤ cap := by
  obtain ⟨_, ⟨e, _⟩ | ⟨g', c, cur, e, hb, hg, hn, _⟩⟩ := h
  · cases e
  · cases e
    exact ⟨hb, (Array.getElem?_eq_some_iff.1 hg).1, hn⟩
theorem OK3.set {w : World} {base g cap : Nat} {l : List Ky} (h : OK3 w base g cap l) (i : Nat) (hi : i < l.length) (k : Ky) :
    OK3 (((w.setCell ⟨g, i * 3, none⟩ (.int .i64 k.1)).setCell ⟨g, i * 3 + 1, none⟩ (.int .i64 k.2.1)).setCell ⟨g, i * 3 + 2, none⟩ (.int .i64 k.2.2)) base g cap (l.set i k) ∧
    w.grownBy (((w.setCell ⟨g, i * 3, none⟩ (.int .i64 k.1)).setCell ⟨g, i * 3 + 1, none⟩ (.int .i64 k.2.1)).setCell ⟨g, i * 3 + 2, none⟩ (.int .i64 k.2.2)) (some g) := by
  refine ⟨?_, grown_trans (grown_trans (grown_set _ _ _ _) (grown_set _ _ _ _)) (grown_set _ _ _ _)⟩
  obtain ⟨hl, ⟨e, _⟩ | ⟨g', c, cur, e, hb, hg, hn, hm, hs, ht⟩⟩ := h
  · cases e
  · cases e
    unfold OK3 OwnK
    rw [List.length_set]
    refine ⟨by rw [cellsL_len, List.length_set], .inr ⟨g, cap, _, rfl, hb, heap_setC (heap_setC (heap_setC hg _ _) _ _) _ _, hn, hm, by simpa using hs, ?_⟩⟩
    apply List.ext_getElem?
    intro t
    by_cases ht3 : t < l.length * 3
    · have hcs : t < cur.size := by omega
      have hj : t / 3 < l.length := by omega
      obtain ⟨a0, a1, a2⟩ := cellsL_get l (t / 3) hj
      obtain ⟨b0, b1, b2⟩ := cellsL_get (l.set i k) (t / 3) (by rw [List.length_set]; exact hj)
      have hold : cur[t]? = (cellsL l)[t]? := by
        rw [← ht, List.getElem?_take_of_lt ht3, Array.getElem?_toList]
      rw [List.getElem?_take_of_lt ht3, Array.getElem?_toList, Array.getElem?_modify, Array.getElem?_modify, Array.getElem?_modify, hold]
      have hr : t % 3 = 0 ∨ t % 3 = 1 ∨ t % 3 = 2 := by omega
      by_cases e : t / 3 = i
      · have hkq : kq (l.set i k) (t / 3) = k := by simp [kq, List.getD_eq_getElem?_getD, e, hi]
        rw [hkq] at b0 b1 b2
        rcases hr with h | h | h
        · rw [show t / 3 * 3 + 0 = t by omega] at a0 b0
          rw [if_neg (by omega), if_neg (by omega), if_pos (by omega), a0, b0]; rfl
        · rw [show t / 3 * 3 + 1 = t by omega] at a1 b1
          rw [if_neg (by omega), if_pos (by omega), if_neg (by omega), a1, b1]; rfl
        · rw [show t / 3 * 3 + 2 = t by omega] at a2 b2
          rw [if_pos (by omega), if_neg (by omega), if_neg (by omega), a2, b2]; rfl
      · have hkq : kq (l.set i k) (t / 3) = kq l (t / 3) := by simp [kq, List.getD_eq_getElem?_getD, List.getElem?_set_ne (Ne.symm e)]
        rw [hkq] at b0 b1 b2
        rw [if_neg (by omega), if_neg (by omega), if_neg (by omega)]
        rcases hr with h | h | h
        · rw [show t / 3 * 3 + 0 = t by omega] at a0 b0
          rw [a0, b0]
        · rw [show t / 3 * 3 + 1 = t by omega] at a1 b1
          rw [a1, b1]
        · rw [show t / 3 * 3 + 2 = t by omega] at a2 b2
          rw [a2, b2]
    · rw [List.getElem?_take_eq_none (by omega), List.getElem?_eq_none (by rw [cellsL_len, List.length_set]; omega)]
/-- clear of what stands behind. -/
theorem run_clearK {w : World} {base g cap : Nat} {l : List Ky} (h : OK3 w base g cap l) (k : Nat) (hk : k ≤ l.length) (c : Nat) (ty : TypeId) :
    ∃ w', (Builtin.clear_ #[28] ty #[.slice (some ⟨g, k * 3, none⟩) (l.length - k) c]).run Tryd.prog w = .ok (.tuple #[]) w' ∧ OwnK w' base (.slice (some ⟨g, 0, none⟩) k cap) (l.take k) ∧ w.grownBy w' (some g) := by
  have hT := OK3.take h k hk
  obtain ⟨hl, ⟨e, _⟩ | ⟨g', c', cur, e, hb, hg, hn, hm, hs, ht⟩⟩ := h
  · cases e
  · cases e
    by_cases h0 : l.length - k = 0
    · refine ⟨w, ?_, hT, grown_refl _ _⟩
      rw [h0]
      simp [Builtin.clear_, run_underlying Tryd.underlying28]
    · have hz : (Builtin.zeroCells (Value.agg #[.int .i64 0, .int .i64 0, .int .i64 0]).cells (l.length - k)).toList.length = (l.length - k) * 3 := by
        rw [Array.length_toList, size_zeroCells]; rfl
      have hone : ∀ u ∈ (Builtin.zeroCells (Value.agg #[.int .i64 0, .int .i64 0, .int .i64 0]).cells (l.length - k)).toList, u.oneCell' = true := by
        intro u hu
        have hc : (Value.agg #[.int .i64 0, .int .i64 0, .int .i64 0]).cells = #[.int .i64 0, .int .i64 0, .int .i64 0] := by rfl
        rw [hc] at hu
        simp only [Builtin.zeroCells, Array.toList_map, List.mem_map] at hu
        obtain ⟨i, hi, rfl⟩ := hu
        have h3 : i % 3 = 0 ∨ i % 3 = 1 ∨ i % 3 = 2 := by omega
        rcases h3 with h | h | h
        all_goals (show ((#[Value.int .i64 0, .int .i64 0, .int .i64 0] : Array Value)[i % 3]!).oneCell' = true; rw [h]; rfl)
      have hst := run_storeCells_at Tryd.prog g (k * 3) 23 (Builtin.zeroCells (Value.agg #[.int .i64 0, .int .i64 0, .int .i64 0]).cells (l.length - k)).toList 0 cur w hg (by rw [hz, hs]; omega) hone
      refine ⟨w.setRow g (cur.toList.take (k * 3 + 0) ++ (Builtin.zeroCells (Value.agg #[.int .i64 0, .int .i64 0, .int .i64 0]).cells (l.length - k)).toList ++ cur.toList.drop (k * 3 + 0 + (Builtin.zeroCells (Value.agg #[.int .i64 0, .int .i64 0, .int .i64 0]).cells (l.length - k)).toList.length)).toArray, ?_, ?_, ⟨rfl, rfl, rfl, by simp, fun j hj hne => setRow_other w g j _ (fun e => hne (by rw [e]))⟩⟩
      · obtain ⟨q, hq⟩ : ∃ q, l.length - k = q + 1 := ⟨l.length - k - 1, by omega⟩
        rw [hq] at hst ⊢
        simp [Builtin.clear_, run_underlying Tryd.underlying28, Tryd.zeroValue23, hst]
      · unfold OwnK
        rw [List.length_take, Nat.min_eq_left hk]
        refine ⟨by rw [cellsL_len, List.length_take, Nat.min_eq_left hk], .inr ⟨g, cap, _, rfl, hb, setRow_heap w g cur _ _ _ hg, by omega, hm, ?_, ?_⟩⟩
        · simp only [List.size_toArray, List.length_append, List.length_take, List.length_drop, hz, Array.length_toList]
          omega
        · rw [← cellsL_take, ← ht, List.take_take, Nat.min_eq_left (by omega)]
          rw [List.append_assoc, List.take_append_of_le_length (by rw [List.length_take, Array.length_toList]; omega), List.take_take]
          congr 1
          omega
theorem grown_drewN {w wr : World} {r : Option Nat} (h : w.grownBy wr r) (q : Nat) : w.grownBy (wr.drewN q) r := ⟨h.os, h.tape, h.output, h.size, h.block⟩
theorem own_drewN {w : World} {b : Nat} {v : Value} {l : List Ky} (h : OwnK w b v l) (q : Nat) : OwnK (w.drewN q) b v l := h
theorem comp_take {l dk : List Ky} {n kk : Nat} (hn : l.length = n) (hd : dk.length = n) (h : Lib.CompInv l.toArray n kk dk.toArray) : dk.take kk = Lib.compact l ∧ (Lib.compact l).length = kk := by
  have e : Lib.compact l = Lib.compactUpTo l.toArray n := by rw [← hn]; rfl
  rw [e]
  have hlt := h.lt
  refine ⟨?_, h.len⟩
  apply List.ext_getElem?
  intro j
  by_cases hj : j < kk
  · rw [List.getElem?_take_of_lt hj, h.low j hj, List.getElem?_eq_getElem (by omega), getElem!_pos _ _ (by simp; omega)]
    rfl
  · rw [List.getElem?_take_eq_none (by omega), List.getElem?_eq_none (by rw [h.len]; omega)]
set_option maxRecDepth 100000 in
set_option maxHeartbeats 4000000 in
theorem compactK_own (g cap base : Nat) (l : List Ky) (w : World) (hO : OK3 w base g cap l) (hsz : l.length ≤ 1000000) :
    Calls Tryd.prog 64 #[.slice (some ⟨g, 0, none⟩) l.length cap] w fun e w' => e = .returned (.slice (some ⟨g, 0, none⟩) (Lib.compact l).length cap) ∧ OwnK w' base (.slice (some ⟨g, 0, none⟩) (Lib.compact l).length cap) (Lib.compact l) ∧ w.grownBy w' (some g) := by
  obtain ⟨n, hn⟩ : ∃ n, l.length = n := ⟨_, rfl⟩
  have HO := Lib.hid hO
  have HN := Lib.hid hn
  have HCap := Lib.hid hO.lt
  rw [hn] at hsz
  have hall : (∀ j, j < n → Lib.keeps l.toArray j = true) → Lib.compact l = l := by
    intro h
    unfold Lib.compact
    show Lib.compactUpTo l.toArray l.length = l
    rw [hn, Lib.compactUpTo_all _ _ h, ← hn]
    have := Lib.range_map_get l.toArray
    rw [List.size_toArray] at this
    exact this
  have HAll := Lib.hid hall
  have hnc : n ≤ cap := by have := hO.lt.2.2; omega
  have HNC := Lib.hid hnc
  clear hO hall
  rw [hn]
  clear hn
  by_cases h2 : n < 2
  · go_enter Tryd.func64, Tryd.ntmps64
    go_wp2
    go_ret
    have e := HAll.out (fun j hj => Lib.keeps_lt_one _ j (by omega))
    rw [e, HN.out]
    refine ⟨rfl, ?_, grown_refl _ _⟩
    have := HO.out
    unfold OK3 at this
    rwa [HN.out] at this
  · go_enter Tryd.func64, Tryd.ntmps64
    go_wp2
    go_loopw [3] (fun s3 wr => ∃ m : Nat, m + 1 ≤ n ∧ s3 = .int .i64 ((m : Int) + 1) ∧ OK3 wr base g cap l ∧ w.grownBy wr (some g) ∧ ∀ j, j < m + 1 → Lib.keeps l.toArray j = true) (fun s3 _ => n - (intOf s3).toNat)
    case atStart => exact ⟨0, by omega, by simp, HO.out, grown_refl _ _, Lib.keeps_lt_one _⟩
    case round =>
      obtain ⟨m, hm, rfl, hO, hG, hK⟩ := hrel
      have HO2 := Lib.hid hO; have HG := Lib.hid hG; have HK := Lib.hid hK
      by_cases hlt : m + 1 < n
      · obtain ⟨⟨a1, a2, a3⟩, fr⟩ := hO.cells (m + 1) (by rw [HN.out]; exact hlt)
        obtain ⟨⟨b1, b2, b3⟩, -⟩ := hO.cells m (by rw [HN.out]; omega)
        obtain ⟨x, hx⟩ : ∃ x, kq l (m + 1) = x := ⟨_, rfl⟩
        obtain ⟨y, hy⟩ : ∃ y, kq l m = y := ⟨_, rfl⟩
        have HX := Lib.hid hx; have HY := Lib.hid hy
        rw [hx] at a1 a2 a3
        rw [hy] at b1 b2 b3
        have hlt' : (m : Int) + 1 < (n : Int) := by omega
        have hEq := fun W => eqlK x.1 x.2.1 x.2.2 y.1 y.2.1 y.2.2 W
        clear hO hG hK hx hy fr h2
        by_cases hxy : x = y
        · have hd : decide ((x.1, x.2.1, x.2.2) = (y.1, y.2.1, y.2.2)) = true := decide_eq_true (show x = y from hxy)
          rw [hd] at hEq
          clear hd
          go_wp2_with fail
          go_quiet (fail)
          have HStart := Lib.hid (show Lib.CompInv l.toArray (m + 1 + (0 + 1)) (m + 1) l.toArray from Lib.CompInv.start HK.out (Lib.keeps_neg (by omega) (by rw [kq_arr, kq_arr, HX.out, Nat.add_sub_cancel, HY.out]; exact hxy)))
          go_wp2_with fail
          clear a1 a2 a3 b1 b2 b3 hEq hxy hlt'
          go_loopw [3, 5] (fun s3 s5 wr2 => ∃ (kk j : Nat) (dk : List Ky), s3 = .int .i64 (kk : Int) ∧ s5 = .int .i64 ((j : Int) + 1) ∧ m + 1 + (j + 1) ≤ n ∧ dk.length = n ∧ OK3 wr2 base g cap dk ∧ w.grownBy wr2 (some g) ∧ Lib.CompInv l.toArray (m + 1 + (j + 1)) kk dk.toArray) (fun _ s5 _ => n - (intOf s5).toNat)
          case atStart => exact ⟨m + 1, 0, l, by go_num, by simp, by omega, HN.out, own_drewN HO2.out _, grown_drewN HG.out _, HStart.out⟩
          case round =>
            obtain ⟨kk, j, dk, rfl, rfl, hj, hdn, hO3, hG3, hI⟩ := hrel
            have HO3 := Lib.hid hO3; have HG3 := Lib.hid hG3; have HI := Lib.hid hI; have HDN := Lib.hid hdn
            have hkk : kk < m + 1 + (j + 1) := hI.lt
            by_cases hlt2 : m + 1 + (j + 1) < n
            · obtain ⟨⟨a1, a2, a3⟩, -⟩ := hO3.cells (m + 1 + (j + 1)) (by omega)
              obtain ⟨⟨b1, b2, b3⟩, -⟩ := hO3.cells (m + 1 + j) (by omega)
              obtain ⟨⟨c1, c2, c3⟩, fr⟩ := hO3.cells kk (by omega)
              have ex : kq dk (m + 1 + (j + 1)) = kq l (m + 1 + (j + 1)) := by
                have := hI.high (m + 1 + (j + 1)) (by omega); rwa [kq_arr, kq_arr] at this
              have ey : kq dk (m + 1 + j) = kq l (m + 1 + j) := by
                have := hI.high (m + 1 + j) (by omega); rwa [kq_arr, kq_arr] at this
              rw [ex, show (m + 1 + (j + 1)) * 3 = (m + 1) * 3 + (j + 1) * 3 by omega] at a1 a2 a3
              rw [ey, show (m + 1 + j) * 3 = (m + 1) * 3 + j * 3 by omega] at b1 b2 b3
              have f1 := fr (kk * 3)
              have f2 := fr (kk * 3 + 1)
              have f3 := fr (kk * 3 + 2)
              obtain ⟨u, hu⟩ : ∃ u, kq l (m + 1 + (j + 1)) = u := ⟨_, rfl⟩
              obtain ⟨v, hv⟩ : ∃ v, kq l (m + 1 + j) = v := ⟨_, rfl⟩
              have HU := Lib.hid hu; have HV := Lib.hid hv
              rw [hu] at a1 a2 a3
              rw [hv] at b1 b2 b3
              have hjN : (j : Int) + 1 < ((n - (m + 1) : Nat) : Int) := by omega
              have hkn : (kk : Int) < (n : Int) := by omega
              have hNe := fun W => neqK u.1 u.2.1 u.2.2 v.1 v.2.1 v.2.2 W
              clear hO3 hG3 hI hu hv fr ex ey
              by_cases huv : u = v
              · have hd : decide ((u.1, u.2.1, u.2.2) = (v.1, v.2.1, v.2.2)) = true := decide_eq_true (show u = v from huv)
                rw [hd, Bool.not_true] at hNe
                clear hd
                have HNext := Lib.hid (show Lib.CompInv l.toArray (m + 1 + (j + 1 + 1)) kk dk.toArray from HI.out.skip (Lib.keeps_neg (by omega) (by rw [kq_arr, kq_arr, HU.out, show m + 1 + (j + 1) - 1 = m + 1 + j by omega, HV.out]; exact huv)))
                clear c1 c2 c3 f1 f2 f3 huv
                go_wp2_with fail
                go_quiet (fail)
                go_wp2
                go_roundw
                case rel => exact ⟨kk, j + 1, dk, rfl, by go_num, by omega, HDN.out, own_drewN HO3.out _, grown_drewN HG3.out _, HNext.out⟩
                case measure => simp [intOf]; omega
              · have hd : decide ((u.1, u.2.1, u.2.2) = (v.1, v.2.1, v.2.2)) = false := decide_eq_false (show ¬ u = v from huv)
                rw [hd, Bool.not_false] at hNe
                clear hd
                have HNext := Lib.hid (show Lib.CompInv l.toArray (m + 1 + (j + 1 + 1)) (kk + 1) (dk.set kk u).toArray from by
                  have h1 := HI.out.keep (by have := HN.out; simp; omega) (Lib.keeps_pos (by rw [kq_arr, kq_arr, HU.out, show m + 1 + (j + 1) - 1 = m + 1 + j by omega, HV.out]; exact huv))
                  rw [kq_arr, HU.out] at h1
                  simp only [List.setIfInBounds_toArray] at h1
                  exact h1)
                clear huv
                go_wp2_with fail
                go_quiet (fail)
                go_wp2
                go_roundw
                case rel => exact ⟨kk + 1, j + 1, dk.set kk u, by go_num, by go_num, by omega, by rw [List.length_set]; exact HDN.out, (OK3.set (own_drewN HO3.out _) kk (by rw [HDN.out]; omega) u).1, grown_trans (grown_drewN HG3.out _) (OK3.set (own_drewN HO3.out _) kk (by rw [HDN.out]; omega) u).2, HNext.out⟩
                case measure => simp [intOf]; omega
            · have hend : m + 1 + (j + 1) = n := by omega
              have hjN : ¬ (j : Int) + 1 < ((n - (m + 1) : Nat) : Int) := by omega
              have hkn : kk < n := by omega
              have hkc : kk < cap := by omega
              have HFin := Lib.hid (comp_take HN.out hdn (by rw [← hend]; exact hI))
              have HKN := Lib.hid hkn
              clear hO3 hG3 hI
              have HO4 := Lib.hid (show dk.length - kk = n - kk ∧ kk ≤ dk.length by rw [HDN.out]; omega)
              obtain ⟨W5, hcl, hr5, hg5⟩ := run_clearK HO3.out kk HO4.out.2 (cap - kk) 0
              rw [HO4.out.1] at hcl
              have HR5 := Lib.hid hr5; have HG5 := Lib.hid hg5
              clear hr5 hg5
              go_wp2
              go_ret
              obtain ⟨e1, e2⟩ := HFin.out
              have h5 := HR5.out
              rw [e1] at h5
              rw [e2]
              exact ⟨rfl, h5, grown_trans HG3.out HG5.out⟩
        · have hd : decide ((x.1, x.2.1, x.2.2) = (y.1, y.2.1, y.2.2)) = false := decide_eq_false (show ¬ x = y from hxy)
          rw [hd] at hEq
          clear hd
          go_wp2_with fail
          go_quiet (fail)
          go_wp2
          go_roundw
          case rel =>
            refine ⟨m + 1, by omega, by go_num, own_drewN HO2.out _, grown_drewN HG.out _, fun j hj => ?_⟩
            by_cases e : j = m + 1
            · subst e
              exact Lib.keeps_pos (by rw [kq_arr, kq_arr, HX.out, Nat.add_sub_cancel, HY.out]; exact hxy)
            · exact HK.out j (by omega)
          case measure => simp [intOf]; omega
      · have hend : m + 1 = n := by omega
        have e := Lib.hid (HAll.out (by rw [← hend]; exact hK))
        have hlt' : ¬ (m : Int) + 1 < (n : Int) := by omega
        clear hO hG hK
        go_wp2
        go_ret
        rw [e.out, HN.out]
        refine ⟨rfl, ?_, HG.out⟩
        have := HO2.out
        unfold OK3 at this
        rwa [HN.out] at this
/-- slices.Compact of any slice of keys of the call's own. -/
theorem compactK_calls (v : Value) (base : Nat) (l : List Ky) (w : World) (hO : OwnK w base v l) (hsz : l.length ≤ 1000000) :
    Calls Tryd.prog 64 #[v] w fun e w' => ∃ v', e = .returned v' ∧ OwnK w' base v' (Lib.compact l) ∧ w.grownBy w' v.ownBlock := by
  rcases hO.2 with ⟨rfl, h0⟩ | ⟨g, cap, cur, rfl, h⟩
  · have hl : l = [] := List.eq_nil_of_length_eq_zero h0
    subst hl
    go_enter Tryd.func64, Tryd.ntmps64
    go_wp2
    go_ret
    exact ⟨_, rfl, OwnK.nil _ _, grown_refl _ _⟩
  · exact (compactK_own g cap base l w hO hsz).mono fun e w' ⟨h1, h2, h3⟩ => ⟨_, h1, h2, h3⟩

set_option maxRecDepth 100000 in
set_option maxHeartbeats 1000000 in
/-- key.Sort, at any slice of keys. -/
theorem Sort_calls (v : Value) (l : List Ky) (w : World) (h : KRow w v l) (hn : l.length ≤ 1000000) :
    Calls Tryd.prog 31 #[v] w fun e w' => ∃ v', e = .returned v' ∧ OwnK w' w.heap.size v' (setK cfK l) ∧ Below w.heap.size w w' := by
  have HC := Lib.hid (fun W (hb : Below w.heap.size w W) => cloneK_calls v l W (h.below hb) hn)
  clear h
  go_enter Tryd.func31, Tryd.ntmps31
  go_wp2_with fail
  refine (HC.out _ (Below.refl _ _)).mono ?_
  rintro e w1 ⟨v1, rfl, ho1, hb1, -⟩
  have HO1 := Lib.hid ho1; have HB1 := Lib.hid hb1
  clear ho1 hb1
  go_wp2_with fail
  refine (sortK_calls v1 l w1 w.heap.size HO1.out hn).mono ?_
  rintro e w2 ⟨rfl, ts, hp, hs, ho2, hg2⟩
  have HO2 := Lib.hid ho2; have HP := Lib.hid hp; have HS := Lib.hid hs
  have HB2 := Lib.hid (HB1.out.grown hg2 HB1.out.size (fun j hj => (World.ownsRow.lt HO1.out j hj).1))
  clear ho2 hg2 hp hs
  go_wp2_with fail
  refine (compactK_calls v1 w.heap.size ts w2 HO2.out (by rw [HP.out.length_eq]; exact hn)).mono ?_
  rintro e w3 ⟨v3, rfl, ho3, hg3⟩
  have HO3 := Lib.hid ho3
  have HB3 := Lib.hid (HB2.out.grown hg3 HB2.out.size (fun j hj => (World.ownsRow.lt HO2.out j hj).1))
  clear ho3 hg3
  go_wp2
  go_ret
  refine ⟨_, rfl, ?_, HB3.out⟩
  have e : Lib.compact ts = setK cfK l := compact_is cfK_good (fun i j hij hj => by rw [kq_arr, kq_arr]; exact HS.out i j hij hj) (fun x => HP.out.mem_iff)
  rw [← e]
  exact HO3.out
end Go.Proofs.YtapaccbffhcjdaaDoor
