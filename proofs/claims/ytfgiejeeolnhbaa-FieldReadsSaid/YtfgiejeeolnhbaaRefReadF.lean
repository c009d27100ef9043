/-
  CONTRACT of fermataref02.Read: the fields with a form, or where the first wrong one begins, or that there are too many bytes; nothing that was there is written.
-/
import Derived.Test.YtfgiejeeolnhbaaReadsP2
import Derived.Test.YtfgiejeeolnhbaaNumRefRead2
import Derived.Deep.CutBlock
import Derived.Deep.DeepCutAuto
namespace Go.Proofs.Ytfgiejeeolnhbaa
open Go.RowKit Pl

def FldsOk (L : List Fld) : Prop := ∀ p ∈ L, Tag64 p.1 ∧ AllB p.2
theorem fldsOk_snoc {L : List Fld} {p : Fld} (h : FldsOk L) (h1 : Tag64 p.1) (h2 : AllB p.2) : FldsOk (L ++ [p]) := by
  intro q hq
  simp only [List.mem_append, List.mem_singleton] at hq
  rcases hq with hq | rfl
  · exact h q hq
  · exact ⟨h1, h2⟩
theorem fldsOk_fb {L : List Fld} (h : FldsOk L) : ∀ i < L.length, AllB (fb L i) := by
  intro i hi
  have : fb L i = L[i].2 := by simp [fb, List.getD_eq_getElem?_getD, hi]
  rw [this]
  exact (h _ (List.getElem_mem hi)).2
theorem FOwnR.row {w : World} {base : Nat} {v : Value} {L : List Fld} (h : FOwnR w base v L) (hk : FldsOk L) : FRow w v L := by
  obtain ⟨V, hV1, hV2, hV3⟩ := h
  exact frow_of hV1 hV2 hV3 (fun p hp => (hk p hp).1) (fldsOk_fb hk)

theorem rr_facts {w2 w3 : World} (hb : Below (w2.drew.alloc (.cells #[.int .i64 0, .slice none 0 0] 97)).heap.size (w2.drew.alloc (.cells #[.int .i64 0, .slice none 0 0] 97)) w3) :
    w3.heap[w2.heap.size]? = some (.cells #[.int .i64 0, .slice none 0 0] 97 (0, 0)) ∧ w3.frozen? ⟨w2.heap.size, 0, none⟩ = false ∧ w3.frozen? ⟨w2.heap.size, 1, none⟩ = false ∧ w3.cell? ⟨w2.heap.size, 0, none⟩ = some (.int .i64 0) ∧ w3.cell? ⟨w2.heap.size, 1, none⟩ = some (.slice none 0 0) := by
  have h0 := World.alloc_heap_new w2.drew (.cells #[.int .i64 0, .slice none 0 0] 97)
  have hs : w2.drew.heap.size = w2.heap.size := rfl
  rw [hs] at h0
  have hblk := (hb.block w2.heap.size (by rw [World.size_alloc, hs]; omega)).trans h0
  exact ⟨hblk, by simp [World.frozen?, hblk], by simp [World.frozen?, hblk], by simp [World.cell?, hblk], by simp [World.cell?, hblk]⟩

theorem rr_endA {w w2 w3 : World} {base : Nat} {u v t : Value} {L : List Fld} {l : List Nat} (hw : base ≤ w2.heap.size) (hB : Below base w w2) (hO : FOwnR w2 base u L) (ho : Own8 w3 w2.drew.heap.size v l) (hb : Below w2.drew.heap.size w2.drew w3) :
    (w3.alloc (.cells #[t, v] 97)).heap[w3.heap.size]? = some (.cells #[t, v] 97 (0, 0)) ∧ Own8 (w3.alloc (.cells #[t, v] 97)) base v l ∧ FOwnR (w3.alloc (.cells #[t, v] 97)) base u L ∧ Below base w (w3.alloc (.cells #[t, v] 97)) := by
  have h1 : Below w2.heap.size w2 w3 := ((Below.refl _ w2).drew).trans hb
  have h2 : Below w2.heap.size w2 (w3.alloc (.cells #[t, v] 97)) := h1.alloc h1.size _
  exact ⟨World.alloc_heap_new _ _, (own_base ho hw).alloc _, hO.keep h2, hB.trans (h2.mono hw)⟩
theorem rr_endB {w w2 w3 : World} {base : Nat} {u v t : Value} {L : List Fld} {l : List Nat} (hw : base ≤ w2.heap.size) (hB : Below base w w2) (hO : FOwnR w2 base u L) (hL : w3.heap[w2.heap.size]? = some (.cells #[.int .i64 0, .slice none 0 0] 97 (0, 0)))
    (ho : Own8 w3 (w2.drew.alloc (.cells #[.int .i64 0, .slice none 0 0] 97)).heap.size v l) (hb : Below (w2.drew.alloc (.cells #[.int .i64 0, .slice none 0 0] 97)).heap.size (w2.drew.alloc (.cells #[.int .i64 0, .slice none 0 0] 97)) w3) :
    ((w3.setCell ⟨w2.heap.size, 0, none⟩ t).setCell ⟨w2.heap.size, 1, none⟩ v).heap[w2.heap.size]? = some (.cells #[t, v] 97 (0, 0)) ∧ Own8 ((w3.setCell ⟨w2.heap.size, 0, none⟩ t).setCell ⟨w2.heap.size, 1, none⟩ v) base v l ∧ FOwnR ((w3.setCell ⟨w2.heap.size, 0, none⟩ t).setCell ⟨w2.heap.size, 1, none⟩ v) base u L ∧ Below base w ((w3.setCell ⟨w2.heap.size, 0, none⟩ t).setCell ⟨w2.heap.size, 1, none⟩ v) := by
  have hs : (w2.drew.alloc (.cells #[.int .i64 0, .slice none 0 0] 97)).heap.size = w2.heap.size + 1 := World.size_alloc _ _
  have h1 : Below w2.heap.size w2 w3 := (((Below.refl _ w2).drew).alloc (Nat.le_refl _) _).trans (hb.mono (by rw [hs]; exact Nat.le_succ _))
  have h2 : Below w2.heap.size w2 ((w3.setCell ⟨w2.heap.size, 0, none⟩ t).setCell ⟨w2.heap.size, 1, none⟩ v) := (h1.setCell (p := ⟨w2.heap.size, 0, none⟩) (Nat.le_refl _) _).setCell (p := ⟨w2.heap.size, 1, none⟩) (Nat.le_refl _) _
  have hN : v.ownBlock ≠ some w2.heap.size := fun e => by
    have := (ho.lt _ e).1
    omega
  exact ⟨setCell_cells (setCell_cells hL 0 t) 1 v, ((own_base ho (by omega)).kept (grownBy_setCell w3 w2.heap.size 0 _) (.inr hN)).kept (grownBy_setCell _ w2.heap.size 1 _) (.inr hN), hO.keep h2, hB.trans (h2.mono hw)⟩

set_option maxRecDepth 100000 in
set_option maxHeartbeats 2000000 in
theorem refReadF_calls (v : Value) (bs : List Nat) (w : World) (h : BRow w v bs) (hlen : bs.length ≤ 20000) :
    Calls Try.prog 64 #[v] w fun e w' => Below w.heap.size w w' ∧ ((16768 < bs.length ∧ e = .returned (.tuple #[.slice none 0 0, .int .i64 0, .int .i64 3])) ∨ (bs.length ≤ 16768 ∧ ((∃ at0, readE bs = some at0 ∧ e = .returned (.tuple #[.slice none 0 0, .int .i64 (at0 : Nat), .int .i64 21])) ∨ (readE bs = none ∧ ∃ v', e = .returned (.tuple #[v', .int .i64 0, .int .i64 0]) ∧ FOwnR w' w.heap.size v' (readV bs) ∧ FldsOk (readV bs) ∧ (readV bs).length ≤ 64 ∧ sumB (readV bs) ≤ 16384)))) := by
  have HR := Lib.hid h
  obtain ⟨va, vc, rfl⟩ := h.shape
  by_cases hl : 16768 < bs.length
  · have d1 : decide ((16768 : Int) < (bs.length : Int)) = true := by simp; omega
    clear h
    go_enter Try.func64, Try.ntmps64
    go_wp2
    go_ret3
    exact ⟨Below.refl _ _, .inl ⟨hl, rfl⟩⟩
  have d1 : decide ((16768 : Int) < (bs.length : Int)) = false := by simp; omega
  have HL := Lib.hid (show bs.length ≤ 16768 by omega)
  clear h hl
  go_enter Try.func64, Try.ntmps64
  go_wp2
  go_loopw [5, 6, 7] (fun o i s wr => ∃ (k : Nat) (L : List Fld), i = .int .i64 k ∧ s = .int .i64 (sumB L) ∧ RdSt bs k L ∧ FldsOk L ∧ FOwnR wr w.heap.size o L ∧ Below w.heap.size w wr) (fun _ i _ _ => bs.length - (intOf i).toNat)
  case atStart => exact ⟨0, [], rfl, rfl, rdSt_nil bs, fun _ h => (by cases h), fownR_nil _ _, Below.refl _ _⟩
  case round =>
    obtain ⟨k, L, rfl, rfl, hst, hok, hown, hbel⟩ := hrel
    have hk := hst.1
    have hsL := hst.2.1
    have hLn := hst.2.2.1
    have HST := Lib.hid hst
    have HK := Lib.hid hok
    have HO := Lib.hid hown
    have HB := Lib.hid hbel
    clear hst hok hown
    by_cases hlt : k < bs.length
    · obtain ⟨hall, ⟨_, _, _, e, _⟩ | ⟨b, off, cap, hv, hc, hm, hcell⟩⟩ := HR.out
      · rw [e] at hlt; simp at hlt
      simp only [Value.slice.injEq, true_and] at hv
      obtain ⟨rfl, rfl⟩ := hv
      have hrl := rd_len (bs.drop (k + 1)) (hall.drop _)
      have hrx := (rd_range (bs.drop (k + 1)) (hall.drop _)).1
      rw [List.length_drop] at hrl
      have hRd := refRead_calls _ bs wr (HR.out.below HB.out) ((k : Int) + 1)
      have hat : rdAt bs ((k : Int) + 1) = rd (bs.drop (k + 1)) := by
        unfold rdAt
        rw [if_neg (by omega)]
        congr 2
      rw [hat] at hRd
      have hbad := fun x n er => rdSt_bad (x := x) (n := n) (er := er) HST.out hlt
      have hnext := fun x n => rdSt_next (x := x) (n := n) HST.out hlt
      obtain ⟨x, n, er, hr⟩ : ∃ x n er, rd (bs.drop (k + 1)) = (x, n, er) := ⟨_, _, _, rfl⟩
      rw [hr] at hRd hrl hrx
      dsimp only at hRd hrl hrx
      have hbad1 := hbad x n er hr
      have hbl : b < wr.heap.size := block_lt_of_cell ((HB.out.cell (p := ⟨b, off + k, none⟩) (block_lt_of_cell (hcell k hlt))).trans (hcell k hlt))
      have hck := (HB.out.cell (p := ⟨b, off + k, none⟩) (block_lt_of_cell (hcell k hlt))).trans (hcell k hlt)
      have HRd := Lib.hid hRd
      have HBad := Lib.hid hbad1
      have HAll := Lib.hid hall
      clear hbad hRd hat hbad1 hcell hbel
      by_cases he : er ≠ 0
      · have e1 : ((er : Int) != 0) = true := by rw [bne_iff_ne]; omega
        have HBad1 := Lib.hid (HBad.out (.inl he))
        clear hnext hck he hrx hr
        go_wp2_with (go_at_call 36; refine HRd.out.mono ?_; rintro e w2 ⟨rfl, hb2⟩; have HB2 := Lib.hid (HB.out.trans (hb2.mono HB.out.size)); clear hb2)
        go_ret3
        exact ⟨HB2.out, .inr ⟨HL.out, .inl ⟨k, HBad1.out, rfl⟩⟩⟩
      · obtain rfl : er = 0 := by omega
        have HNext := Lib.hid (hnext x n hr)
        have HRd0 := Lib.hid (show Calls Try.prog 36 #[.slice (some ⟨b, off, none⟩) bs.length vc, .int .i64 ((k : Int) + 1)] wr fun e w' => e = .returned (.tuple #[.int .u64 (x : Int), .int .i64 (n : Int), .int .i64 0]) ∧ Below wr.heap.size wr w' from HRd.out)
        clear HRd
        clear hnext hr he
        obtain ⟨d, hd⟩ : ∃ d, bs.length = k + 1 + n + d := ⟨bs.length - (k + 1 + n), by omega⟩
        have hwx : IntKind.u64.wrap ((bs.length : Int) - ((k : Int) + 1 + (n : Int))) = (d : Int) := by
          rw [show (bs.length : Int) - ((k : Int) + 1 + (n : Int)) = (d : Int) by omega]
          exact IntWalk.u64_in _ ⟨by omega, by omega⟩
        by_cases hgr : d < x
        · have e2 : decide ((d : Int) < (x : Int)) = true := decide_eq_true (by omega)
          have HBad1 := Lib.hid (HBad.out (.inr (by omega)))
          have HD := Lib.hid hd
          clear hck hd hrx
          go_wp2_with (go_at_call 36; refine HRd0.out.mono ?_; rintro e w2 ⟨rfl, hb2⟩; have HB2 := Lib.hid (HB.out.trans (hb2.mono HB.out.size)); clear hb2)
          go_ret3
          exact ⟨HB2.out, .inr ⟨HL.out, .inl ⟨k, HBad1.out, rfl⟩⟩⟩
        · have e2 : decide ((d : Int) < (x : Int)) = false := decide_eq_false (by omega)
          have hnx := HNext.out (by omega)
          have hgb := gt_lt HAll.out k
          have htl : ((bs.drop (k + 1 + n)).take x).length = x := by simp; omega
          have hsub : ∀ W0, BRow W0 (.slice (some ⟨b, off, none⟩) bs.length vc) bs → BRow W0 (.slice (some ⟨b, off + (k + 1 + n), none⟩) x (vc - (k + 1 + n))) ((bs.drop (k + 1 + n)).take x) := fun W0 h0 => by
            unfold maxLen at hm
            have := h0.sub (k + 1 + n) (k + 1 + n + x) (off + (k + 1 + n)) x (vc - (k + 1 + n)) (by omega) (by omega) rfl (by omega) (by omega) (by unfold maxLen; omega)
            rwa [show k + 1 + n + x - (k + 1 + n) = x by omega] at this
          have HSub := Lib.hid hsub
          have hta := (HAll.out.drop (k + 1 + n)).take x
          generalize (bs.drop (k + 1 + n)).take x = fbs at *
          generalize gt bs k = tg at *
          have HTA := Lib.hid hta
          have HNX := Lib.hid hnx
          have HD := Lib.hid hd
          clear hsub hta hnx hd hrx
          go_upto_region 10 with (go_at_call 36; refine HRd0.out.mono ?_; rintro e w2 ⟨rfl, hb2⟩; have HB2 := Lib.hid (HB.out.trans (hb2.mono HB.out.size)); have HO2 := Lib.hid (HO.out.keep hb2); have HC2 := Lib.hid ((hb2.cell (p := ⟨b, off + k, none⟩) hbl).trans hck); clear hb2)
          have hcell2 := HC2.out
          have htw : IntKind.i64.wrap (tg : Int) = (tg : Int) := IntWalk.i64_in _ ⟨by omega, by omega⟩
          have hbl2 := block_lt_of_cell hcell2
          have hxk : (k : Int) + 1 + (n : Int) + (x : Int) ≤ (vc : Int) := by have := HD.out; omega
          have hw1 : IntKind.i64.wrap ((k : Int) + 1 + (n : Int) + (x : Int)) = (k : Int) + 1 + (n : Int) + (x : Int) := IntWalk.i64_in _ ⟨by omega, by have := HD.out; omega⟩
          have ht1 : ((k : Int) + 1 + (n : Int)).toNat = k + 1 + n := by omega
          have ht2 : ((k : Int) + 1 + (n : Int) + (x : Int)).toNat = k + 1 + n + x := by omega
          have hb1 : 0 ≤ (k : Int) + 1 + (n : Int) + (x : Int) := by omega
          have hb3 : 0 ≤ (k : Int) + 1 + (n : Int) := by omega
          have hb4 : (k : Int) + 1 + (n : Int) ≤ max ((k : Int) + 1 + (n : Int) + (x : Int)) 0 := by omega
          have hb5 : (k : Int) + 1 + (n : Int) ≤ (k : Int) + 1 + (n : Int) + (x : Int) := by omega
          have hl1 : k + 1 + n + x - (k + 1 + n) = x := by omega
          have hxw : IntKind.i64.wrap (x : Int) = (x : Int) := IntWalk.i64_in _ ⟨by omega, by have := HD.out; omega⟩
          obtain ⟨ad, had, hrow⟩ : ∃ ad : Option Addr, (if vc = k + 1 + n then (some ⟨b, off, none⟩ : Option Addr) else some ⟨b, off + (k + 1 + n), none⟩) = ad ∧ ∀ W0, BRow W0 (.slice (some ⟨b, off, none⟩) bs.length vc) bs → BRow W0 (.slice ad x (vc - (k + 1 + n))) fbs := by
            by_cases hz : vc = k + 1 + n
            · refine ⟨_, if_pos hz, fun W0 _ => ?_⟩
              have hxz : x = 0 := by have := HD.out; omega
              have hx0 : fbs = [] := List.eq_nil_of_length_eq_zero (by omega)
              rw [hxz, hx0]
              exact BRow.empty _ _ (by omega)
            · exact ⟨_, if_neg hz, HSub.out⟩
          have HCop := Lib.hid (fun W (hb : Below w2.heap.size w2 W) => copied_calls _ fbs W ((hrow w2 (HR.out.below HB2.out)).below hb) (by have := HD.out; omega))
          have hxl : k + 1 + n + x ≤ bs.length := by have := HD.out; omega
          have HXL := Lib.hid hxl
          clear hrow hxl
          have hD1 : Below w2.heap.size w2 w2.drew := (Below.refl _ _).drew
          have HD1 := Lib.hid hD1
          have HD2 := Lib.hid (hD1.alloc (Nat.le_refl _) (.cells #[.int .i64 0, .slice none 0 0] 97))
          have HK2 := Lib.hid (World.alloc_heap_new w2.drew (.cells #[.int .i64 0, .slice none 0 0] 97))
          clear hD1
          go_cut [12] (fun p wx => ∃ (F : Nat) (a3 : Option Addr) (c3 : Nat), p = .pointer (some ⟨F, 0, none⟩) ∧ wx.heap[F]? = some (.cells #[.int .i64 tg, .slice a3 x c3] 97 (0, 0)) ∧ Own8 wx w.heap.size (.slice a3 x c3) fbs ∧ FOwnR wx w.heap.size u5 L ∧ Below w.heap.size w wx)
          case first =>
            go_region_law (first
              | (go_simp; go_at_call 83; first
                  | (refine (HCop.out _ HD2.out).mono ?_; rintro e w3 ⟨v3, rfl, ho3, hb3⟩; obtain ⟨a3, c3, rfl⟩ := owns_shape ho3; rw [htl] at ho3; obtain ⟨hblk, hf1, hf2, hg1, hg2⟩ := rr_facts hb3; have HL3 := Lib.hid hblk; have HO3 := Lib.hid ho3; have HB3 := Lib.hid hb3; have hcc := (hb3.cell (p := ⟨b, off + k, none⟩) (show b < (w2.drew.alloc (.cells #[.int .i64 0, .slice none 0 0] 97)).heap.size by rw [World.size_alloc]; exact Nat.lt_succ_of_lt hbl2)).trans ((World.cell?_alloc_lt w2.drew _ ⟨b, off + k, none⟩ hbl2).trans hcell2); clear ho3 hb3 hblk)
                  | (refine (HCop.out _ HD1.out).mono ?_; rintro e w3 ⟨v3, rfl, ho3, hb3⟩; obtain ⟨a3, c3, rfl⟩ := owns_shape ho3; rw [htl] at ho3; have HO3 := Lib.hid ho3; have HB3 := Lib.hid hb3; have hcc := (hb3.cell (p := ⟨b, off + k, none⟩) hbl2).trans hcell2; have hbl3 := block_lt_of_cell hcc; clear ho3 hb3))
              | fail)
            all_goals (go_wp2_with fail; go_meet)
            all_goals first
              | (obtain ⟨g1, g2, g3, g4⟩ := rr_endA (t := .int .i64 tg) (by have := HB2.out.size; omega) HB2.out HO2.out HO3.out HB3.out; exact ⟨_, a3, c3, rfl, g1, g2, g3, g4⟩)
              | (obtain ⟨g1, g2, g3, g4⟩ := rr_endB (t := .int .i64 tg) (by have := HB2.out.size; omega) HB2.out HO2.out HL3.out HO3.out HB3.out; exact ⟨_, a3, c3, rfl, g1, g2, g3, g4⟩)
          case rest =>
            obtain ⟨F, a3, c3, rfl, h1, h2, h3, h4⟩ := hcut
            have hd1 : wc.cell? ⟨F, 0, none⟩ = some (.int .i64 tg) := by simp [World.cell?, h1]
            have hd2 : wc.cell? ⟨F, 1, none⟩ = some (.slice a3 x c3) := by simp [World.cell?, h1]
            obtain ⟨V, hV1, hV2, hV3⟩ := h3
            have HV1 := Lib.hid hV1
            have HV2 := Lib.hid hV2
            have HV3 := Lib.hid hV3
            have HOS := Lib.hid h2
            have HBC := Lib.hid h4
            have HSum := Lib.hid (sumB_append L ((tg : Int), fbs))
            have HKn := Lib.hid (fldsOk_snoc (p := ((tg : Int), fbs)) HK.out ⟨by omega, by omega⟩ HTA.out)
            have HTL := Lib.hid htl
            clear hV1 hV2 hV3 h1 h2 h4 hcell2 hbl2 hxk hw1 ht1 ht2 hb1 hb3 hb4 hb5 hl1 htl hgb htw hbl hck had
            have hRt := fun u W (hf : FOwnR W w.heap.size u (L ++ [((tg : Int), fbs)])) => refRight_calls u _ W (hf.row HKn.out) (by have h1 := HSum.out; have h2 := HTL.out; have h3 := HXL.out; dsimp only at h1; omega)
            have hNr := HNX.out
            have hiff := rightF_iff (L ++ [((tg : Int), fbs)])
            generalize rightF (L ++ [((tg : Int), fbs)]) = r at hRt hNr hiff
            have HRt := Lib.hid hRt
            clear hRt
            cases r
            · have HBad1 := Lib.hid (hNr.2 rfl)
              clear hNr hiff
              go_wp2_with (first
                | (at_builtin; refine wpList_appendR rfl (.tmp 63) (.tmp 65) rfl w.heap.size _ L.length (fcells L V) rfl (HV2.out.alloc (.cells #[.int .i64 tg, .slice a3 x c3] 97)) ⟨wc.heap.size, 0, none⟩ 1 1 [.int .i64 tg, .slice a3 x c3] rfl rfl (cell_two_new _ _ _ _) (by intro z hz; simp at hz; rcases hz with rfl | rfl <;> rfl) (by omega) (by have := HBC.out.size; simp; omega) ?_; intro v5 w5 hown5 hg5; have HF5 := Lib.hid (fownR_append (p := ((tg : Int), fbs)) HV1.out HV2.out HV3.out HOS.out hg5 hown5); have HB5 := Lib.hid ((HBC.out.alloc HBC.out.size _).grown hg5 (HBC.out.alloc HBC.out.size _).size (fun j hj => (HV2.out.lt j hj).1)); clear hown5 hg5)
                | (go_at_call 58; refine (HRt.out _ _ HF5.out).mono ?_; rintro e w6 ⟨rfl, hb6⟩; have HB6 := Lib.hid (HB5.out.trans (hb6.mono HB5.out.size)); have HF6 := Lib.hid (HF5.out.keep hb6); clear hb6))
              go_ret3
              exact ⟨HB6.out, .inr ⟨HL.out, .inl ⟨k, HBad1.out, rfl⟩⟩⟩
            · have HGo := Lib.hid (hNr.1 rfl)
              have hle : sumB L + x ≤ 16384 := by have h1 := HSum.out; have h2 := HTL.out; have h3 := (hiff.1 rfl).2.2; dsimp only at h1; omega
              have f1 : decide ((16384 : Int) < (sumB L : Int) + (x : Int)) = false := decide_eq_false (by omega)
              have f2 : decide (16384 < sumB L + x) = false := decide_eq_false (by omega)
              clear hNr hiff
              go_wp2_with (first
                | (at_builtin; refine wpList_appendR rfl (.tmp 63) (.tmp 65) rfl w.heap.size _ L.length (fcells L V) rfl (HV2.out.alloc (.cells #[.int .i64 tg, .slice a3 x c3] 97)) ⟨wc.heap.size, 0, none⟩ 1 1 [.int .i64 tg, .slice a3 x c3] rfl rfl (cell_two_new _ _ _ _) (by intro z hz; simp at hz; rcases hz with rfl | rfl <;> rfl) (by omega) (by have := HBC.out.size; simp; omega) ?_; intro v5 w5 hown5 hg5; have HF5 := Lib.hid (fownR_append (p := ((tg : Int), fbs)) HV1.out HV2.out HV3.out HOS.out hg5 hown5); have HB5 := Lib.hid ((HBC.out.alloc HBC.out.size _).grown hg5 (HBC.out.alloc HBC.out.size _).size (fun j hj => (HV2.out.lt j hj).1)); clear hown5 hg5)
                | (go_at_call 58; refine (HRt.out _ _ HF5.out).mono ?_; rintro e w6 ⟨rfl, hb6⟩; have HB6 := Lib.hid (HB5.out.trans (hb6.mono HB5.out.size)); have HF6 := Lib.hid (HF5.out.keep hb6); clear hb6))
              have hxl := HXL.out
              go_roundw
              case rel =>
                have hfin : ∃ (k2 : Nat) (L2 : List Fld), Value.int .i64 ((k : Int) + 1 + (n : Int) + (x : Int)) = .int .i64 k2 ∧ Value.int .i64 ((sumB L : Int) + (x : Int)) = .int .i64 (sumB L2 : Nat) ∧ RdSt bs k2 L2 ∧ FldsOk L2 ∧ FOwnR w6 w.heap.size v5 L2 ∧ Below w.heap.size w w6 :=
                  ⟨k + 1 + n + x, L ++ [((tg : Int), fbs)], by go_num, by have h1 : sumB (L ++ [((tg : Int), fbs)]) = sumB L + fbs.length := HSum.out; rw [h1, HTL.out]; go_num, HGo.out, HKn.out, HF6.out, HB6.out⟩
                first | exact hfin | ((repeat apply Exists.intro); exact ⟨hfin, rfl⟩)
              case measure => simp [intOf]; omega
    · obtain rfl : k = bs.length := by omega
      have HE := Lib.hid (rdSt_end HST.out)
      clear hbel
      go_wp2
      go_ret3
      exact ⟨HB.out, .inr ⟨HL.out, .inr ⟨HE.out.1, _, rfl, by rw [HE.out.2]; exact ⟨HO.out, HK.out, hLn, hsL⟩⟩⟩⟩
end Go.Proofs.Ytfgiejeeolnhbaa
