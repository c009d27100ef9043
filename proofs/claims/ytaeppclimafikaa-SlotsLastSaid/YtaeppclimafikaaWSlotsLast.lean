/-
  WALK of SlotsLast.
-/
import Derived.Test.YtaeppclimafikaaSlotsJ
import Derived.Test.YtaeppclimafikaaSlotsLastP
import Derived.Deep.RegionLawGrows
namespace Go.Proofs.Ytaeppclimafikaa
open Go.RowKit

/-- The beginning of a row. -/
theorem RV.init {w : World} {B g cap m : Nat} {l : List Rf} {e : Rf} (h : RV w B (.slice (some ⟨g, 0, none⟩) (m + 1) cap) (l ++ [e])) (hl : l.length = m) : RV w B (.slice (some ⟨g, 0, none⟩) m cap) l := by
  obtain ⟨h1, ⟨h2, _⟩ | ⟨g', cap', cur, h2, hb, hg, hn, hm, hs, ht⟩⟩ := h
  · cases h2
  · simp only [Value.slice.injEq, Option.some.injEq, Addr.mk.injEq] at h2
    obtain ⟨⟨rfl, -⟩, -, rfl⟩ := h2
    rw [List.length_append] at hn ht
    refine ⟨cellsR_len l, .inr ⟨g, cap, cur, by rw [hl], hb, hg, by omega, hm, hs, ?_⟩⟩
    have e2 : (cur.toList.take ((l.length + 1) * 2)).take (l.length * 2) = (cellsR (l ++ [e])).take (l.length * 2) := by rw [← ht]; rfl
    rw [List.take_take, Nat.min_eq_left (by omega), cellsR_append, List.take_append_of_le_length (by rw [cellsR_len]; exact Nat.le_refl _)] at e2
    rw [e2]
    exact List.take_of_length_le (by rw [cellsR_len]; exact Nat.le_refl _)
set_option maxRecDepth 100000 in
set_option maxHeartbeats 8000000 in
theorem slotsLast_walk (p0 k0 : Nat) (hp : p0 < 256) (hk : k0 < 256) (v : Value) (l : List Nat)  (w : World) (hv : UB w v l)  :
    Calls Try.prog 6 #[.int .u8 (p0 : Int), .int .u8 (k0 : Int), v] w fun e w' => e = .returned (.bool true) ∧ Below w.heap.size w w' := by
  have mixed : Try.prog.follows .mixedOrders = true := by kernel_rfl
  have HAw := Lib.hid (awake_calls w)
  have HSz := Lib.hid (fun W => sizes_calls p0 k0 hp hk W)
  obtain ⟨n, hn⟩ : ∃ n, p0 % 41 = n := ⟨_, rfl⟩
  obtain ⟨k, hk1⟩ : ∃ k, 1 + k0 % 6 = k := ⟨_, rfl⟩
  have hnl : n ≤ 40 := by omega
  have hkl : 1 ≤ k ∧ k ≤ 6 := by omega
  rw [hn, hk1] at HSz
  have HN1 := Lib.hid (fun W => new_calls n k (by omega) hkl.1 (by omega) W)
  have HV := Lib.hid hv
  obtain ⟨va, vc, rfl, hlc⟩ := hv.shape
  obtain ⟨m, hm⟩ : ∃ m, l.length = m := ⟨_, rfl⟩
  have HM := Lib.hid hm
  rw [hm] at hlc ⊢
  obtain ⟨n0, hn00, hn1', hn2, hn3⟩ := minC m 200
  have hn0 : min (m : Int) 200 = (n0 : Int) := hn00
  have hnv : n0 ≤ vc := by by_cases c : 0 < m; have := hlc c; omega; omega
  clear hn00 hn3 hv hn hk1 hp hk hm hlc
  go_enter Try.func6, Try.ntmps6
  go_wp2_with fail
  refine HAw.out.mono ?_
  rintro e w1 ⟨rfl, hb1⟩
  have HB1 := Lib.hid hb1
  clear hb1 HAw
  go_wp2_with (first | (go_at_call 15; refine (HSz.out _).mono ?_; rintro e w' ⟨rfl, rfl⟩) | fail)
  refine (HN1.out _).mono ?_
  rintro e w2 ⟨q, g, rfl, ta, hb2, a1, a2⟩
  obtain ⟨B, hB⟩ : ∃ B, w2.heap.size = B := ⟨_, rfl⟩
  have h0 : OnAt w w2 q g B n k (newT n) := by
    have s1 := HB1.out.size
    have s2 := hb2.size
    have := ta.lt
    exact ⟨ta, by omega, by omega, by omega, HB1.out.trans (hb2.mono s1)⟩
  have H0 := Lib.hid h0
  have HBe := Lib.hid hB
  clear ta hb2 a1 a2 h0 hB HN1 HSz HB1
  have hx1 : (0 : Int) ≤ (n0 : Int) := by omega
  have hx2 : (n0 : Int) ≤ (vc : Int) := by omega
  have hx3 : IntKind.i64.wrap (n0 : Int) = (n0 : Int) := by rw [IntKind.wrap_i64]; omega
  go_wp2_with fail
  have HR0 := Lib.hid (show RV w2 B (.slice none 0 0) (rfs []) from World.ownsRow_nil _ _ _ _)
  obtain ⟨i0, ii, iz0, iz1, iz2⟩ := info_parts info_ref
  have HI0 := Lib.hid ii; have HZ0 := Lib.hid iz0; have HZ1 := Lib.hid iz1; have HZ2 := Lib.hid iz2
  have HL0 := Lib.hid (LastOk.new n k)
  clear ii iz0 iz1 iz2
  go_loopw [11, 12, 48] (fun s11 s12 s48 wr => ∃ (i fr : Nat) (S : Tb) (bk : List (Nat × Nat)), i ≤ n0 ∧ s48 = .int .i64 (i : Int) ∧ s12 = .int .i64 (fr : Int) ∧ OnAt w wr q g B n k S ∧ RV wr B s11 (rfs bk) ∧ LastOk n k S bk fr) (fun _ _ s48 _ => n0 - (intOf s48).toNat)
  case atStart => exact ⟨0, 0, _, [], Nat.zero_le _, rfl, rfl, H0.out, HR0.out, HL0.out⟩
  case round =>
    obtain ⟨i, fr, S, bk, hi, rfl, rfl, hA, hr, hL⟩ := hrel
    obtain ⟨ra, rc, rfl⟩ := row_shape hr
    have HRw := Lib.hid hr; have HLo := Lib.hid hL
    rw [rfs_len]
    clear HR0 HL0 hr hL
    have hbw := hA.bel
    have HA := Lib.hid hA
    clear H0 hA
    by_cases hlt : i < n0
    · have hil : i < l.length := by rw [HM.out]; omega
      obtain ⟨bl, ol, rfl, x0, hy⟩ := (HV.out.below hbw).get (by rw [HM.out]) hil
      obtain ⟨y, hyy⟩ : ∃ y, fq l i = y := ⟨_, rfl⟩
      rw [hyy] at x0 hy
      have hi1 : (i : Int) < (n0 : Int) := by omega
      have hwi : IntKind.i64.wrap ((i : Int) + 1) = (i : Int) + 1 := by rw [IntKind.wrap_i64]; omega
      have HNx := Lib.hid (next_calls HA.out.tab)
      have HSt := Lib.hid (fun W (h : TA W q g n k S) => step_calls h y hy)
      have hbl : bk.length ≤ 100000 := by
        have h1 := HLo.out.free
        have h2 := HA.out.tab.ok.sum
        rw [h1, List.length_append, List.length_map, List.length_reverse] at h2
        omega
      have hfn := HLo.out.fresh.1
      clear hyy hbw hil hn0
      by_cases hg : y % 2 = 0 ∨ cnt n S.tk = 0
      · rw [stepF_take hg] at HSt
        clear hg
        dsimp only at HSt
        cases hf : S.free with
        | nil =>
          obtain ⟨rfl, rfl⟩ := HLo.out.full hf
          rw [takeF_nil hf] at HSt
          have hP : nextP S = 0 ∧ nextL S = 0 ∧ nextB S = false := by unfold nextP nextL nextB; rw [hf]; exact ⟨rfl, rfl, rfl⟩
          rw [hP.1, hP.2.1, hP.2.2] at HNx
          dsimp only at HSt
          have hne := fun W => neqR (0 : Int) (0 : Int) (0 : Int) (0 : Int) W
          have hdd : decide (((0 : Int), (0 : Int)) = ((0 : Int), (0 : Int))) = true := decide_eq_true rfl
          rw [hdd, Bool.not_true] at hne
          clear hdd hP hf
          go_wp2_with fail
          refine HNx.out.mono ?_
          rintro e w5 ⟨rfl, hb5⟩
          have HA5 := Lib.hid ((HA.out.to hb5).al (.cells #[.int .i64 0, .int .i64 0] 26))
          have HX5 := Lib.hid (World.alloc_heap_new w5 (.cells #[.int .i64 0, .int .i64 0] 26))
          have HR5 := Lib.hid ((HRw.out.below hb5).below ((Below.refl _ w5).alloc (Nat.le_refl _) (.cells #[.int .i64 0, .int .i64 0] 26)))
          have HS5 := Lib.hid (show B ≤ w5.heap.size from (HA.out.to hb5).sz)
          clear hb5
          go_wp2_with fail
          refine (HSt.out _ HA5.out.tab).mono ?_
          rintro e w6 ⟨rfl, t6, o6⟩
          have HA6 := Lib.hid ((HA5.out.step t6 o6).al (.cells #[.int .i64 0, .int .i64 0] 26))
          have hx6 := box_al (HA5.out.box HX5.out HS5.out o6) (.cells #[.int .i64 0, .int .i64 0] 26)
          have y0 : (w6.alloc (.cells #[.int .i64 0, .int .i64 0] 26)).cell? ⟨w5.heap.size, 0, none⟩ = some (.int .i64 0) := by simp [World.cell?, hx6]
          have y1 : (w6.alloc (.cells #[.int .i64 0, .int .i64 0] 26)).cell? ⟨w5.heap.size, 1, none⟩ = some (.int .i64 0) := by simp [World.cell?, hx6]
          have HR6 := Lib.hid ((HA5.out.row HR5.out o6).below ((Below.refl _ w6).alloc (Nat.le_refl _) (.cells #[.int .i64 0, .int .i64 0] 26)))
          have HS6 := Lib.hid (show B ≤ w6.heap.size from (HA5.out.step t6 o6).sz)
          clear t6 o6 hx6
          go_wp2_with fail
          go_roundw
          case rel =>
            have hr6 := HR6.out
            exact ⟨i + 1, fr, S, [], by omega, by go_num, rfl, HA6.out, hr6, HLo.out⟩
          case measure => simp [intOf]; omega
        | cons p rest =>
          rw [takeF_cons hf] at HSt
          have hP : nextP S = p ∧ nextL S = S.life p + 1 ∧ nextB S = true := by unfold nextP nextL nextB; rw [hf]; exact ⟨rfl, rfl, rfl⟩
          rw [hP.1, hP.2.1, hP.2.2] at HNx
          dsimp only at HSt
          have hlk := (HA.out.tab.ok.head hf).2.2.1
          obtain ⟨L, hLL⟩ : ∃ L, S.life p + 1 = L := ⟨_, rfl⟩
          rw [hLL] at HNx HSt
          have hne := fun W => neqR (p : Int) (L : Int) (p : Int) (L : Int) W
          have hdd : decide (((p : Int), (L : Int)) = ((p : Int), (L : Int))) = true := decide_eq_true rfl
          rw [hdd, Bool.not_true] at hne
          clear hdd hP
          rcases snoc_or bk with hbk | ⟨bk', e0, hbk⟩
          · subst hbk
            have hfl : fr < n := by
              have h1 := HLo.out.free
              rw [hf] at h1
              have h2 : p ∈ (List.range n).drop fr := by
                have h3 : (List.range n).drop fr = p :: rest := h1.symm
                rw [h3]; exact List.mem_cons_self
              have := mem_drop_range.1 h2
              omega
            obtain ⟨hf2, hl0, hL2⟩ := HLo.out.next hfl
            rw [hf] at hf2
            obtain ⟨rfl, rfl⟩ : p = fr ∧ rest = (List.range n).drop (fr + 1) := by cases hf2; exact ⟨rfl, rfl⟩
            have hL1 : L = 1 := by omega
            subst hL1
            have HL2 := Lib.hid hL2
            have hwf : IntKind.i64.wrap ((p : Int) + 1) = (p : Int) + 1 := by rw [IntKind.wrap_i64]; omega
            clear hf2 hl0 hL2 hf hLL
            go_wp2_with fail
            refine HNx.out.mono ?_
            rintro e w5 ⟨rfl, hb5⟩
            have HA5 := Lib.hid ((HA.out.to hb5).al (.cells #[.int .i64 (p : Int), .int .i64 1] 26))
            have HX5 := Lib.hid (World.alloc_heap_new w5 (.cells #[.int .i64 (p : Int), .int .i64 1] 26))
            have HR5 := Lib.hid ((HRw.out.below hb5).below ((Below.refl _ w5).alloc (Nat.le_refl _) (.cells #[.int .i64 (p : Int), .int .i64 1] 26)))
            have HS5 := Lib.hid (show B ≤ w5.heap.size from (HA.out.to hb5).sz)
            clear hb5
            go_wp2_with fail
            refine (HSt.out _ HA5.out.tab).mono ?_
            rintro e w6 ⟨rfl, t6, o6⟩
            have HA6 := Lib.hid ((HA5.out.step t6 o6).al (.cells #[.int .i64 (p : Int), .int .i64 1] 26))
            have hx6 := box_al (HA5.out.box HX5.out HS5.out o6) (.cells #[.int .i64 (p : Int), .int .i64 1] 26)
            have y0 : (w6.alloc (.cells #[.int .i64 (p : Int), .int .i64 1] 26)).cell? ⟨w5.heap.size, 0, none⟩ = some (.int .i64 (p : Int)) := by simp [World.cell?, hx6]
            have y1 : (w6.alloc (.cells #[.int .i64 (p : Int), .int .i64 1] 26)).cell? ⟨w5.heap.size, 1, none⟩ = some (.int .i64 1) := by simp [World.cell?, hx6]
            have HR6 := Lib.hid ((HA5.out.row HR5.out o6).below ((Below.refl _ w6).alloc (Nat.le_refl _) (.cells #[.int .i64 (p : Int), .int .i64 1] 26)))
            have HS6 := Lib.hid (show B ≤ w6.heap.size from (HA5.out.step t6 o6).sz)
            clear t6 o6 hx6
            go_wp2_with fail
            go_roundw
            case rel =>
              have hr6 := HR6.out.below ((Below.refl _ _).alloc (Nat.le_refl _) (.cells #[.int .i64 (p : Int), .int .i64 1] 26))
              exact ⟨i + 1, p + 1, _, [], by omega, by go_num, by go_num, HA6.out.al _, hr6, HL2.out⟩
            case measure => simp [intOf]; omega
          · subst hbk
            obtain ⟨hf2, hl0, hL2⟩ := HLo.out.top HA.out.tab.ok
            rw [hf] at hf2
            obtain ⟨rfl, rfl⟩ : p = e0.1 ∧ rest = ((bk'.reverse.map fun e => e.1) ++ (List.range n).drop fr) := by cases hf2; exact ⟨rfl, rfl⟩
            obtain ⟨P, L0⟩ := e0
            dsimp only at hl0 hL2 hLL HSt HNx hne hlk
            obtain ⟨m0, hm0⟩ : ∃ m0, bk'.length = m0 := ⟨_, rfl⟩
            have hlen : (bk' ++ [(P, L0)]).length = m0 + 1 := by rw [List.length_append, hm0]; rfl
            rw [hlen] at hbl ⊢
            have hrw : RV wr B (.slice ra (m0 + 1) rc) (rfs (bk' ++ [(P, L0)])) := by have := HRw.out; rw [rfs_len, hlen] at this; exact this
            have hL0 : L = L0 + 1 := by omega
            subst hL0
            obtain ⟨gr, cap, e1, hcp, -, -, -⟩ := hrw.get (i := m0) (by rw [rfs_len, hlen]; omega)
            rw [rfs_len, hlen] at e1 hcp
            obtain ⟨rfl, rfl⟩ : ra = some ⟨gr, 0, none⟩ ∧ rc = cap := by cases e1; exact ⟨rfl, rfl⟩
            have HRw2 := Lib.hid hrw
            have HL2 := Lib.hid hL2
            have HQ := Lib.hid (show rq (rfs (bk' ++ [(P, L0)])) m0 = ((P : Int), (L0 : Int)) by
              unfold rq rfs
              rw [List.getD_eq_getElem?_getD, List.getElem?_map, List.getElem?_append_right (by omega), hm0, Nat.sub_self]
              rfl)
            have hkk := hlk
            have hw1 : IntKind.i64.wrap (((m0 + 1 : Nat) : Int) - 1) = (m0 : Int) := by rw [IntKind.wrap_i64]; omega
            have hw1' : IntKind.i64.wrap (((m0 : Int) + 1) - 1) = (m0 : Int) := by rw [IntKind.wrap_i64]; omega
            have hw1'' : ((m0 : Int) + 1) - 1 = (m0 : Int) := by omega
            have hw1b : IntKind.i64.wrap (m0 : Int) = (m0 : Int) := by rw [IntKind.wrap_i64]; omega
            have hw2 : IntKind.i64.wrap ((L0 : Int) + 1) = (L0 : Int) + 1 := by rw [IntKind.wrap_i64]; omega
            have hm1 : (m0 : Int) < ((m0 + 1 : Nat) : Int) := by omega
            have hm1' : (m0 : Int) < (m0 : Int) + 1 := by omega
            have hm2 : (0 : Int) ≤ (m0 : Int) := by omega
            have hm3 : (m0 : Int) ≤ (rc : Int) := by omega
            have hm4 : ((m0 : Int) + 1) > 0 := by omega
            clear hf2 hl0 hL2 hf hLL hrw e1 HRw hlk
            go_wp2_with fail
            refine HNx.out.mono ?_
            rintro e w5 ⟨rfl, hb5⟩
            have HA5 := Lib.hid ((HA.out.to hb5).al (.cells #[.int .i64 (P : Int), .int .i64 ((L0 : Int) + 1)] 26))
            have HX5 := Lib.hid (World.alloc_heap_new w5 (.cells #[.int .i64 (P : Int), .int .i64 ((L0 : Int) + 1)] 26))
            have HR5 := Lib.hid ((HRw2.out.below hb5).below ((Below.refl _ w5).alloc (Nat.le_refl _) (.cells #[.int .i64 (P : Int), .int .i64 ((L0 : Int) + 1)] 26)))
            have HS5 := Lib.hid (show B ≤ w5.heap.size from (HA.out.to hb5).sz)
            clear hb5
            go_wp2_with fail
            refine (HSt.out _ HA5.out.tab).mono ?_
            rintro e w6 ⟨rfl, t6, o6⟩
            have HA6 := Lib.hid ((HA5.out.step t6 o6).al (.cells #[.int .i64 (P : Int), .int .i64 ((L0 : Int) + 1)] 26))
            have hx6 := box_al (HA5.out.box HX5.out HS5.out o6) (.cells #[.int .i64 (P : Int), .int .i64 ((L0 : Int) + 1)] 26)
            have y0 : (w6.alloc (.cells #[.int .i64 (P : Int), .int .i64 ((L0 : Int) + 1)] 26)).cell? ⟨w5.heap.size, 0, none⟩ = some (.int .i64 (P : Int)) := by simp [World.cell?, hx6]
            have y1 : (w6.alloc (.cells #[.int .i64 (P : Int), .int .i64 ((L0 : Int) + 1)] 26)).cell? ⟨w5.heap.size, 1, none⟩ = some (.int .i64 ((L0 : Int) + 1)) := by simp [World.cell?, hx6]
            have HR6 := Lib.hid ((HA5.out.row HR5.out o6).below ((Below.refl _ w6).alloc (Nat.le_refl _) (.cells #[.int .i64 (P : Int), .int .i64 ((L0 : Int) + 1)] 26)))
            have HS6 := Lib.hid (show B ≤ w6.heap.size from (HA5.out.step t6 o6).sz)
            clear t6 o6 hx6
            go_upto_region 27 with fail
            have HRB := Lib.hid (show (w6.alloc (.cells #[.int .i64 (P : Int), .int .i64 ((L0 : Int) + 1)] 26)).heap[w6.heap.size]? = some (.cells #[.int .i64 (P : Int), .int .i64 ((L0 : Int) + 1)] 26 (0, 0)) from World.alloc_heap_new w6 _)
            have HA7 := Lib.hid (HA6.out.al (.cells #[.int .i64 (fr : Int), .int .i64 1] 26))
            have hr7 := HR6.out.below ((Below.refl _ _).alloc (Nat.le_refl _) (.cells #[.int .i64 (fr : Int), .int .i64 1] 26))
            have hb17 := box_al HRB.out (.cells #[.int .i64 (fr : Int), .int .i64 1] 26)
            have hb20 : ((w6.alloc (.cells #[.int .i64 (P : Int), .int .i64 ((L0 : Int) + 1)] 26)).alloc (.cells #[.int .i64 (fr : Int), .int .i64 1] 26)).heap[w6.heap.size + 1]? = some (.cells #[.int .i64 (fr : Int), .int .i64 1] 26 (0, 0)) := by
              have := World.alloc_heap_new (w6.alloc (.cells #[.int .i64 (P : Int), .int .i64 ((L0 : Int) + 1)] 26)) (.cells #[.int .i64 (fr : Int), .int .i64 1] 26)
              rwa [World.size_alloc] at this
            obtain ⟨W7, hW7⟩ : ∃ W7, (w6.alloc (.cells #[.int .i64 (P : Int), .int .i64 ((L0 : Int) + 1)] 26)).alloc (.cells #[.int .i64 (fr : Int), .int .i64 1] 26) = W7 := ⟨_, rfl⟩
            rw [hW7] at HA7 hr7 hb17 hb20 ⊢
            obtain ⟨gr', cap', e1, -, hgB, z0, z1⟩ := hr7.get (i := m0) (by rw [rfs_len, hlen]; omega)
            rw [rfs_len, hlen] at e1
            obtain ⟨rfl, rfl⟩ : gr = gr' ∧ rc = cap' := by cases e1; exact ⟨rfl, rfl⟩
            rw [HQ.out] at z0 z1
            dsimp only at z0 z1
            have HR7 := Lib.hid (show RV W7 B (.slice (some ⟨gr, 0, none⟩) (m0 + 1) rc) (rfs (bk' ++ [(P, L0)])) from hr7)
            have H17 := Lib.hid hb17; have H20 := Lib.hid hb20
            have r0 : W7.cell? ⟨w6.heap.size + 1, 0, none⟩ = some (.int .i64 (fr : Int)) := by simp [World.cell?, hb20]
            have r1 : W7.cell? ⟨w6.heap.size + 1, 1, none⟩ = some (.int .i64 1) := by simp [World.cell?, hb20]
            have rf : ∀ i, W7.frozen? ⟨w6.heap.size + 1, i, none⟩ = false := fun i => by simp [World.frozen?, hb20]
            have hngr : gr ≠ w6.heap.size + 1 := fun c => by
              have := (row_lt HR6.out gr rfl).2
              simp at this
              omega
            clear hW7 hr7 hb17 hb20 e1 hgB y0 y1 HR6 HA6 HRB
            go_cut [] from 101 to 114 (fun wx => OnAt w wx q g B n k (takeT S P ((bk'.reverse.map fun e => e.1) ++ (List.range n).drop fr)) ∧ RV wx B (.slice (some ⟨gr, 0, none⟩) (m0 + 1) rc) (rfs (bk' ++ [(P, L0)])) ∧ wx.heap[w6.heap.size]? = some (.cells #[.int .i64 (P : Int), .int .i64 ((L0 : Int) + 1)] 26 (0, 0)) ∧ wx.heap[w6.heap.size + 1]? = some (.cells #[.int .i64 (P : Int), .int .i64 ((L0 : Int) + 1)] 26 (0, 0)))
            case first =>
              go_region
              all_goals
                go_wp2_with fail
                go_meet
                have hs6 := HS6.out
                have hoff : Off (fun x => x = w6.heap.size + 1) W7 (((W7.setCell ⟨w6.heap.size + 1, 0, none⟩ (.int .i64 (P : Int))).setCell ⟨w6.heap.size + 1, 1, none⟩ (.int .i64 ((L0 : Int) + 1))).drew) := (((Off.refl (fun x => x = w6.heap.size + 1) W7).set (b := w6.heap.size + 1) (.inl rfl) 0 _).set (b := w6.heap.size + 1) (.inl rfl) 1 _).drew
                refine ⟨HA7.out.up (hoff.weaken fun x _ e => by rw [e]; omega), row_keep HR7.out (fun x hx => hoff.block x (row_lt HR7.out x hx).2 (fun e => hngr (by cases hx; exact e))), (hoff.block _ (Array.getElem?_eq_some_iff.1 H17.out).1 (by omega)).trans H17.out, ?_⟩
                have := heap_setC (heap_setC H20.out 0 (.int .i64 (P : Int))) 1 (.int .i64 ((L0 : Int) + 1))
                exact blk_drew (by simpa using this)
            case rest =>
            obtain ⟨hA8, hr8, h17, h20⟩ := hcut
            have HA8 := Lib.hid hA8; have HR8 := Lib.hid hr8
            have s0 : wc.cell? ⟨w6.heap.size, 0, none⟩ = some (.int .i64 (P : Int)) := by simp [World.cell?, h17]
            have s1 : wc.cell? ⟨w6.heap.size, 1, none⟩ = some (.int .i64 ((L0 : Int) + 1)) := by simp [World.cell?, h17]
            have u0 : wc.cell? ⟨w6.heap.size + 1, 0, none⟩ = some (.int .i64 (P : Int)) := by simp [World.cell?, h20]
            have u1 : wc.cell? ⟨w6.heap.size + 1, 1, none⟩ = some (.int .i64 ((L0 : Int) + 1)) := by simp [World.cell?, h20]
            clear hA8 hr8 h17 h20 z0 z1 r0 r1 rf H17 H20
            go_wp2_with fail
            go_roundw
            case rel =>
              refine ⟨i + 1, fr, _, bk', by omega, by go_num, rfl, HA8.out, ?_, HL2.out⟩
              have e9 := HR8.out
              rw [rfs_snoc] at e9
              exact RV.init e9 (by rw [rfs_len, hm0])
            case measure => simp [intOf]; omega
      · rw [stepF_give hg] at HSt
        dsimp only at HSt
        have hmz : ¬ cnt n S.tk = 0 := fun c => hg (.inr c)
        have hpl := live_place (y / 2) hmz
        obtain ⟨P, hP⟩ : ∃ P, fq (pl n S.tk) (y / 2 % cnt n S.tk) = P := ⟨_, rfl⟩
        rw [hP] at HSt hpl
        have hle := HA.out.tab.ok.le P hpl.1
        obtain ⟨L, hLL⟩ : ∃ L, S.life P = L := ⟨_, rfl⟩
        rw [hLL] at HSt hle
        obtain ⟨a1, ha1⟩ : ∃ a1, nextP S = a1 := ⟨_, rfl⟩
        obtain ⟨a2, ha2⟩ : ∃ a2, nextL S = a2 := ⟨_, rfl⟩
        rw [ha1, ha2] at HNx
        have HLL := Lib.hid hLL
        clear hg hmz hpl hP ha1 ha2 hLL
        by_cases hk : L = k
        · have hk1 : ¬ (L : Int) < (k : Int) := by omega
          have HK := Lib.hid hk
          clear hk
          go_wp2_with fail
          refine HNx.out.mono ?_
          rintro e w5 ⟨rfl, hb5⟩
          have HA5 := Lib.hid ((HA.out.to hb5).al (.cells #[.int .i64 (a1 : Int), .int .i64 (a2 : Int)] 26))
          have HX5 := Lib.hid (World.alloc_heap_new w5 (.cells #[.int .i64 (a1 : Int), .int .i64 (a2 : Int)] 26))
          have HR5 := Lib.hid ((HRw.out.below hb5).below ((Below.refl _ w5).alloc (Nat.le_refl _) (.cells #[.int .i64 (a1 : Int), .int .i64 (a2 : Int)] 26)))
          have HS5 := Lib.hid (show B ≤ w5.heap.size from (HA.out.to hb5).sz)
          clear hb5
          go_wp2_with fail
          refine (HSt.out _ HA5.out.tab).mono ?_
          rintro e w6 ⟨rfl, t6, o6⟩
          have HA6 := Lib.hid ((HA5.out.step t6 o6).al (.cells #[.int .i64 (P : Int), .int .i64 (L : Int)] 26))
          have hx6 := box_al (HA5.out.box HX5.out HS5.out o6) (.cells #[.int .i64 (P : Int), .int .i64 (L : Int)] 26)
          have y0 : (w6.alloc (.cells #[.int .i64 (P : Int), .int .i64 (L : Int)] 26)).cell? ⟨w5.heap.size, 0, none⟩ = some (.int .i64 (a1 : Int)) := by simp [World.cell?, hx6]
          have y1 : (w6.alloc (.cells #[.int .i64 (P : Int), .int .i64 (L : Int)] 26)).cell? ⟨w5.heap.size, 1, none⟩ = some (.int .i64 (a2 : Int)) := by simp [World.cell?, hx6]
          have HR6 := Lib.hid ((HA5.out.row HR5.out o6).below ((Below.refl _ w6).alloc (Nat.le_refl _) (.cells #[.int .i64 (P : Int), .int .i64 (L : Int)] 26)))
          have HS6 := Lib.hid (show B ≤ w6.heap.size from (HA5.out.step t6 o6).sz)
          clear t6 o6 hx6
          go_wp2_with fail
          go_roundw
          case rel =>
            have hr6 := HR6.out
            rw [rfs_len] at hr6
            exact ⟨i + 1, fr, _, bk, by omega, by go_num, rfl, HA6.out, hr6, HLo.out.worn (HLL.out.trans HK.out)⟩
          case measure => simp [intOf]; omega
        · have hk1 : (L : Int) < (k : Int) := by omega
          have HK := Lib.hid hk
          clear hk
          go_wp2_with fail
          refine HNx.out.mono ?_
          rintro e w5 ⟨rfl, hb5⟩
          have HA5 := Lib.hid ((HA.out.to hb5).al (.cells #[.int .i64 (a1 : Int), .int .i64 (a2 : Int)] 26))
          have HX5 := Lib.hid (World.alloc_heap_new w5 (.cells #[.int .i64 (a1 : Int), .int .i64 (a2 : Int)] 26))
          have HR5 := Lib.hid ((HRw.out.below hb5).below ((Below.refl _ w5).alloc (Nat.le_refl _) (.cells #[.int .i64 (a1 : Int), .int .i64 (a2 : Int)] 26)))
          have HS5 := Lib.hid (show B ≤ w5.heap.size from (HA.out.to hb5).sz)
          clear hb5
          go_wp2_with fail
          refine (HSt.out _ HA5.out.tab).mono ?_
          rintro e w6 ⟨rfl, t6, o6⟩
          have HA6 := Lib.hid ((HA5.out.step t6 o6).al (.cells #[.int .i64 (P : Int), .int .i64 (L : Int)] 26))
          have hx6 := box_al (HA5.out.box HX5.out HS5.out o6) (.cells #[.int .i64 (P : Int), .int .i64 (L : Int)] 26)
          have y0 : (w6.alloc (.cells #[.int .i64 (P : Int), .int .i64 (L : Int)] 26)).cell? ⟨w5.heap.size, 0, none⟩ = some (.int .i64 (a1 : Int)) := by simp [World.cell?, hx6]
          have y1 : (w6.alloc (.cells #[.int .i64 (P : Int), .int .i64 (L : Int)] 26)).cell? ⟨w5.heap.size, 1, none⟩ = some (.int .i64 (a2 : Int)) := by simp [World.cell?, hx6]
          have HR6 := Lib.hid ((HA5.out.row HR5.out o6).below ((Below.refl _ w6).alloc (Nat.le_refl _) (.cells #[.int .i64 (P : Int), .int .i64 (L : Int)] 26)))
          have HS6 := Lib.hid (show B ≤ w6.heap.size from (HA5.out.step t6 o6).sz)
          clear t6 o6 hx6
          go_upto_region 18 with fail
          obtain ⟨m0, hm0⟩ : ∃ m0, bk.length = m0 := ⟨_, rfl⟩
          have HM0 := Lib.hid hm0
          rw [hm0] at hbl ⊢
          clear y0 y1 hm0
          have HC7 := Lib.hid (show ∀ j u, [Value.int .i64 (P : Int), .int .i64 (L : Int)][j]? = some u → ((w6.alloc (.cells #[.int .i64 (P : Int), .int .i64 (L : Int)] 26)).alloc (.cells #[.int .i64 (P : Int), .int .i64 (L : Int)] 26)).cell? ((⟨w6.heap.size + 1, 0, none⟩ : Addr).add j) = some u by have := cells2_new (w6.alloc (.cells #[.int .i64 (P : Int), .int .i64 (L : Int)] 26)) (.int .i64 (P : Int)) (.int .i64 (L : Int)) 26; rw [World.size_alloc] at this; exact this)
          have HR7 := Lib.hid (show ((w6.alloc (.cells #[.int .i64 (P : Int), .int .i64 (L : Int)] 26)).alloc (.cells #[.int .i64 (P : Int), .int .i64 (L : Int)] 26)).ownsRow B 26 2 (.slice ra m0 rc) m0 (cellsR (rfs bk)) by
            have h2 := row_below HR6.out ((Below.refl _ _).alloc (Nat.le_refl _) (.cells #[.int .i64 (P : Int), .int .i64 (L : Int)] 26))
            rw [rfs_len, HM0.out] at h2
            exact h2)
          have HS7 := Lib.hid (show B ≤ ((w6.alloc (.cells #[.int .i64 (P : Int), .int .i64 (L : Int)] 26)).alloc (.cells #[.int .i64 (P : Int), .int .i64 (L : Int)] 26)).heap.size by have := HS6.out; simp; omega)
          go_wp2_with (at_builtin; refine wpList_append_own_at _ rfl _ _ 44 rfl B 26 i0 (.agg #[.int .i64 0, .int .i64 0]) 2 16 Try.underlying44 HI0.out HZ0.out HZ1.out HZ2.out rfl (by decide) _ _ _ rfl HR7.out ⟨w6.heap.size + 1, 0, none⟩ 1 1 [.int .i64 (P : Int), .int .i64 (L : Int)] rfl rfl HC7.out (cellsR_one [((P : Int), (L : Int))]) (by unfold maxLen; omega) (by omega) HS7.out ?_; intro v2 w8 hown2 hgr2 _ _; have HO2 := Lib.hid hown2; have HG2 := Lib.hid hgr2; clear hown2 hgr2)
          obtain ⟨ra2, rc2, rfl⟩ := row_shape HO2.out
          go_roundw
          case rel =>
            refine ⟨i + 1, fr, _, bk ++ [(P, S.life P)], by omega, by go_num, rfl, (HA6.out.al (.cells #[.int .i64 (P : Int), .int .i64 (L : Int)] 26)).up (off_app HR7.out HG2.out), ?_, HLo.out.back (by rw [HLL.out]; exact HK.out)⟩
            show World.ownsRow _ _ _ _ _ (rfs (bk ++ [(P, S.life P)])).length (cellsR (rfs (bk ++ [(P, S.life P)])))
            rw [rfs_snoc, cellsR_append, List.length_append, rfs_len, HM0.out, HLL.out]
            exact HO2.out
          case measure => simp [intOf]; omega
    · obtain rfl : i = n0 := by omega
      have hlt2 : ¬ (i : Int) < (i : Int) := by omega
      clear hbw
      go_wp2_with fail
      go_ret
      exact ⟨rfl, HA.out.bel⟩
end Go.Proofs.Ytaeppclimafikaa
