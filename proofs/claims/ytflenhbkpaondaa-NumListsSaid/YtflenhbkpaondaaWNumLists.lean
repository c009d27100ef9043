/-
  THE WALK of fermatalaw01.NumLists: it returns true, and writes nothing that was there.
-/
import Derived.Test.YtflenhbkpaondaaFrame
import Derived.Test.YtflenhbkpaondaaAwake01
import Derived.Test.YtflenhbkpaondaaNumListsP
import Derived.Deep.RegionLaw
import Derived.BigQuiet
namespace Go.Proofs.Ytflenhbkpaondaa
open Go.RowKit Pl

/-- The head of what reads as numbers. -/
theorem NRow.head {w : World} {a : Option Addr} {n c : Nat} {l : List Nat} (h : NRow w (.slice a n c) l) (k : Nat) (hk : k ≤ l.length) : NRow w (.slice a k c) (l.take k) := by
  obtain ⟨hb, ⟨a', c', hv, rfl, hc⟩ | ⟨b, off, cap, hv, h1, h2, h3⟩⟩ := h
  · obtain rfl : k = 0 := by simpa using hk
    simp only [Value.slice.injEq] at hv
    obtain ⟨_, _, rfl⟩ := hv
    rw [List.take_nil]
    exact ⟨fun x hx => (by cases hx), .inl ⟨a, c, rfl, rfl, hc⟩⟩
  · simp only [Value.slice.injEq] at hv
    obtain ⟨rfl, rfl, rfl⟩ := hv
    have hl : (l.take k).length = k := by rw [List.length_take]; omega
    refine ⟨fun x hx => hb x (List.mem_of_mem_take hx), .inr ⟨b, off, c, by rw [hl], by rw [hl]; omega, h2, fun i hi => ?_⟩⟩
    rw [hl] at hi
    rw [gt_take hi]
    exact h3 i (by omega)
theorem NRow.cap_le {w : World} {a : Option Addr} {n c : Nat} {l : List Nat} (h : NRow w (.slice a n c) l) : l.length = n ∧ n ≤ c ∧ c ≤ maxLen := by
  obtain ⟨_, ⟨a', c', hv, rfl, hc⟩ | ⟨b, off, cap, hv, h1, h2, h3⟩⟩ := h
  · simp only [Value.slice.injEq] at hv
    obtain ⟨_, rfl, rfl⟩ := hv
    exact ⟨rfl, Nat.zero_le _, hc⟩
  · simp only [Value.slice.injEq] at hv
    obtain ⟨_, rfl, rfl⟩ := hv
    exact ⟨rfl, h1, h2⟩

theorem BRow.head {w : World} {a : Option Addr} {n c : Nat} {l : List Nat} (h : BRow w (.slice a n c) l) (k : Nat) (hk : k ≤ l.length) : BRow w (.slice a k c) (l.take k) := by
  obtain ⟨hb, ⟨a', c', hv, rfl, hc⟩ | ⟨b, off, cap, hv, h1, h2, h3⟩⟩ := h
  · obtain rfl : k = 0 := by simpa using hk
    simp only [Value.slice.injEq] at hv
    obtain ⟨_, _, rfl⟩ := hv
    rw [List.take_nil]
    exact BRow.empty a c hc
  · simp only [Value.slice.injEq] at hv
    obtain ⟨rfl, rfl, rfl⟩ := hv
    have := BRow.sub (w := w) ⟨hb, .inr ⟨b, off, c, rfl, h1, h2, h3⟩⟩ 0 k off k c (Nat.zero_le _) hk rfl rfl (by omega) h2
    rwa [List.drop_zero, Nat.sub_zero] at this
theorem nrow_cells {w : World} {a : Option Addr} {n c : Nat} {l : List Nat} (h : NRow w (.slice a n c) l) (h0 : 0 < l.length) : ∃ b off, a = some ⟨b, off, none⟩ ∧ ∀ i, i < l.length → w.cell? ⟨b, off + i, none⟩ = some (.int .u64 (gt l i : Int)) := by
  obtain ⟨_, ⟨_, _, _, rfl, _⟩ | ⟨b, off, cap, hv, _, _, h3⟩⟩ := h
  · simp at h0
  · simp only [Value.slice.injEq] at hv
    exact ⟨b, off, hv.1, h3⟩
theorem own8_cap {w : World} {base : Nat} {a : Option Addr} {n c : Nat} {l : List Nat} (h : Own8 w base (.slice a n c) l) : n ≤ c ∧ c ≤ maxLen := by
  rcases h.2 with ⟨hv, _⟩ | ⟨g, cap, cur, hv, h1, h2, h3, h4, h5, h6⟩
  · simp only [Value.slice.injEq] at hv
    exact ⟨by omega, by unfold maxLen; omega⟩
  · simp only [Value.slice.injEq] at hv
    obtain ⟨_, _, rfl⟩ := hv
    exact ⟨by omega, h4⟩

set_option maxRecDepth 100000 in
set_option maxHeartbeats 4000000 in
theorem numLists_walk (ka la : Option Addr) (kc lc : Nat) (k l : List Nat) (cut : Int) (w : World) (hk : NRow w (.slice ka k.length kc) k) (hl : NRow w (.slice la l.length lc) l) (hc0 : 0 ≤ cut) (hc1 : cut < 65536) :
    Calls Try.prog 7 #[.slice ka k.length kc, .slice la l.length lc, .int .u16 cut] w fun e w' => e = .returned (.bool true) ∧ Below w.heap.size w w' := by
  have c1 := hk.cap_le
  have c2 := hl.cap_le
  obtain ⟨_, k1, k2⟩ := c1
  obtain ⟨_, l1, l2⟩ := c2
  unfold maxLen at k2 l2
  have HK := Lib.hid hk
  have HL := Lib.hid hl
  clear hk hl
  have hcut : ∃ m n : Nat, n ≤ 40 ∧ n ≤ k.length ∧ n ≤ l.length ∧ (if l.length < k.length then (l.length : Int) else (k.length : Int)) = (m : Int) ∧ (if (40 : Int) < (m : Int) then (40 : Int) else (m : Int)) = (n : Int) := by
    obtain ⟨m, h1, h2, h3⟩ : ∃ m : Nat, m ≤ k.length ∧ m ≤ l.length ∧ (if l.length < k.length then (l.length : Int) else (k.length : Int)) = (m : Int) := by
      by_cases h : l.length < k.length
      · exact ⟨l.length, by omega, Nat.le_refl _, by rw [if_pos h]⟩
      · exact ⟨k.length, Nat.le_refl _, by omega, by rw [if_neg h]⟩
    by_cases h : m ≤ 40
    · exact ⟨m, m, h, h1, h2, h3, by rw [if_neg (by omega)]⟩
    · exact ⟨m, 40, Nat.le_refl _, by omega, by omega, h3, by rw [if_pos (by omega)]; rfl⟩
  obtain ⟨m, n, hn1, hn2, hn3, hm1, hm2⟩ := hcut
  have HKn := Lib.hid (HK.out.head n hn2)
  have HLn := Lib.hid (HL.out.head n hn3)
  have hnk : (n : Int) ≤ (kc : Int) := by omega
  have hnl : (n : Int) ≤ (lc : Int) := by omega
  have hkl : (k.take n).length = n := by rw [List.length_take]; omega
  have hll : (l.take n).length = n := by rw [List.length_take]; omega
  have HKL := Lib.hid hkl
  have HLL := Lib.hid hll
  clear hkl hll HK HL
  generalize k.take n = p at *
  generalize l.take n = q at *
  go_enter Try.func7, Try.ntmps7
  go_wp2_with fail
  refine (awake_calls w).mono ?_
  rintro e w1 ⟨rfl, hb1⟩
  have HB1 := Lib.hid hb1
  clear hb1
  go_wp2_with fail
  go_quiet (fail)
  go_wp2_with fail
  have hb2 := below_drewN HB1.out nq
  generalize w1.drewN nq = w2 at *
  have HB2 := Lib.hid hb2
  have hK2 := HKn.out.below hb2
  have hL2 := HLn.out.below hb2
  clear hb2
  have hpr : ∀ x ∈ p, x < 18446744073709551616 := HKn.out.1
  have hqr : ∀ x ∈ q, x < 18446744073709551616 := HLn.out.1
  have HPR := Lib.hid hpr
  have HQR := Lib.hid hqr
  have HLX := Lib.hid (ordL_lex p q (by rw [HKL.out, HLL.out]) hpr hqr)
  have HSP := Lib.hid (split_all p hpr)
  have HSQ := Lib.hid (split_all q hqr)
  have hpl : (allF p).length ≤ 9 * n := by have := allF_length p; rw [HKL.out] at this; exact this
  have hql : (allF q).length ≤ 9 * n := by have := allF_length q; rw [HLL.out] at this; exact this
  clear hpr hqr
  refine (all_calls _ p w2 hK2 (by rw [HKL.out]; omega)).mono ?_
  rintro e w3 ⟨va, rfl, hown3, hb3⟩
  have hA3 := BRow.of_own hown3 (allF_allB p)
  obtain ⟨aa, ac, rfl⟩ := owns_shape hown3
  have HAC := Lib.hid (own8_cap hown3)
  have HL3 := Lib.hid (hL2.below hb3)
  have HK3 := Lib.hid (hK2.below hb3)
  have HA3 := Lib.hid hA3
  have HB3 := Lib.hid (HB2.out.trans (hb3.mono HB2.out.size))
  clear hb3 hown3 hA3 hK2 hL2
  go_wp2_with fail
  refine (all_calls _ q w3 HL3.out (by rw [HLL.out]; omega)).mono ?_
  rintro e w4 ⟨vb, rfl, hown4, hb4⟩
  have hA4 := BRow.of_own hown4 (allF_allB q)
  obtain ⟨ba, bc, rfl⟩ := owns_shape hown4
  have HBb := Lib.hid hA4
  have HA4 := Lib.hid (HA3.out.below hb4)
  have HK4 := Lib.hid (HK3.out.below hb4)
  have HL4 := Lib.hid (HL3.out.below hb4)
  have HB4 := Lib.hid (HB3.out.trans (hb4.mono HB3.out.size))
  clear hb4 hown4 hA4
  go_wp2_with fail
  refine (split_calls _ _ w4 HA4.out (by have := sq_length (allF p); omega)).mono ?_
  rw [HSP.out.1, HSP.out.2]
  rintro e w5 ⟨v5, rfl, hown5, hb5⟩
  have HN5 := Lib.hid (NRow.of_own hown5 HPR.out)
  have HA5 := Lib.hid (HA4.out.below hb5)
  have HBb5 := Lib.hid (HBb.out.below hb5)
  have HK5 := Lib.hid (HK4.out.below hb5)
  have HL5 := Lib.hid (HL4.out.below hb5)
  have HB5 := Lib.hid (HB4.out.trans (hb5.mono HB4.out.size))
  clear hb5 hown5
  go_wp2_with fail
  refine (split_calls _ _ w5 HBb5.out (by have := sq_length (allF q); omega)).mono ?_
  rw [HSQ.out.1, HSQ.out.2]
  rintro e w6 ⟨v6, rfl, hown6, hb6⟩
  have HM6 := Lib.hid (NRow.of_own hown6 HQR.out)
  have HN6 := Lib.hid (HN5.out.below hb6)
  have HA6 := Lib.hid (HA5.out.below hb6)
  have HBb6 := Lib.hid (HBb5.out.below hb6)
  have HK6 := Lib.hid (HK5.out.below hb6)
  have HL6 := Lib.hid (HL5.out.below hb6)
  have HB6 := Lib.hid (HB5.out.trans (hb6.mono HB5.out.size))
  clear hb6 hown6
  have S1 := sameNums_b _ _ _ _ w6 HN6.out HK6.out
  rw [decide_eq_true rfl] at S1
  have HS1 := Lib.hid S1
  clear S1
  go_wp2_with fail
  refine HS1.out.mono ?_
  rintro e w7 ⟨rfl, hb7⟩
  have S2 := sameNums_b _ _ _ _ w7 (HM6.out.below hb7) (HL6.out.below hb7)
  rw [decide_eq_true rfl] at S2
  have HS2 := Lib.hid S2
  clear S2
  have HB67 := Lib.hid hb7
  clear hb7
  go_wp2_with fail
  refine HS2.out.mono ?_
  rintro e w8 ⟨rfl, hb8⟩
  have HB68 := Lib.hid (HB67.out.trans (hb8.mono HB67.out.size))
  have HB8 := Lib.hid (HB6.out.trans (HB68.out.mono HB6.out.size))
  have HA8 := Lib.hid (HA6.out.below HB68.out)
  have HBb8 := Lib.hid (HBb6.out.below HB68.out)
  have HK8 := Lib.hid (HK6.out.below HB68.out)
  have HL8 := Lib.hid (HL6.out.below HB68.out)
  clear hb8
  go_wp2_with fail
  go_loopw [14, 15] (fun o i wr => ∃ j : Nat, j ≤ n ∧ i = .int .i64 ((j : Int) - 1) ∧ o = .int .i64 (ordL (p.drop j) (q.drop j)) ∧ ∃ d, wr = w8.drewN d) (fun _ i _ => (intOf i + 1).toNat)
  case atStart => exact ⟨n, Nat.le_refl _, rfl, by rw [ordL_end HKL.out], 0, rfl⟩
  case round =>
    obtain ⟨j, hj, rfl, rfl, d, rfl⟩ := hrel
    cases j with
    | zero =>
      have HZ := Lib.hid (show ordL (p.drop 0) (q.drop 0) = ordL p q by rw [List.drop_zero, List.drop_zero])
      rw [HZ.out, show ((0 : Nat) : Int) - 1 = -1 from rfl]
      go_wp2_with fail
      have hb9 := below_drewN (Below.refl w8.heap.size w8) d
      generalize w8.drewN d = w9 at *
      have HA9 := Lib.hid (HA8.out.below hb9)
      have HK9 := Lib.hid (HK8.out.below hb9)
      have HB9 := Lib.hid (HB8.out.trans (hb9.mono HB8.out.size))
      have HC9 := Lib.hid (by have := bytesCompare_calls _ _ _ _ w9 (HA8.out.below hb9) (HBb8.out.below hb9); rw [HLX.out] at this; exact this)
      clear hb9
      obtain ⟨t, ht, hct⟩ : ∃ t : Nat, t ≤ (allF p).length ∧ cut % (((allF p).length : Int) + 1) = (t : Int) := by
        refine ⟨(cut % (((allF p).length : Int) + 1)).toNat, ?_, ?_⟩
        · have h1 := Int.emod_nonneg cut (by omega : ((allF p).length : Int) + 1 ≠ 0)
          have h2 := Int.emod_lt_of_pos cut (by omega : 0 < ((allF p).length : Int) + 1)
          omega
        · have h1 := Int.emod_nonneg cut (by omega : ((allF p).length : Int) + 1 ≠ 0)
          omega
      have hac := HAC.out.1
      have htac : (t : Int) ≤ (ac : Int) := by omega
      have FIN := Lib.hid (fun W (hW : Below w9.heap.size w9 W) j (_ : j ≤ n) (he : (allF (p.take j)).length = t) => by
        have hr := (HA9.out.below hW).head t ht
        have e1 : (allF p).take t = allF (p.take j) := by rw [← he]; exact allF_take_at p j
        rw [e1] at hr
        have hpj : ∀ x ∈ p.take j, x < 18446744073709551616 := fun x hx => HPR.out x (List.mem_of_mem_take hx)
        have hs := split_calls _ _ W hr (by have := sq_length (allF (p.take j)); omega)
        obtain ⟨g1, g2⟩ := split_all (p.take j) hpj
        rw [g1, g2] at hs
        exact hs.mono (R' := fun e W' => ∃ v', e = .returned (.tuple #[v', .int .i64 0]) ∧ NRow W' v' (p.take j) ∧ Below W.heap.size W W') fun e W' ⟨v', h1, h2, h3⟩ => ⟨v', h1, NRow.of_own h2 hpj, h3⟩)
      have CUT := Lib.hid (fun W (hW : Below w9.heap.size w9 W) j (hj : j < p.length) (h1 : (allF (p.take j)).length < t) (h2 : t < (allF (p.take j)).length + (form (gt p j)).length) => by
        have hr := (HA9.out.below hW).head t ht
        rw [allF_take_in p j t hj h1 h2] at hr
        have hs := split_calls _ _ W hr (by have := sq_length (allF (p.take j) ++ (form (gt p j)).take (t - (allF (p.take j)).length)); have := hr.len_le; have h9 : (allF (p.take j) ++ (form (gt p j)).take (t - (allF (p.take j)).length)).length ≤ t := by rw [List.length_append, List.length_take]; omega
                                            omega)
        obtain ⟨g1, g2⟩ := split_cut (p.take j) ((form (gt p j)).take (t - (allF (p.take j)).length)) (fun x hx => HPR.out x (List.mem_of_mem_take hx)) (rd_short _ _ (HPR.out _ (gt_mem hj)) (by omega)) (by rw [List.length_take]; omega)
        rw [g1, g2] at hs
        exact hs.mono (R' := fun e W' => ∃ a c, e = .returned (.tuple #[.slice a 0 c, .int .i64 10]) ∧ Below W.heap.size W W') fun e W' ⟨v', h1, h2, h3⟩ => by obtain ⟨a, c, rfl⟩ := owns_shape h2; exact ⟨a, c, h1, h3⟩)
      refine HC9.out.mono ?_
      rintro e w' ⟨rfl, rfl⟩
      go_wp2_with fail
      rw [hct]
      have hnkc : n ≤ kc := by omega
      go_loopw [17, 18, 105] (fun en wh ix wr => ∃ j : Nat, j ≤ n ∧ ix = .int .i64 j ∧ wh = .int .i64 j ∧ en = .int .i64 ((allF (p.take j)).length : Nat) ∧ (allF (p.take j)).length ≤ t ∧ Below w9.heap.size w9 wr) (fun _ _ ix _ => n - (intOf ix).toNat)
      case atStart => exact ⟨0, Nat.zero_le _, rfl, rfl, rfl, Nat.zero_le _, Below.refl _ _⟩
      case round =>
        obtain ⟨j, hj, rfl, rfl, rfl, het, hbj⟩ := hrel
        have HBJ := Lib.hid hbj
        have hsz9 := hbj.size
        clear hbj
        by_cases hlt : j < n
        · obtain ⟨pb, po, rfl, hpc⟩ := nrow_cells (HK9.out.below HBJ.out) (by rw [HKL.out]; omega)
          have d1 := hpc j (by rw [HKL.out]; omega)
          have HX := Lib.hid (HPR.out (gt p j) (gt_mem (by rw [HKL.out]; omega)))
          have HTL := Lib.hid (allF_take_len p j (by rw [HKL.out]; omega))
          have f1 := form_length (gt p j)
          clear hpc
          by_cases heq : (allF (p.take j)).length = t
          · have HF := Lib.hid (FIN.out wr HBJ.out j hj heq)
            have hbq : (((allF (p.take j)).length : Int) == (t : Int)) = true := beq_iff_eq.2 (by omega)
            have HN := Lib.hid (HK9.out.below HBJ.out)
            clear heq
            go_wp2_with fail
            refine HF.out.mono ?_
            rintro e wx ⟨vx, rfl, hvx, hbx⟩
            have HBX := Lib.hid hbx
            have S1 := sameNums_b _ _ _ _ wx hvx ((HN.out.below hbx).head j (by rw [HKL.out]; omega))
            rw [decide_eq_true rfl] at S1
            have HS1 := Lib.hid S1
            clear S1 hvx hbx
            go_wp2_with fail
            refine HS1.out.mono ?_
            rintro e wy ⟨rfl, hby⟩
            have HBY := Lib.hid hby
            clear hby
            go_wp2
            go_ret
            refine ⟨rfl, ?_⟩
            have b1 := HB9.out.trans (HBJ.out.mono HB9.out.size)
            have b2 := b1.trans (HBX.out.mono b1.size)
            exact b2.trans (HBY.out.mono b2.size)
          · have hbq : (((allF (p.take j)).length : Int) == (t : Int)) = false := beq_eq_false_iff_ne.2 (by omega)
            by_cases hgt : t < (allF (p.take j)).length + (form (gt p j)).length
            · have hC := CUT.out
              have HS := Lib.hid (size_calls (gt p j) wr HX.out)
              go_wp2_with fail
              refine HS.out.mono ?_
              rintro e wx ⟨rfl, hbx⟩
              have HBX := Lib.hid (HBJ.out.trans (hbx.mono hsz9))
              have HC := Lib.hid (hC wx (HBJ.out.trans (hbx.mono hsz9)) j (by rw [HKL.out]; omega) (by omega) hgt)
              clear hbx hC
              go_wp2_with fail
              refine HC.out.mono ?_
              rintro e wy ⟨ya, yc, rfl, hby⟩
              have HBY := Lib.hid hby
              clear hby
              go_wp2
              go_ret
              refine ⟨rfl, ?_⟩
              have b1 := HB9.out.trans (HBX.out.mono HB9.out.size)
              exact b1.trans (HBY.out.mono b1.size)
            · have HS := Lib.hid (fun W => size_calls (gt p j) W HX.out)
              go_wp2_with fail
              refine (HS.out _).mono ?_
              rintro e wx ⟨rfl, hbx⟩
              have HBX := Lib.hid (HBJ.out.trans (hbx.mono hsz9))
              clear hbx
              go_wp2_with fail
              refine (HS.out _).mono ?_
              rintro e wy ⟨rfl, hby⟩
              have HBY := Lib.hid (HBX.out.trans (hby.mono HBX.out.size))
              clear hby
              go_wp2
              go_roundw
              case rel => exact ⟨j + 1, by omega, by go_num, by go_num, by rw [HTL.out]; go_num, by rw [HTL.out]; omega, HBY.out⟩
              case measure => simp [intOf]; omega
        · obtain rfl : j = n := by omega
          have htk : p.take j = p := List.take_of_length_le (by rw [HKL.out]; exact Nat.le_refl _)
          have heq : (allF (p.take j)).length = t := by rw [htk] at het ⊢; omega
          have HF := Lib.hid (FIN.out wr HBJ.out j hj heq)
          have HN := Lib.hid (HK9.out.below HBJ.out)
          clear heq htk
          go_wp2_with fail
          refine HF.out.mono ?_
          rintro e wx ⟨vx, rfl, hvx, hbx⟩
          have HBX := Lib.hid hbx
          have S1 := sameNums_b _ _ _ _ wx hvx ((HN.out.below hbx).head j (by rw [HKL.out]; exact Nat.le_refl _))
          rw [decide_eq_true rfl] at S1
          have HS1 := Lib.hid S1
          clear S1 hvx hbx
          go_wp2_with fail
          refine HS1.out.mono ?_
          rintro e wy ⟨rfl, hby⟩
          have HBY := Lib.hid hby
          clear hby
          go_wp2
          go_ret
          refine ⟨rfl, ?_⟩
          have b1 := HB9.out.trans (HBJ.out.mono HB9.out.size)
          have b2 := b1.trans (HBX.out.mono b1.size)
          exact b2.trans (HBY.out.mono b2.size)
    | succ j =>
      rw [show ((j + 1 : Nat) : Int) - 1 = (j : Int) by omega]
      obtain ⟨pb, po, rfl, hpc⟩ := nrow_cells HK8.out (by rw [HKL.out]; omega)
      obtain ⟨qb, qo, rfl, hqc⟩ := nrow_cells HL8.out (by rw [HLL.out]; omega)
      have d1 := hpc j (by rw [HKL.out]; omega)
      have d2 := hqc j (by rw [HLL.out]; omega)
      have HD := Lib.hid (ordL_drop (k := p) (l := q) (i := j) (by rw [HKL.out]; omega) (by rw [HLL.out]; omega))
      clear hpc hqc
      have hcases : gt p j < gt q j ∨ gt q j < gt p j ∨ gt p j = gt q j := by omega
      rcases hcases with h | h | h
      · have hF := Lib.hid (show ordL (p.drop j) (q.drop j) = -1 by rw [HD.out, if_pos h])
        go_wp2
        go_quiet (fail)
        go_wp2
        go_roundw
        case rel => exact ⟨j, by omega, by go_num, by rw [hF.out], _, rfl⟩
        case measure => simp [intOf]
      · have hF := Lib.hid (show ordL (p.drop j) (q.drop j) = 1 by rw [HD.out, if_neg (by omega), if_pos h])
        go_wp2
        go_quiet (fail)
        go_wp2
        go_quiet (fail)
        go_wp2
        go_roundw
        case rel => exact ⟨j, by omega, by go_num, by rw [hF.out], _, rfl⟩
        case measure => simp [intOf]
      · have hF := Lib.hid (show ordL (p.drop j) (q.drop j) = ordL (p.drop (j + 1)) (q.drop (j + 1)) by rw [HD.out, if_neg (by omega), if_neg (by omega)])
        have h1 : (gt p j : Int) ≤ gt q j := by omega
        have h2 : (gt q j : Int) ≤ gt p j := by omega
        clear h
        go_wp2
        go_quiet (fail)
        go_wp2
        go_quiet (fail)
        go_wp2
        go_roundw
        case rel => exact ⟨j, by omega, by go_num, by rw [hF.out], _, rfl⟩
        case measure => simp [intOf]
end Go.Proofs.Ytflenhbkpaondaa
