/-
  THE WALK of fermatalaw04.NameSorted: it returns true, and writes nothing that was there.
-/
import Derived.Test.YtdaalpiiagmdfaaNameSortP
import Derived.Test.YtdaalpiiagmdfaaNameAwake
import Derived.Test.YtdaalpiiagmdfaaWNameRanges
namespace Go.Proofs.Ytdaalpiiagmdfaa
open Go.RowKit Go.Shelf

theorem trow_cells {W : World} {a : Option Addr} {n c : Nat} {l : List (List UInt8)} (h : TRow W (.slice a n c) l) (h0 : 0 < l.length) : l.length ≤ c ∧ ∃ b o, a = some ⟨b, o, none⟩ ∧ b < W.heap.size ∧ ∀ i x, l[i]? = some x → W.cell? ⟨b, o + i, none⟩ = some (.string ⟨x.toArray⟩) := by
  obtain ⟨a9, c9, he9, h9⟩ := trow_shape h
  have h9 := h9 h0
  simp only [Value.slice.injEq] at he9
  obtain ⟨rfl, _, rfl⟩ := he9
  exact h9
theorem cell_below9 {B b o : Nat} {W w' : World} {v : Value} (h : Below B W w') (hp : b < B) (hc : W.cell? ⟨b, o, none⟩ = some v) : w'.cell? ⟨b, o, none⟩ = some v := (h.cell (p := ⟨b, o, none⟩) hp).trans hc
/-- The law's two lists. -/
structure SrtI (w W : World) (va vs : Value) (A S : List (List UInt8)) : Prop where
  below : Below w.heap.size w W
  ta : TRow W va A
  ts : TRow W vs S
theorem SrtI.to {w W W' : World} {va vs : Value} {A S : List (List UInt8)} (h : SrtI w W va vs A S) (hb : Below W.heap.size W W') : SrtI w W' va vs A S :=
  ⟨h.below.trans (hb.mono h.below.size), h.ta.below hb, h.ts.below hb⟩

set_option maxRecDepth 100000 in
set_option maxHeartbeats 4000000 in
theorem nameSorted_walk (v : Value) (l : List Nat) (tn q : Nat) (htn : tn < 256) (hq : q < 65536) (w : World) (h : MRow w v l) (hl : ∀ x ∈ l, x < 65536) (hlen : l.length ≤ maxLen) :
    Calls Try.prog 6 #[v, .int .u8 (tn : Int), .int .u16 (q : Int)] w fun e w' => e = .returned (.bool true) ∧ Below w.heap.size w w' := by
  have hml := mades_len l
  have hmr := mades_right l
  have hsl := setL_len nmC (mades l)
  have hset := setL_set hmr (by omega)
  have AW := Lib.hid (fun W => awake4_calls W)
  have MS := Lib.hid (fun W (h : MRow W v l) => mades_calls v l W h hl hlen)
  have OF := Lib.hid (fun v W (h : TRow W v (mades l)) => by
    have h := of_calls v (mades l) W h (by omega) (fun p hp => by have := right_len (hmr p hp); omega)
    rw [(of_mades l).1, (of_mades l).2] at h; exact h)
  have MD := Lib.hid (fun W => made_calls q hq W)
  have hmem := Lib.hid (fun p => setL_mem nmC_good (mades l) p)
  have HMr := Lib.hid hmr
  have HS := Lib.hid hset
  have hro := made_right q
  obtain ⟨Wt, Wo, m1, m2, m3, m4, m5, m6, m7, m8, m9, m10, m11, m12, m13, m14⟩ := more_less hset hro (by omega)
  have SD := Lib.hid (show ∀ xs : List (List UInt8), (∀ z ∈ xs, z ∈ mades l) → (∀ z ∈ mades l, z ∈ xs) → setL nmC xs = setL nmC (mades l) from fun xs h1 h2 => setL_same (fun z => ⟨h1 z, h2 z⟩))
  have H0 := Lib.hid h
  have OV := Lib.hid (show ∃ a n c, v = .slice a n c by rcases h with ⟨_, a, c, rfl⟩ | ⟨b, o, c, rfl, _⟩ <;> exact ⟨_, _, _, rfl⟩)
  have hS40 : (setL nmC (mades l)).length ≤ (mades l).length := hsl
  generalize setL nmC (mades l) = S at *
  generalize mades l = A at *
  generalize madeN q = o at *
  have ST := Lib.hid (fun v W (h : TRow W v S) => by
    have h := set_calls v S W h (by omega) (fun p hp => by have := right_len (HMr.out p ((hmem.out p).1 hp)); omega)
    rw [HS.out] at h; exact h)
  have AD := Lib.hid (fun v W (xs : List (List UInt8)) (s : List UInt8) (h : TRow W v (setL nmC xs)) (hx : ∀ z ∈ xs, z ∈ A) (hs : s ∈ A) (hn : xs.length ≤ 200) => by
    have hln := setL_len nmC xs
    have hrx : ∀ p ∈ xs, rightN p = true := fun p hp => HMr.out p (hx p hp)
    have h := add_calls v (setL nmC xs) s W h (by omega) (fun p hp => by have := right_len (hrx p ((setL_mem nmC_good xs p).1 hp)); omega) (by have := right_len (HMr.out s hs); omega)
    have e := add_is (setL_set hrx (by omega)) (HMr.out s hs) (.inr (by omega))
    rw [e.1, e.2, setL_more] at h
    exact h)
  have FD := Lib.hid (fun v W (s : List UInt8) (h : TRow W v S) (hs : s ∈ A) => by
    have h := find_calls v S s W h (by omega) (fun p hp => by have := right_len (HMr.out p ((hmem.out p).1 hp)); omega) (by have := right_len (HMr.out s hs); omega)
    rw [(look_mem HS.out (HMr.out s hs)).2 ((hmem.out s).2 hs)] at h
    exact h)
  have FI := Lib.hid (fun v W i (hi : i < S.length) (h : TRow W v S) => by
    have h := find_calls v S S[i] W h (by omega) (fun p hp => by have := right_len (HMr.out p ((hmem.out p).1 hp)); omega) (by have := right_len (HMr.out _ ((hmem.out _).1 (List.getElem_mem hi))); omega)
    rw [(look_idx HS.out hi).1, (look_idx HS.out hi).2] at h
    exact h)
  have CM := Lib.hid (fun W i (hi : i + 1 < S.length) => by
    have h := compare_calls S[i] S[i + 1] W (by have := right_len (HMr.out _ ((hmem.out _).1 (List.getElem_mem (show i < S.length by omega)))); omega) (by have := right_len (HMr.out _ ((hmem.out _).1 (List.getElem_mem hi))); omega)
    rw [(cmp_set HS.out hi).1, (cmp_set HS.out hi).2] at h
    exact h)
  have FO := Lib.hid (fun v W (h : TRow W v S) => find_calls v S o W h (by omega) (fun p hp => by have := right_len (HMr.out p ((hmem.out p).1 hp)); omega) (by have := right_len hro; omega))
  have AO := Lib.hid (fun v W (h : TRow W v S) => by
    have h := add_calls v S o W h (by omega) (fun p hp => by have := right_len (HMr.out p ((hmem.out p).1 hp)); omega) (by have := right_len hro; omega)
    rw [m1, m2] at h; exact h)
  have DO := Lib.hid (fun v W (h : TRow W v Wt) => by
    have h := drop_calls v Wt o W h (by omega) (fun p hp => by have := right_len (m13 p hp); omega) (by have := right_len hro; omega)
    rw [m3, m4] at h; exact h)
  have DP := Lib.hid (fun v W (h : TRow W v Wo) => by
    have h := drop_calls v Wo o W h (by omega) (fun p hp => by have := right_len (m14 p hp); omega) (by have := right_len hro; omega)
    rw [m5, m6] at h; exact h)
  have AP := Lib.hid (fun v W (h : TRow W v Wo) => by
    have h := add_calls v Wo o W h (by omega) (fun p hp => by have := right_len (m14 p hp); omega) (by have := right_len hro; omega)
    rw [m7, m8] at h; exact h)
  have M9 := Lib.hid m9
  have M10 := Lib.hid m10
  have M11 := Lib.hid m11
  have M12 := Lib.hid m12
  clear m1 m2 m3 m4 m5 m6 m7 m8 m9 m10 m11 m12 m13 m14 hmr hset hl hlen h hsl hro
  generalize lookH S o = H at *
  generalize lookI S o = F at *
  simp only [str] at *
  obtain ⟨a, n, c, rfl⟩ := OV.out
  clear OV
  go_enter Try.func6, Try.ntmps6
  go_wp2_with fail
  refine (AW.out _).mono ?_
  rintro e w1 ⟨rfl, hb⟩
  have HB1 := Lib.hid hb
  have H1 := Lib.hid (H0.out.below hb)
  clear hb
  go_wp2_with fail
  refine (MS.out _ H1.out).mono ?_
  rintro e w2 ⟨v2, rfl, ho, hb⟩
  have HB2 := Lib.hid (HB1.out.trans (hb.mono HB1.out.size))
  have T2 := Lib.hid (trow_own ho)
  obtain ⟨a2, c2, rfl⟩ := ownsS_shape ho
  clear ho hb
  go_wp2_with fail
  refine (OF.out _ _ T2.out).mono ?_
  rintro e w3 ⟨v3, rfl, ho, hb⟩
  have HB3 := Lib.hid (HB2.out.trans (hb.mono HB2.out.size))
  have T3 := Lib.hid (trow_own ho)
  obtain ⟨a3, c3, rfl⟩ := ownsS_shape ho
  have I3 := Lib.hid (show SrtI w w3 (.slice a2 A.length c2) (.slice a3 S.length c3) A S from ⟨HB3.out, T2.out.below hb, T3.out⟩)
  clear ho hb
  go_wp2_with fail
  refine (ST.out _ _ I3.out.ts).mono ?_
  rintro e w4 ⟨rfl, hb⟩
  have I4 := Lib.hid (I3.out.to hb)
  clear hb
  have hle : ¬ (A.length : Int) < (S.length : Int) := by omega
  obtain ⟨L, hL⟩ : ∃ L : Int, (A.length : Int) = L := ⟨_, rfl⟩
  have hL40 : L ≤ 40 := by omega
  have hL0 : 0 ≤ L := by omega
  go_wp2_with fail
  go_loopw [10, 61] (fun vo i wr => ∃ (k : Nat) (xs : List (List UInt8)), (k : Int) ≤ 2 * L ∧ i = .int .i64 (k : Int) ∧ xs.length ≤ k ∧ (∀ z ∈ xs, z ∈ A) ∧ OwnS wr w.heap.size vo (setL nmC xs) ∧ SrtI w wr (.slice a2 A.length c2) (.slice a3 S.length c3) A S) (fun _ i _ => (2 * L).toNat - (intOf i).toNat)
  case atStart => exact ⟨0, [], by omega, rfl, Nat.le_refl _, by simp, World.ownsRow_nil _ _ _ _, I4.out⟩
  case round =>
    obtain ⟨k, xs, hk, rfl, hxl, hxA, hown, hI⟩ := hrel
    have HXA := Lib.hid hxA
    have HO := Lib.hid hown
    have I5 := Lib.hid hI
    clear hxA hown hI
    by_cases hlt : (k : Int) < 2 * L
    · have hL1 : 0 < L := by omega
      have hLne : (L == 0) = false := by rw [beq_eq_false_iff_ne]; omega
      obtain ⟨m, hm⟩ : ∃ m : Nat, (k * 7 + tn) % A.length = m := ⟨_, rfl⟩
      have hmA : m < A.length := by rw [← hm]; exact Nat.mod_lt _ (by omega)
      have hmL : (m : Int) < L := by omega
      have hmod : ((k : Int) * 7 + (tn : Int)) % L = (m : Int) := by
        rw [← hL, ← hm]; simp
      clear hm
      obtain ⟨hcc, b, o1, rfl, hb1, hcell⟩ := trow_cells I5.out.ta (by omega)
      have hcm := hcell m A[m] (List.getElem?_eq_getElem hmA)
      have hLc : L ≤ (c2 : Int) := by omega
      have HAm := Lib.hid (List.getElem_mem hmA)
      clear hcell
      generalize A[m] = s at *
      go_wp2_with fail
      with_reducible refine (AD.out _ _ xs s (trow_own HO.out) HXA.out HAm.out (by omega)).mono ?_
      rintro e w6 ⟨v6, rfl, ho, hb⟩
      have I6 := Lib.hid (I5.out.to hb)
      have HO6 := Lib.hid (own_lower ho I5.out.below.size)
      clear ho hb
      go_wp2_with fail
      go_roundw
      case rel => exact ⟨k + 1, s :: xs, by omega, by go_num, by simp; omega, (fun z hz => by rcases List.mem_cons.1 hz with rfl | hz; exact HAm.out; exact HXA.out z hz), HO6.out, I6.out⟩
      case measure => simp [intOf]; omega
    · have hk80 : k ≤ 80 := by omega
      go_wp2_with fail
      clear hk hlt
      go_loopw [10, 85] (fun vo i wr => ∃ (j : Nat) (ys : List (List UInt8)), j ≤ A.length ∧ i = .int .i64 (j : Int) ∧ ys.length ≤ 80 + j ∧ (∀ z ∈ ys, z ∈ A) ∧ (∀ z ∈ A.take j, z ∈ ys) ∧ OwnS wr w.heap.size vo (setL nmC ys) ∧ SrtI w wr (.slice a2 A.length c2) (.slice a3 S.length c3) A S) (fun _ i _ => A.length - (intOf i).toNat)
      case atStart => exact ⟨0, xs, Nat.zero_le _, rfl, by omega, HXA.out, by simp, HO.out, I5.out⟩
      case round =>
        obtain ⟨j, ys, hj, rfl, hyl, hyA, hAy, hown, hI⟩ := hrel
        have HYA := Lib.hid hyA
        have HAY := Lib.hid hAy
        have HP := Lib.hid hown
        have I7 := Lib.hid hI
        clear hyA hAy hown hI
        by_cases hlt2 : j < A.length
        · obtain ⟨hcc, b, o1, rfl, hb1, hcell⟩ := trow_cells I7.out.ta (by omega)
          have hcm := hcell j A[j] (List.getElem?_eq_getElem hlt2)
          have hjL : (j : Int) < L := by omega
          have HAj := Lib.hid (List.getElem_mem hlt2)
          have HTk := Lib.hid (List.take_succ_eq_append_getElem hlt2)
          clear hcell
          generalize A[j] = s at *
          go_wp2_with fail
          with_reducible refine (AD.out _ _ ys s (trow_own HP.out) HYA.out HAj.out (by omega)).mono ?_
          rintro e w6 ⟨v6, rfl, ho, hb⟩
          have I8 := Lib.hid (I7.out.to hb)
          have HP8 := Lib.hid (own_lower ho I7.out.below.size)
          clear ho hb
          go_wp2_with fail
          with_reducible refine (FD.out _ _ s I8.out.ts HAj.out).mono ?_
          rintro e w7 ⟨rfl, hb⟩
          have I9 := Lib.hid (I8.out.to hb)
          have HP9 := Lib.hid (ownS_below HP8.out hb)
          clear hb
          go_wp2_with fail
          go_roundw
          case rel => exact ⟨j + 1, s :: ys, hlt2, by go_num, by simp; omega, (fun z hz => by rcases List.mem_cons.1 hz with rfl | hz; exact HAj.out; exact HYA.out z hz), (fun z hz => by rw [HTk.out, List.mem_append] at hz; rcases hz with hz | hz; exact List.mem_cons_of_mem _ (HAY.out z hz); simp at hz; exact hz ▸ List.mem_cons_self), HP9.out, I9.out⟩
          case measure => simp [intOf]; omega
        · obtain rfl : j = A.length := by omega
          have hSd := SD.out ys HYA.out (fun z hz => HAY.out z (by rw [List.take_length]; exact hz))
          rw [hSd] at HP
          clear hSd hj hyl hlt2 hxl hk80
          have TV := Lib.hid (trow_own HP.out)
          go_wp2_with fail
          go_loopw [108] (fun i wr => ∃ j : Nat, j ≤ S.length ∧ i = .int .i64 (j : Int) ∧ SrtI w wr (.slice a2 A.length c2) (.slice a3 S.length c3) A S ∧ TRow wr u10 S) (fun i _ => S.length - (intOf i).toNat)
          case atStart => exact ⟨0, Nat.zero_le _, rfl, I7.out, TV.out⟩
          case round =>
            obtain ⟨j, hj, rfl, hI, hV⟩ := hrel
            have J1 := Lib.hid hI
            have V1 := Lib.hid hV
            clear hI hV
            by_cases hlt3 : j < S.length
            · obtain ⟨hcc, b, o1, rfl, hb1, hcell⟩ := trow_cells J1.out.ts (by omega)
              have hcm := hcell j S[j] (List.getElem?_eq_getElem hlt3)
              have hj3 : (j : Int) < (S.length : Int) := by omega
              have hcc3 : (S.length : Int) ≤ (c3 : Int) := by omega
              have HSj := Lib.hid ((hmem.out S[j]).1 (List.getElem_mem hlt3))
              have FJ := Lib.hid (fun W (h : TRow W (.slice (some ⟨b, o1, none⟩) S.length c3) S) => FI.out _ W j hlt3 h)
              have HCell := Lib.hid hcell
              cases j with
              | zero =>
                clear hcell
                rw [Nat.add_zero] at hcm
                generalize S[0] = s at *
                go_wp2_with fail
                with_reducible refine (FJ.out _ J1.out.ts).mono ?_
                rintro e w7 ⟨rfl, hb⟩
                have J2 := Lib.hid (J1.out.to hb)
                have V2 := Lib.hid (V1.out.below hb)
                clear hb
                go_wp2_with fail
                go_loopw [22, 146] (fun t i wr2 => ∃ (p : Nat) (t' : Bool), p ≤ A.length ∧ i = .int .i64 (p : Int) ∧ t = .bool t' ∧ (∀ z ∈ A.take p, z = s → t' = true) ∧ wr2 = w7) (fun _ i _ => A.length - (intOf i).toNat)
                case atStart => exact ⟨0, false, Nat.zero_le _, rfl, rfl, by simp, rfl⟩
                case round =>
                  obtain ⟨p, t', hp, rfl, rfl, hall, hw2⟩ := hrel
                  have hw2 := hw2.symm
                  subst hw2
                  have HAll := Lib.hid hall
                  clear hall
                  by_cases hlt4 : p < A.length
                  · obtain ⟨hcc4, b4, o4, rfl, hb4, hcell4⟩ := trow_cells J2.out.ta (by omega)
                    have hcp := hcell4 p A[p] (List.getElem?_eq_getElem hlt4)
                    have hpL : (p : Int) < L := by omega
                    have HTp := Lib.hid (List.take_succ_eq_append_getElem hlt4)
                    clear hcell4
                    generalize A[p] = x at *
                    obtain ⟨u, hu⟩ : ∃ u : Bool, (s == x) = u := ⟨_, rfl⟩
                    have hux : x = s → u = true := fun e => by rw [← hu, e]; simp
                    have HUx := Lib.hid hux
                    clear hux
                    cases t' with
                    | true =>
                      go_wp2_with fail
                      go_roundw
                      case rel => exact ⟨p + 1, true, hlt4, by go_num, rfl, (fun _ _ _ => rfl), by first | rfl | trivial⟩
                      case measure => simp [intOf]; omega
                    | false =>
                      go_wp2_with fail
                      go_roundw
                      case rel => exact ⟨p + 1, u, hlt4, by go_num, by first | rfl | rw [hu], (fun z hz e => by rw [HTp.out, List.mem_append] at hz; rcases hz with hz | hz; have := HAll.out z hz e; cases this; simp at hz; exact HUx.out (hz ▸ e)), by first | rfl | trivial⟩
                      case measure => simp [intOf]; omega
                  · obtain rfl : p = A.length := by omega
                    obtain rfl : t' = true := HAll.out s (by rw [List.take_length]; exact HSj.out) rfl
                    go_wp2_with fail
                    go_roundw
                    case rel => first | exact ⟨0 + 1, by omega, by go_num, J2.out, V2.out⟩ | ((repeat apply Exists.intro); refine ⟨⟨0 + 1, by omega, by go_num, J2.out, V2.out⟩, ?_⟩; repeat' (first | exact rfl | apply And.intro))
                    case measure => simp [intOf]; omega
              | succ j' =>
                have hcm0 := hcell j' S[j'] (List.getElem?_eq_getElem (by omega))
                have CJ := Lib.hid (fun W => CM.out W j' hlt3)
                have hjw : ((j' + 1 : Nat) : Int) - 1 = (j' : Int) := by omega
                clear hcell
                generalize S[j'] = s0 at *
                generalize S[j' + 1] = s at *
                go_wp2_with fail
                with_reducible refine (FJ.out _ J1.out.ts).mono ?_
                rintro e w7 ⟨rfl, hb⟩
                have J2 := Lib.hid (J1.out.to hb)
                have V2 := Lib.hid (V1.out.below hb)
                have hcm0 := cell_below9 hb hb1 hcm0
                have hcm := cell_below9 hb hb1 hcm
                clear hb
                go_wp2_with fail
                with_reducible refine (CJ.out _).mono ?_
                rintro e w8 ⟨rfl, hb⟩
                have J3 := Lib.hid (J2.out.to hb)
                have V3 := Lib.hid (V2.out.below hb)
                clear hb hcm0 hcm
                go_wp2_with fail
                go_loopw [22, 146] (fun t i wr2 => ∃ (p : Nat) (t' : Bool), p ≤ A.length ∧ i = .int .i64 (p : Int) ∧ t = .bool t' ∧ (∀ z ∈ A.take p, z = s → t' = true) ∧ wr2 = w8) (fun _ i _ => A.length - (intOf i).toNat)
                case atStart => exact ⟨0, false, Nat.zero_le _, rfl, rfl, by simp, rfl⟩
                case round =>
                  obtain ⟨p, t', hp, rfl, rfl, hall, hw2⟩ := hrel
                  have hw2 := hw2.symm
                  subst hw2
                  have HAll := Lib.hid hall
                  clear hall
                  by_cases hlt4 : p < A.length
                  · obtain ⟨hcc4, b4, o4, rfl, hb4, hcell4⟩ := trow_cells J3.out.ta (by omega)
                    have hcp := hcell4 p A[p] (List.getElem?_eq_getElem hlt4)
                    have hpL : (p : Int) < L := by omega
                    have HTp := Lib.hid (List.take_succ_eq_append_getElem hlt4)
                    clear hcell4
                    generalize A[p] = x at *
                    obtain ⟨u, hu⟩ : ∃ u : Bool, (s == x) = u := ⟨_, rfl⟩
                    have hux : x = s → u = true := fun e => by rw [← hu, e]; simp
                    have HUx := Lib.hid hux
                    clear hux
                    cases t' with
                    | true =>
                      go_wp2_with fail
                      go_roundw
                      case rel => exact ⟨p + 1, true, hlt4, by go_num, rfl, (fun _ _ _ => rfl), by first | rfl | trivial⟩
                      case measure => simp [intOf]; omega
                    | false =>
                      go_wp2_with fail
                      go_roundw
                      case rel => exact ⟨p + 1, u, hlt4, by go_num, by first | rfl | rw [hu], (fun z hz e => by rw [HTp.out, List.mem_append] at hz; rcases hz with hz | hz; have := HAll.out z hz e; cases this; simp at hz; exact HUx.out (hz ▸ e)), by first | rfl | trivial⟩
                      case measure => simp [intOf]; omega
                  · obtain rfl : p = A.length := by omega
                    obtain rfl : t' = true := HAll.out s (by rw [List.take_length]; exact HSj.out) rfl
                    go_wp2_with fail
                    go_roundw
                    case rel => first | exact ⟨j' + 1 + 1, by omega, by go_num, J3.out, V3.out⟩ | ((repeat apply Exists.intro); refine ⟨⟨j' + 1 + 1, by omega, by go_num, J3.out, V3.out⟩, ?_⟩; repeat' (first | exact rfl | apply And.intro))
                    case measure => simp [intOf]; omega
            · obtain rfl : j = S.length := by omega
              clear hj hlt3
              have SM := Lib.hid (fun v v' (T : List (List UInt8)) W (h : TRow W v T) (h' : TRow W v' T) (hl : T.length ≤ 1000) => by
                have h := sameTexts_calls v v' T T W h h' (by omega)
                rw [decide_eq_true (rfl : T = T)] at h
                exact h)
              have SN := Lib.hid (fun v v' W (h : TRow W v Wt) (h' : TRow W v' S) => by
                have h := sameTexts_calls v v' Wt S W h h' (by have := M11.out; omega)
                rw [M9.out] at h
                exact h)
              have hS1000 : S.length ≤ 1000 := by omega
              have hW1000 : Wt.length ≤ 1000 := by have := M11.out; omega
              go_wp2_with fail
              with_reducible refine (SM.out _ _ S _ V1.out J1.out.ts hS1000).mono ?_
              rintro e w5 ⟨rfl, n5, hw⟩
              have K1 := Lib.hid (J1.out.to (show Below wr.heap.size wr w5 by rw [hw]; exact below_drewN (Below.refl _ _) _))
              clear hw
              go_wp2_with fail
              with_reducible refine (MD.out _).mono ?_
              rintro e w6 ⟨rfl, hb⟩
              have K2 := Lib.hid (K1.out.to hb)
              clear hb
              go_wp2_with fail
              with_reducible refine (FO.out _ _ K2.out.ts).mono ?_
              rintro e w7 ⟨rfl, hb⟩
              have K3 := Lib.hid (K2.out.to hb)
              clear hb
              go_wp2_with fail
              with_reducible refine (AO.out _ _ K3.out.ts).mono ?_
              rintro e w8 ⟨vw, rfl, ho, hb⟩
              have K4 := Lib.hid (K3.out.to hb)
              have W4 := Lib.hid (trow_own ho)
              clear hb ho
              go_wp2_with fail
              with_reducible refine (DO.out _ _ W4.out).mono ?_
              rintro e w9 ⟨vo, rfl, ho, hb⟩
              have K5 := Lib.hid (K4.out.to hb)
              have W5 := Lib.hid (W4.out.below hb)
              have O5 := Lib.hid (trow_own ho)
              clear hb ho
              go_wp2_with fail
              with_reducible refine (DP.out _ _ O5.out).mono ?_
              rintro e w10 ⟨vn, rfl, ho, hb⟩
              have K6 := Lib.hid (K5.out.to hb)
              have W6 := Lib.hid (W5.out.below hb)
              have O6 := Lib.hid (O5.out.below hb)
              clear hb ho
              go_wp2_with fail
              with_reducible refine (SN.out _ _ _ W6.out K6.out.ts).mono ?_
              rintro e w11 ⟨rfl, n6, hw⟩
              have hb : Below w10.heap.size w10 w11 := by rw [hw]; exact below_drewN (Below.refl _ _) _
              have K7 := Lib.hid (K6.out.to hb)
              have W7 := Lib.hid (W6.out.below hb)
              have O7 := Lib.hid (O6.out.below hb)
              clear hw hb
              cases H with
              | true =>
                go_wp2_with fail
                with_reducible refine (AP.out _ _ O7.out).mono ?_
                rintro e w13 ⟨vb, rfl, ho, hb⟩
                have K9 := Lib.hid (K7.out.to hb)
                have W9 := Lib.hid (W7.out.below hb)
                have B9 := Lib.hid (trow_own ho)
                clear hb ho
                go_wp2_with fail
                with_reducible refine (SM.out _ _ Wt _ B9.out W9.out hW1000).mono ?_
                rintro e w14 ⟨rfl, n9, hw⟩
                have K10 := Lib.hid (K9.out.to (show Below w13.heap.size w13 w14 by rw [hw]; exact below_drewN (Below.refl _ _) _))
                clear hw
                go_wp2
                go_ret
                exact ⟨rfl, K10.out.below⟩
              | false =>
                have hWo := M10.out rfl
                rw [hWo] at O7 AP
                go_wp2_with fail
                with_reducible refine (SM.out _ _ S _ O7.out K7.out.ts hS1000).mono ?_
                rintro e w12 ⟨rfl, n7, hw⟩
                have hb : Below w11.heap.size w11 w12 := by rw [hw]; exact below_drewN (Below.refl _ _) _
                have K8 := Lib.hid (K7.out.to hb)
                have W8 := Lib.hid (W7.out.below hb)
                have O8 := Lib.hid (O7.out.below hb)
                clear hw hb
                go_wp2_with fail
                with_reducible refine (AP.out _ _ O8.out).mono ?_
                rintro e w13 ⟨vb, rfl, ho, hb⟩
                have K9 := Lib.hid (K8.out.to hb)
                have W9 := Lib.hid (W8.out.below hb)
                have B9 := Lib.hid (trow_own ho)
                clear hb ho
                go_wp2_with fail
                with_reducible refine (SM.out _ _ Wt _ B9.out W9.out hW1000).mono ?_
                rintro e w14 ⟨rfl, n9, hw⟩
                have K10 := Lib.hid (K9.out.to (show Below w13.heap.size w13 w14 by rw [hw]; exact below_drewN (Below.refl _ _) _))
                clear hw
                go_wp2
                go_ret
                exact ⟨rfl, K10.out.below⟩
end Go.Proofs.Ytdaalpiiagmdfaa
