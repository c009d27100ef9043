/-
  WALK of SlotsWrong.
-/
import Derived.Test.YtaeppclimafikaaSlotsJ
namespace Go.Proofs.Ytaeppclimafikaa
open Go.RowKit

theorem cellsL_new (w : World) (cs : List Value) (ty : TypeId) : ∀ j u, cs[j]? = some u → (w.alloc (.cells cs.toArray ty)).cell? ((⟨w.heap.size, 0, none⟩ : Addr).add j) = some u := by
  intro j u hj
  rw [Addr.add_lit, Nat.zero_add]
  have hh : (w.alloc (.cells cs.toArray ty)).heap[w.heap.size]? = some (.cells cs.toArray ty) := World.alloc_heap_new w _
  rw [cell_of_row _ _ j _ _ (0, 0) hh, ← Array.getElem?_toList]
  exact hj
/-- WHERE SlotsWrong STANDS: the table, its live references, its free places; what lies from B on may turn. -/
structure WrAt (w W : World) (q g B n k : Nat) (S : Tb) (vr vf : Value) : Prop where
  on : OnAt w W q g B n k S
  rr : RV W 0 vr (refsU S n)
  ff : NV W 0 vf S.free
  lr : ∀ x, vr.ownBlock = some x → x < B
  lf : ∀ x, vf.ownBlock = some x → x < B
theorem WrAt.to {w W W' : World} {q g B n k : Nat} {S : Tb} {vr vf : Value} (h : WrAt w W q g B n k S vr vf) (hb : Below W.heap.size W W') : WrAt w W' q g B n k S vr vf :=
  ⟨h.on.to hb, h.rr.below hb, h.ff.below hb, h.lr, h.lf⟩
theorem WrAt.al {w W : World} {q g B n k : Nat} {S : Tb} {vr vf : Value} (h : WrAt w W q g B n k S vr vf) (o : Obj) : WrAt w (W.alloc o) q g B n k S vr vf := h.to ((Below.refl _ W).alloc (Nat.le_refl _) o)
theorem WrAt.up {w W W' : World} {q g B n k : Nat} {S : Tb} {vr vf : Value} (h : WrAt w W q g B n k S vr vf) (o : Off (fun x => B ≤ x) W W') : WrAt w W' q g B n k S vr vf :=
  ⟨h.on.up o, row_keep h.rr fun x hx => o.block x (row_lt h.rr x hx).2 (by have := h.lr x hx; omega), row_keep h.ff fun x hx => o.block x (row_lt h.ff x hx).2 (by have := h.lf x hx; omega), h.lr, h.lf⟩
/-- None of these references is live. -/
def DeadL (n : Nat) (S : Tb) (l : List Rf) : Prop := ∀ r ∈ l, liveT n S r.1 r.2 = false
theorem DeadL.add {n : Nat} {S : Tb} {l m : List Rf} (h : DeadL n S l) (h' : DeadL n S m) : DeadL n S (l ++ m) := fun r hr => by
  rcases List.mem_append.1 hr with c | c
  · exact h r c
  · exact h' r c
theorem live_other {n : Nat} {S : Tb} {p : Nat} {L : Int} (h : (S.life p : Int) ≠ L) : liveT n S (p : Int) L = false := by
  unfold liveT
  simp [h]
theorem live_free {n : Nat} {S : Tb} {p : Nat} {L : Int} (h : S.tk p = false) : liveT n S (p : Int) L = false := by
  unfold liveT
  simp [h]
/-- The block b holds four pairs, none of which are numbers of a table. -/
def Bad4 (W : World) (b : Nat) (a1 a2 a3 a4 : Int) : Prop := W.heap[b]? = some (.cells #[.int .i64 a1, .int .i64 1, .int .i64 a2, .int .i64 1, .int .i64 1, .int .i64 a3, .int .i64 1, .int .i64 a4] 62 (0, 0))
theorem Bad4.get {W : World} {b : Nat} {a1 a2 a3 a4 : Int} (h : Bad4 W b a1 a2 a3 a4) (h1 : a1 < 0) (h2 : 1024 < a2) (h3 : a3 < 1) (h4 : 4294967296 < a4) (i : Nat) (hi : i < 4) : ∃ c0 c1 : Int, W.cell? ⟨b, i * 2, none⟩ = some (.int .i64 c0) ∧ W.cell? ⟨b, i * 2 + 1, none⟩ = some (.int .i64 c1) ∧ (c0 < 0 ∨ 1024 < c0 ∨ c1 < 1 ∨ 4294967296 < c1) := by
  unfold Bad4 at h
  match i, hi with
  | 0, _ => exact ⟨a1, 1, by simp [World.cell?, h], by simp [World.cell?, h], .inl h1⟩
  | 1, _ => exact ⟨a2, 1, by simp [World.cell?, h], by simp [World.cell?, h], .inr (.inl h2)⟩
  | 2, _ => exact ⟨1, a3, by simp [World.cell?, h], by simp [World.cell?, h], .inr (.inr (.inl h3))⟩
  | 3, _ => exact ⟨1, a4, by simp [World.cell?, h], by simp [World.cell?, h], .inr (.inr (.inr h4))⟩
set_option maxRecDepth 100000 in
set_option maxHeartbeats 8000000 in
theorem slotsWrong_walk (p0 k0 : Nat) (hp : p0 < 256) (hk : k0 < 256) (v : Value) (l : List Nat) (x : Int) (w : World) (hv : UB w v l) (hx : -9223372036854775808 ≤ x ∧ x ≤ 9223372036854775807) :
    Calls Try.prog 10 #[.int .u8 (p0 : Int), .int .u8 (k0 : Int), v, .int .i64 x] w fun e w' => e = .returned (.bool true) ∧ Below w.heap.size w w' := by
  have mixed : Try.prog.follows .mixedOrders = true := by kernel_rfl
  have HAw := Lib.hid (awake_calls w)
  have HSz := Lib.hid (fun W => sizes_calls p0 k0 hp hk W)
  obtain ⟨n, hn⟩ : ∃ n, p0 % 41 = n := ⟨_, rfl⟩
  obtain ⟨k, hk1⟩ : ∃ k, 1 + k0 % 6 = k := ⟨_, rfl⟩
  have hnl : n ≤ 40 := by omega
  have hkl : 1 ≤ k ∧ k ≤ 6 := by omega
  rw [hn, hk1] at HSz
  have HN1 := Lib.hid (fun W => new_calls n k (by omega) hkl.1 (by omega) W)
  have HV := Lib.hid hv
  obtain ⟨va, vc, rfl, hlc⟩ := hv.shape
  obtain ⟨m, hm⟩ : ∃ m, l.length = m := ⟨_, rfl⟩
  have HM := Lib.hid hm
  rw [hm] at hlc ⊢
  obtain ⟨n0, hn00, hn1', hn2, hn3⟩ := minC m 200
  have hn0 : min (m : Int) 200 = (n0 : Int) := hn00
  have hnv : n0 ≤ vc := by by_cases c : 0 < m; have := hlc c; omega; omega
  clear hn00 hn3 hv hn hk1 hp hk hm hlc
  obtain ⟨a1, ha1⟩ : ∃ a1 : Int, min x (-1) = a1 := ⟨_, rfl⟩
  obtain ⟨a2, ha2⟩ : ∃ a2 : Int, max x 1025 = a2 := ⟨_, rfl⟩
  obtain ⟨a3, ha3⟩ : ∃ a3 : Int, min x 0 = a3 := ⟨_, rfl⟩
  obtain ⟨a4, ha4⟩ : ∃ a4 : Int, max x 4294967297 = a4 := ⟨_, rfl⟩
  obtain ⟨a5, ha5⟩ : ∃ a5 : Int, max x (n : Int) = a5 := ⟨_, rfl⟩
  have HL1 := Lib.hid (show a1 < 0 by omega)
  have HL2 := Lib.hid (show 1024 < a2 by omega)
  have HL3 := Lib.hid (show a3 < 1 by omega)
  have HL4 := Lib.hid (show 4294967296 < a4 by omega)
  have HL5 := Lib.hid (show (n : Int) ≤ a5 by omega)
  clear hx
  go_enter Try.func10, Try.ntmps10
  go_wp2_with fail
  refine HAw.out.mono ?_
  rintro e w1 ⟨rfl, hb1⟩
  have HB1 := Lib.hid hb1
  clear hb1 HAw
  go_upto_block 0 with (first | (go_at_call 15; refine (HSz.out _).mono ?_; rintro e w' ⟨rfl, rfl⟩) | fail)
  have HQ0 := Lib.hid (show Bad4 (w1.alloc (.cells #[.int .i64 a1, .int .i64 1, .int .i64 a2, .int .i64 1, .int .i64 1, .int .i64 a3, .int .i64 1, .int .i64 a4] 62)) w1.heap.size a1 a2 a3 a4 from World.alloc_heap_new w1 _)
  have HBq := Lib.hid (HB1.out.alloc HB1.out.size (.cells #[.int .i64 a1, .int .i64 1, .int .i64 a2, .int .i64 1, .int .i64 1, .int .i64 a3, .int .i64 1, .int .i64 a4] 62))
  go_cut [] from 56 to 74 (fun wx => Below w.heap.size w wx)
  case first =>
    go_wp2_with fail
    go_loopw [56] (fun s56 wr => ∃ i : Nat, i ≤ 4 ∧ s56 = .int .i64 (i : Int) ∧ Bad4 wr w1.heap.size a1 a2 a3 a4 ∧ Below w.heap.size w wr) (fun s56 _ => 4 - (intOf s56).toNat)
    case atStart => exact ⟨0, by omega, rfl, HQ0.out, HBq.out⟩
    case round =>
      obtain ⟨i, hi, rfl, hq4, hbw⟩ := hrel
      have HQ := Lib.hid hq4; have HBw := Lib.hid hbw
      by_cases hlt : i < 4
      · obtain ⟨d0, d1, y0, y1, hbad⟩ := hq4.get HL1.out HL2.out HL3.out HL4.out i hlt
        have HNo := Lib.hid (fun W => new_no d0 d1 hbad W)
        have hi1 : (i : Int) < 4 := by omega
        have hwi : IntKind.i64.wrap ((i : Int) + 1) = (i : Int) + 1 := by rw [IntKind.wrap_i64]; omega
        clear hq4 hbw hbad HQ0 HBq
        go_wp2_with (go_at_call 16; refine (HNo.out _).mono ?_; rintro e w5 ⟨rfl, rfl⟩)
        go_roundw
        case rel => exact ⟨i + 1, by omega, by go_num, box_al HQ.out _, HBw.out.alloc HBw.out.size _⟩
        case measure => simp [intOf]; omega
      · obtain rfl : i = 4 := by omega
        clear hq4 hbw
        go_wp2_with fail
        go_meet
        exact HBw.out
  case rest =>
  have HB1 := Lib.hid hcut
  clear hcut HQ0 HBq
  obtain ⟨w1, hw1⟩ : ∃ w1, w1 = wc := ⟨_, rfl⟩
  rw [← hw1] at HB1 ⊢
  clear hw1 ha2 ha4
  go_wp2_with fail
  refine (HN1.out _).mono ?_
  rintro e w2 ⟨q, g, rfl, ta, hb2, a1, a2⟩
  obtain ⟨B, hB⟩ : ∃ B, w2.heap.size = B := ⟨_, rfl⟩
  have h0 : OnAt w w2 q g B n k (newT n) := by
    have s1 := HB1.out.size
    have s2 := hb2.size
    have := ta.lt
    exact ⟨ta, by omega, by omega, by omega, HB1.out.trans (hb2.mono s1)⟩
  have H0 := Lib.hid h0
  have HBe := Lib.hid hB
  clear ta hb2 a1 a2 h0 hB HN1 HSz HB1
  have hx1 : (0 : Int) ≤ (n0 : Int) := by omega
  have hx2 : (n0 : Int) ≤ (vc : Int) := by omega
  have hx3 : IntKind.i64.wrap (n0 : Int) = (n0 : Int) := by rw [IntKind.wrap_i64]; omega
  go_wp2_with fail
  go_loopw [93] (fun s93 wr => ∃ (i : Nat) (S : Tb), i ≤ n0 ∧ s93 = .int .i64 (i : Int) ∧ OnAt w wr q g B n k S) (fun s93 _ => n0 - (intOf s93).toNat)
  case atStart => exact ⟨0, _, Nat.zero_le _, rfl, H0.out⟩
  case round =>
    obtain ⟨i, S, hi, rfl, hA⟩ := hrel
    have hbw := hA.bel
    have HA := Lib.hid hA
    clear H0 hA
    by_cases hlt : i < n0
    · have hil : i < l.length := by rw [HM.out]; omega
      obtain ⟨bl, ol, rfl, x0, hy⟩ := (HV.out.below hbw).get (by rw [HM.out]) hil
      obtain ⟨y, hyy⟩ : ∃ y, fq l i = y := ⟨_, rfl⟩
      rw [hyy] at x0 hy
      have hi1 : (i : Int) < (n0 : Int) := by omega
      have hwi : IntKind.i64.wrap ((i : Int) + 1) = (i : Int) + 1 := by rw [IntKind.wrap_i64]; omega
      have HSt := Lib.hid (step_calls HA.out.tab y hy)
      obtain ⟨S', hS'⟩ : ∃ S', (stepF n k S y).2.2.2 = S' := ⟨_, rfl⟩
      rw [hS'] at HSt
      clear hyy hbw hil hn0 hS'
      go_wp2_with (go_at_call 17; refine HSt.out.mono ?_; rintro e w5 ⟨rfl, t5, o5⟩; have HA5 := Lib.hid (HA.out.step t5 o5); clear t5 o5)
      go_roundw
      case rel => exact ⟨i + 1, S', by omega, by go_num, HA5.out⟩
      case measure => simp [intOf]; omega
    · obtain rfl : i = n0 := by omega
      have hlt2 : ¬ (i : Int) < (i : Int) := by omega
      clear hbw hn0
      obtain ⟨i0, ii, iz0, iz1, iz2⟩ := info_parts info_ref
      have HI0 := Lib.hid ii; have HZ0 := Lib.hid iz0; have HZ1 := Lib.hid iz1; have HZ2 := Lib.hid iz2
      clear ii iz0 iz1 iz2
      have hcn : cnt n S.tk ≤ n := cnt_le _ _
      have hfn : S.free.length ≤ n := by have := HA.out.tab.ok.sum; omega
      go_wp2_with fail
      refine (refs_calls HA.out.tab).mono ?_
      rintro e w5 ⟨vr, rfl, hr5, hb5⟩
      obtain ⟨ra, rc, rfl⟩ := row_shape hr5
      have HA5 := Lib.hid (HA.out.to hb5)
      have HR5 := Lib.hid (show RV w5 0 (.slice ra (refsU S n).length rc) (refsU S n) from row_weak hr5 (Nat.zero_le _))
      clear hr5 hb5
      go_wp2_with fail
      refine (Free_calls HA5.out.tab).mono ?_
      rintro e w6 ⟨vf, rfl, hr6, hb6⟩
      obtain ⟨fa, fc, rfl⟩ := row_shape hr6
      obtain ⟨B2, hB2⟩ : ∃ B2, w6.heap.size = B2 := ⟨_, rfl⟩
      have h6 : WrAt w w6 q g B2 n k S (.slice ra (refsU S n).length rc) (.slice fa S.free.length fc) := by
        have h := HA5.out.to hb6
        have l1 := h.tab.lt
        have l2 := HR5.out.below hb6
        refine ⟨⟨h.tab, ⟨by omega, by omega⟩, ⟨h.ge.1, h.ge.2.1, by have := h.bel.size; omega⟩, by omega, h.bel⟩, l2, row_weak hr6 (Nat.zero_le _), fun x hx => by have := (row_lt l2 x hx).2; omega, fun x hx => by have := (row_lt hr6 x hx).2; omega⟩
      have H6 := Lib.hid h6
      have HB2 := Lib.hid hB2
      rw [refsU_len] at H6 ⊢
      obtain ⟨c, hc⟩ : ∃ c, cnt n S.tk = c := ⟨_, rfl⟩
      obtain ⟨f, hf⟩ : ∃ f, S.free.length = f := ⟨_, rfl⟩
      have HC := Lib.hid hc; have HF := Lib.hid hf
      rw [hc] at H6 hcn ⊢
      rw [hf] at H6 hfn ⊢
      clear h6 hr6 hb6 hB2 HR5 HA5 HA hc hf
      have HR6 := Lib.hid (show RV (w6.alloc (.cells #[.int .i64 a1, .int .i64 1, .int .i64 a5, .int .i64 1] 26)) B2 (.slice (some ⟨w6.heap.size, 0, none⟩) 2 2) [(a1, 1), (a5, 1)] from World.ownsRow_lit w6 #[.int .i64 a1, .int .i64 1, .int .i64 a5, .int .i64 1] 2 (by rw [HB2.out]; exact Nat.le_refl _) (by unfold maxLen; omega) rfl)
      have HD6 := Lib.hid (show DeadL n S [(a1, 1), (a5, 1)] from fun r hr => by
        have h1 := HL1.out
        have h5 := HL5.out
        simp at hr
        rcases hr with rfl | rfl
        · exact liveT_out (.inl h1) 1
        · exact liveT_out (.inr h5) 1)
      have H7 := Lib.hid (H6.out.al (.cells #[.int .i64 a1, .int .i64 1, .int .i64 a5, .int .i64 1] 26))
      clear H6
      go_upto_block 4 with fail
      go_cut [21] from 115 to 139 (fun s21 wx => ∃ bd : List Rf, RV wx B2 s21 bd ∧ bd.length = 2 + 3 * c ∧ DeadL n S bd ∧ WrAt w wx q g B2 n k S (.slice ra c rc) (.slice fa f fc))
      case first =>
        go_wp2_with fail
        go_loopw [21, 115] (fun s21 s115 wr => ∃ (j : Nat) (bd : List Rf), j ≤ c ∧ s115 = .int .i64 (j : Int) ∧ RV wr B2 s21 bd ∧ bd.length = 2 + 3 * j ∧ DeadL n S bd ∧ WrAt w wr q g B2 n k S (.slice ra c rc) (.slice fa f fc)) (fun _ s115 _ => c - (intOf s115).toNat)
        case atStart => exact ⟨0, [(a1, 1), (a5, 1)], Nat.zero_le _, rfl, HR6.out, rfl, HD6.out, H7.out⟩
        case round =>
          obtain ⟨j, bd, hj, rfl, hrb, hbl, hdd, hW⟩ := hrel
          obtain ⟨ba, bc, rfl⟩ := row_shape hrb
          have HRb := Lib.hid hrb; have HBl := Lib.hid hbl; have HDd := Lib.hid hdd; have HW := Lib.hid hW
          rw [hbl]
          clear HR6 HD6 H7 hrb hbl hdd
          by_cases hlt : j < c
          · have hjc : j < cnt n S.tk := by rw [HC.out]; exact hlt
            obtain ⟨gr, cap, e1, hcp, -, z0, z1⟩ := hW.rr.get (i := j) (by rw [refsU_len]; exact hjc)
            rw [refsU_len, HC.out] at e1 hcp
            obtain ⟨rfl, rfl⟩ : ra = some ⟨gr, 0, none⟩ ∧ rc = cap := by cases e1; exact ⟨rfl, rfl⟩
            rw [refsU_get S n j hjc] at z0 z1
            dsimp only at z0 z1
            have hpl := pl_mem.1 (fq_mem (l := pl n S.tk) (j := j) (show j < cnt n S.tk from hjc))
            obtain ⟨P, hP⟩ : ∃ P, fq (pl n S.tk) j = P := ⟨_, rfl⟩
            rw [hP] at z0 z1 hpl
            have hLk := hW.on.tab.ok.le P hpl.1
            have hL1 := hW.on.tab.ok.pos P hpl.1 hpl.2
            obtain ⟨L, hL⟩ : ∃ L, S.life P = L := ⟨_, rfl⟩
            have HDn := Lib.hid (show DeadL n S [((P : Int), (L : Int) + 1), ((P : Int), (L : Int) - 1), ((P : Int), a3)] from fun r hr => by
              have h3 := HL3.out
              simp at hr
              rcases hr with rfl | rfl | rfl
              · exact live_other (by rw [hL]; omega)
              · exact live_other (by rw [hL]; omega)
              · exact live_other (by rw [hL]; omega))
            rw [hL] at z1 hLk hL1
            have hj1 : (j : Int) < (c : Int) := by omega
            have hwj : IntKind.i64.wrap ((j : Int) + 1) = (j : Int) + 1 := by rw [IntKind.wrap_i64]; omega
            have hl1 : IntKind.i64.wrap ((L : Int) + 1) = (L : Int) + 1 := by rw [IntKind.wrap_i64]; omega
            have hl2 : IntKind.i64.wrap ((L : Int) - 1) = (L : Int) - 1 := by rw [IntKind.wrap_i64]; omega
            have hsz := hW.on.sz
            have HC3 := Lib.hid (show ∀ j u, [Value.int .i64 (P : Int), .int .i64 ((L : Int) + 1), .int .i64 (P : Int), .int .i64 ((L : Int) - 1), .int .i64 (P : Int), .int .i64 a3][j]? = some u → ((wr.alloc (.cells #[.int .i64 (P : Int), .int .i64 (L : Int)] 26)).alloc (.cells #[.int .i64 (P : Int), .int .i64 ((L : Int) + 1), .int .i64 (P : Int), .int .i64 ((L : Int) - 1), .int .i64 (P : Int), .int .i64 a3] 26)).cell? ((⟨wr.heap.size + 1, 0, none⟩ : Addr).add j) = some u by
              have := cellsL_new (wr.alloc (.cells #[.int .i64 (P : Int), .int .i64 (L : Int)] 26)) [Value.int .i64 (P : Int), .int .i64 ((L : Int) + 1), .int .i64 (P : Int), .int .i64 ((L : Int) - 1), .int .i64 (P : Int), .int .i64 a3] 26
              rw [World.size_alloc] at this
              exact this)
            have HRb2 := Lib.hid (show ((wr.alloc (.cells #[.int .i64 (P : Int), .int .i64 (L : Int)] 26)).alloc (.cells #[.int .i64 (P : Int), .int .i64 ((L : Int) + 1), .int .i64 (P : Int), .int .i64 ((L : Int) - 1), .int .i64 (P : Int), .int .i64 a3] 26)).ownsRow B2 26 2 (.slice ba (2 + 3 * j) bc) (2 + 3 * j) (cellsR bd) by
              have h2 := row_below HRb.out (((Below.refl _ wr).alloc (Nat.le_refl _) (.cells #[.int .i64 (P : Int), .int .i64 (L : Int)] 26)).alloc (by simp) (.cells #[.int .i64 (P : Int), .int .i64 ((L : Int) + 1), .int .i64 (P : Int), .int .i64 ((L : Int) - 1), .int .i64 (P : Int), .int .i64 a3] 26))
              rw [HBl.out] at h2
              exact h2)
            have HS2 := Lib.hid (show B2 ≤ ((wr.alloc (.cells #[.int .i64 (P : Int), .int .i64 (L : Int)] 26)).alloc (.cells #[.int .i64 (P : Int), .int .i64 ((L : Int) + 1), .int .i64 (P : Int), .int .i64 ((L : Int) - 1), .int .i64 (P : Int), .int .i64 a3] 26)).heap.size by simp; omega)
            clear hW e1 hP hpl hL hjc
            go_wp2_with (at_builtin; refine wpList_append_own_at _ rfl _ _ 44 rfl B2 26 i0 (.agg #[.int .i64 0, .int .i64 0]) 2 16 Try.underlying44 HI0.out HZ0.out HZ1.out HZ2.out rfl (by decide) _ _ _ rfl HRb2.out ⟨wr.heap.size + 1, 0, none⟩ 3 3 [.int .i64 (P : Int), .int .i64 ((L : Int) + 1), .int .i64 (P : Int), .int .i64 ((L : Int) - 1), .int .i64 (P : Int), .int .i64 a3] rfl rfl HC3.out (cellsR_one [((P : Int), (L : Int) + 1), ((P : Int), (L : Int) - 1), ((P : Int), a3)]) (by unfold maxLen; omega) (by omega) HS2.out ?_; intro v2 w8 hown2 hgr2 _ _; have HO2 := Lib.hid hown2; have HG2 := Lib.hid hgr2; clear hown2 hgr2)
            obtain ⟨ba2, bc2, rfl⟩ := row_shape HO2.out
            go_roundw
            case rel =>
              refine ⟨j + 1, bd ++ [((P : Int), (L : Int) + 1), ((P : Int), (L : Int) - 1), ((P : Int), a3)], hlt, by go_num, ?_, by rw [List.length_append, HBl.out]; show _ + 3 = _; omega, HDd.out.add HDn.out, ((HW.out.al (.cells #[.int .i64 (P : Int), .int .i64 (L : Int)] 26)).al (.cells #[.int .i64 (P : Int), .int .i64 ((L : Int) + 1), .int .i64 (P : Int), .int .i64 ((L : Int) - 1), .int .i64 (P : Int), .int .i64 a3] 26)).up (off_app HRb2.out HG2.out)⟩
              show World.ownsRow _ _ _ _ _ (bd ++ _).length (cellsR (bd ++ _))
              rw [cellsR_append, List.length_append, HBl.out]
              exact HO2.out
            case measure => simp [intOf]; omega
          · obtain rfl : j = c := by omega
            have hW2 := hW
            clear hW
            go_wp2_with fail
            go_meet
            have hr := HRb.out
            rw [HBl.out] at hr
            exact ⟨bd, hr, HBl.out, HDd.out, HW.out⟩
      case rest =>
      obtain ⟨bd, hrb, hbl, hdd, hW⟩ := hcut
      obtain ⟨ba, bc, rfl⟩ := row_shape hrb
      have HRb := Lib.hid hrb; have HBl := Lib.hid hbl; have HDd := Lib.hid hdd; have HW := Lib.hid hW
      rw [hbl]
      clear hrb hbl hdd hW HR6 HD6 H7
      go_upto_block 6 with fail
      go_cut [21] from 142 to 162 (fun s21 wx => ∃ bd : List Rf, RV wx B2 s21 bd ∧ bd.length = 2 + 3 * c + 2 * f ∧ DeadL n S bd ∧ WrAt w wx q g B2 n k S (.slice ra c rc) (.slice fa f fc))
      case first =>
        go_wp2_with fail
        go_loopw [21, 142] (fun s21 s142 wr => ∃ (j : Nat) (bd : List Rf), j ≤ f ∧ s142 = .int .i64 (j : Int) ∧ RV wr B2 s21 bd ∧ bd.length = 2 + 3 * c + 2 * j ∧ DeadL n S bd ∧ WrAt w wr q g B2 n k S (.slice ra c rc) (.slice fa f fc)) (fun _ s142 _ => f - (intOf s142).toNat)
        case atStart => exact ⟨0, bd, Nat.zero_le _, rfl, by have := HRb.out; rw [HBl.out] at this; exact this, HBl.out, HDd.out, HW.out⟩
        case round =>
          clear HRb HBl HDd HW
          obtain ⟨j, bd, hj, rfl, hrb, hbl, hdd, hW⟩ := hrel
          obtain ⟨ba, bc, rfl⟩ := row_shape hrb
          have HRb := Lib.hid hrb; have HBl := Lib.hid hbl; have HDd := Lib.hid hdd; have HW := Lib.hid hW
          rw [hbl]
          clear hrb hbl hdd
          by_cases hlt : j < f
          · have hjf : j < S.free.length := by rw [HF.out]; exact hlt
            obtain ⟨gr, cap, e1, hcp, -, z0⟩ := hW.ff.get hjf
            rw [HF.out] at e1 hcp
            obtain ⟨rfl, rfl⟩ : fa = some ⟨gr, 0, none⟩ ∧ fc = cap := by cases e1; exact ⟨rfl, rfl⟩
            have hpl := (hW.on.tab.ok.mem _).1 (fq_mem hjf)
            obtain ⟨P, hP⟩ : ∃ P, fq S.free j = P := ⟨_, rfl⟩
            rw [hP] at z0 hpl
            have hLk := hW.on.tab.ok.le P hpl.1
            have HLook := Lib.hid (look_calls hW.on.tab P hpl.1)
            rw [hpl.2.1] at HLook
            obtain ⟨L, hL⟩ : ∃ L, S.life P = L := ⟨_, rfl⟩
            rw [hL] at hLk HLook
            have HDn := Lib.hid (show DeadL n S [((P : Int), (L : Int)), ((P : Int), (L : Int) + 1)] from fun r hr => by
              simp at hr
              rcases hr with rfl | rfl
              · exact live_free hpl.2.1
              · exact live_free hpl.2.1)
            have hj1 : (j : Int) < (f : Int) := by omega
            have hwj : IntKind.i64.wrap ((j : Int) + 1) = (j : Int) + 1 := by rw [IntKind.wrap_i64]; omega
            have hl1 : IntKind.i64.wrap ((L : Int) + 1) = (L : Int) + 1 := by rw [IntKind.wrap_i64]; omega
            clear hW e1 hP hpl hL hjf
            go_upto_region 30 with (go_at_call 28; refine HLook.out.mono ?_; rintro e w5 ⟨rfl, hb5⟩; have HW5 := Lib.hid (HW.out.to hb5); have HRb5 := Lib.hid (HRb.out.below hb5); clear hb5)
            have hsz := HW5.out.on.sz
            have HC3 := Lib.hid (show ∀ j u, [Value.int .i64 (P : Int), .int .i64 (L : Int), .int .i64 (P : Int), .int .i64 ((L : Int) + 1)][j]? = some u → (w5.alloc (.cells #[.int .i64 (P : Int), .int .i64 (L : Int), .int .i64 (P : Int), .int .i64 ((L : Int) + 1)] 26)).cell? ((⟨w5.heap.size, 0, none⟩ : Addr).add j) = some u from cellsL_new w5 [Value.int .i64 (P : Int), .int .i64 (L : Int), .int .i64 (P : Int), .int .i64 ((L : Int) + 1)] 26)
            have HRb2 := Lib.hid (show (w5.alloc (.cells #[.int .i64 (P : Int), .int .i64 (L : Int), .int .i64 (P : Int), .int .i64 ((L : Int) + 1)] 26)).ownsRow B2 26 2 (.slice ba (2 + 3 * c + 2 * j) bc) (2 + 3 * c + 2 * j) (cellsR bd) by
              have h2 := row_below HRb5.out ((Below.refl _ w5).alloc (Nat.le_refl _) (.cells #[.int .i64 (P : Int), .int .i64 (L : Int), .int .i64 (P : Int), .int .i64 ((L : Int) + 1)] 26))
              rw [HBl.out] at h2
              exact h2)
            have HS2 := Lib.hid (show B2 ≤ (w5.alloc (.cells #[.int .i64 (P : Int), .int .i64 (L : Int), .int .i64 (P : Int), .int .i64 ((L : Int) + 1)] 26)).heap.size by simp; omega)
            go_wp2_with (at_builtin; refine wpList_append_own_at _ rfl _ _ 44 rfl B2 26 i0 (.agg #[.int .i64 0, .int .i64 0]) 2 16 Try.underlying44 HI0.out HZ0.out HZ1.out HZ2.out rfl (by decide) _ _ _ rfl HRb2.out ⟨w5.heap.size, 0, none⟩ 2 2 [.int .i64 (P : Int), .int .i64 (L : Int), .int .i64 (P : Int), .int .i64 ((L : Int) + 1)] rfl rfl HC3.out (cellsR_one [((P : Int), (L : Int)), ((P : Int), (L : Int) + 1)]) (by unfold maxLen; omega) (by omega) HS2.out ?_; intro v2 w8 hown2 hgr2 _ _; have HO2 := Lib.hid hown2; have HG2 := Lib.hid hgr2; clear hown2 hgr2)
            obtain ⟨ba2, bc2, rfl⟩ := row_shape HO2.out
            go_roundw
            case rel =>
              refine ⟨j + 1, bd ++ [((P : Int), (L : Int)), ((P : Int), (L : Int) + 1)], hlt, by go_num, ?_, by rw [List.length_append, HBl.out]; show _ + 2 = _; omega, HDd.out.add HDn.out, (HW5.out.al (.cells #[.int .i64 (P : Int), .int .i64 (L : Int), .int .i64 (P : Int), .int .i64 ((L : Int) + 1)] 26)).up (off_app HRb2.out HG2.out)⟩
              show World.ownsRow _ _ _ _ _ (bd ++ _).length (cellsR (bd ++ _))
              rw [cellsR_append, List.length_append, HBl.out]
              exact HO2.out
            case measure => simp [intOf]; omega
          · obtain rfl : j = f := by omega
            clear hW
            go_wp2_with fail
            go_meet
            have hr := HRb.out
            rw [HBl.out] at hr
            exact ⟨bd, hr, HBl.out, HDd.out, HW.out⟩
      case rest =>
      clear HRb HBl HDd HW
      obtain ⟨bd, hrb, hbl, hdd, hW⟩ := hcut
      obtain ⟨ba, bc, rfl⟩ := row_shape hrb
      have HRb := Lib.hid hrb; have HDd := Lib.hid hdd; have HW := Lib.hid hW
      obtain ⟨bn, hbn⟩ : ∃ bn, bd.length = bn := ⟨_, rfl⟩
      have HBn := Lib.hid hbn
      have hbb : bn ≤ 1000 := by omega
      rw [hbn]
      clear hrb hdd hW hbn hbl HI0 HZ0 HZ1 HZ2
      go_upto_block 8 with fail
      go_cut [] from 165 to 178 (fun wx => WrAt w wx q g B2 n k S (.slice ra c rc) (.slice fa f fc))
      case first =>
        go_wp2_with fail
        go_loopw [165] (fun s165 wr => ∃ j : Nat, j ≤ bn ∧ s165 = .int .i64 (j : Int) ∧ RV wr B2 (.slice ba bn bc) bd ∧ WrAt w wr q g B2 n k S (.slice ra c rc) (.slice fa f fc)) (fun s165 _ => bn - (intOf s165).toNat)
        case atStart => exact ⟨0, Nat.zero_le _, rfl, by have := HRb.out; rw [HBn.out] at this; exact this, HW.out⟩
        case round =>
          clear HRb HW
          obtain ⟨j, hj, rfl, hrb, hW⟩ := hrel
          have HRb := Lib.hid hrb; have HW := Lib.hid hW
          by_cases hlt : j < bn
          · have hjb : j < bd.length := by rw [HBn.out]; exact hlt
            obtain ⟨gr, cap, e1, hcp, -, z0, z1⟩ := hrb.get hjb
            rw [HBn.out] at e1 hcp
            obtain ⟨rfl, rfl⟩ : ba = some ⟨gr, 0, none⟩ ∧ bc = cap := by cases e1; exact ⟨rfl, rfl⟩
            have hd := HDd.out (rq bd j) (by unfold rq; rw [List.getD_eq_getElem?_getD, List.getElem?_eq_getElem hjb]; exact List.getElem_mem hjb)
            obtain ⟨P, hP⟩ : ∃ P, (rq bd j).1 = P := ⟨_, rfl⟩
            obtain ⟨L, hL⟩ : ∃ L, (rq bd j).2 = L := ⟨_, rfl⟩
            rw [hP] at z0 hd
            rw [hL] at z1 hd
            have h1 := HW.out.al (.cells #[.int .i64 P, .int .i64 L] 26)
            have HLv := Lib.hid (live_calls h1.on.tab P L)
            rw [hd] at HLv
            have HGv := Lib.hid (fun W (h : TA W q g n k S) => give_no h P L hd)
            have HW5 := Lib.hid h1
            have HRb5 := Lib.hid (hrb.below ((Below.refl _ wr).alloc (Nat.le_refl _) (.cells #[.int .i64 P, .int .i64 L] 26)))
            have HX5 := Lib.hid (World.alloc_heap_new wr (.cells #[.int .i64 P, .int .i64 L] 26))
            have hj1 : (j : Int) < (bn : Int) := by omega
            have hwj : IntKind.i64.wrap ((j : Int) + 1) = (j : Int) + 1 := by rw [IntKind.wrap_i64]; omega
            clear hW hrb e1 hP hL hd hjb h1
            go_wp2_with fail
            refine HLv.out.mono ?_
            rintro e w6 ⟨rfl, hb6⟩
            have HW6 := Lib.hid (HW5.out.to hb6)
            have HRb6 := Lib.hid (HRb5.out.below hb6)
            have hx6 := (hb6.block wr.heap.size (by simp)).trans HX5.out
            have y0 : w6.cell? ⟨wr.heap.size, 0, none⟩ = some (.int .i64 P) := by simp [World.cell?, hx6]
            have y1 : w6.cell? ⟨wr.heap.size, 1, none⟩ = some (.int .i64 L) := by simp [World.cell?, hx6]
            clear hb6 hx6
            go_wp2_with fail
            refine (HGv.out _ HW6.out.on.tab).mono ?_
            rintro e w7 ⟨rfl, hb7⟩
            have HW7 := Lib.hid (HW6.out.to hb7)
            have HRb7 := Lib.hid (HRb6.out.below hb7)
            clear hb7 y0 y1
            go_wp2_with fail
            go_roundw
            case rel =>
              have hfin : ∃ j' : Nat, j' ≤ bn ∧ Value.int .i64 ((j : Int) + 1) = .int .i64 (j' : Int) ∧ RV w7 B2 (.slice (some ⟨gr, 0, none⟩) bn bc) bd ∧ WrAt w w7 q g B2 n k S (.slice ra c rc) (.slice fa f fc) := ⟨j + 1, hlt, by go_num, HRb7.out, HW7.out⟩
              first | exact hfin | ((repeat apply Exists.intro); exact ⟨hfin, rfl⟩)
            case measure => simp [intOf]; omega
          · obtain rfl : j = bn := by omega
            clear hW hrb
            go_wp2_with fail
            go_meet
            exact HW.out
      case rest =>
      clear HRb HDd HW
      have HW := Lib.hid hcut
      have HQ2 := Lib.hid (World.alloc_heap_new wc (.cells #[.int .i64 a1, .int .i64 a5] 3))
      have HWa := Lib.hid (HW.out.al (.cells #[.int .i64 a1, .int .i64 a5] 3))
      clear hcut
      go_upto_block 10 with fail
      go_cut [] from 186 to 201 (fun wx => WrAt w wx q g B2 n k S (.slice ra c rc) (.slice fa f fc))
      case first =>
        go_wp2_with fail
        go_loopw [186] (fun s186 wr => ∃ j : Nat, j ≤ 2 ∧ s186 = .int .i64 (j : Int) ∧ wr.heap[wc.heap.size]? = some (.cells #[.int .i64 a1, .int .i64 a5] 3 (0, 0)) ∧ WrAt w wr q g B2 n k S (.slice ra c rc) (.slice fa f fc)) (fun s186 _ => 2 - (intOf s186).toNat)
        case atStart => exact ⟨0, Nat.zero_le _, rfl, HQ2.out, HWa.out⟩
        case round =>
          obtain ⟨j, hj, rfl, hq2, hW⟩ := hrel
          have HQ := Lib.hid hq2; have HW3 := Lib.hid hW
          by_cases hlt : j < 2
          · obtain ⟨d, z0, hd⟩ : ∃ d : Int, wr.cell? ⟨wc.heap.size, j, none⟩ = some (.int .i64 d) ∧ (d < 0 ∨ (n : Int) ≤ d) := by
              have h1 := HL1.out
              have h5 := HL5.out
              match j, hlt with
              | 0, _ => exact ⟨a1, by simp [World.cell?, hq2], .inl h1⟩
              | 1, _ => exact ⟨a5, by simp [World.cell?, hq2], .inr h5⟩
            have HLo := Lib.hid (look_out hW.on.tab d hd)
            have hj1 : (j : Int) < 2 := by omega
            have hwj : IntKind.i64.wrap ((j : Int) + 1) = (j : Int) + 1 := by rw [IntKind.wrap_i64]; omega
            clear hq2 hW hd HQ2 HWa HW
            go_wp2_with fail
            refine HLo.out.mono ?_
            rintro e w5 ⟨rfl, hb5⟩
            have HW5 := Lib.hid (HW3.out.to hb5)
            have HQ5 := Lib.hid ((hb5.block _ (Array.getElem?_eq_some_iff.1 HQ.out).1).trans HQ.out)
            clear hb5
            go_wp2_with fail
            go_roundw
            case rel =>
              have hfin : ∃ j' : Nat, j' ≤ 2 ∧ Value.int .i64 ((j : Int) + 1) = .int .i64 (j' : Int) ∧ w5.heap[wc.heap.size]? = some (.cells #[.int .i64 a1, .int .i64 a5] 3 (0, 0)) ∧ WrAt w w5 q g B2 n k S (.slice ra c rc) (.slice fa f fc) := ⟨j + 1, hlt, by go_num, HQ5.out, HW5.out⟩
              first | exact hfin | ((repeat apply Exists.intro); exact ⟨hfin, rfl⟩)
            case measure => simp [intOf]; omega
          · obtain rfl : j = 2 := by omega
            clear hq2 hW
            go_wp2_with fail
            go_meet
            exact HW3.out
      case rest =>
      have HW9 := Lib.hid hcut
      clear hcut HQ2 HWa HW
      go_wp2_with fail
      refine (refs_calls HW9.out.on.tab).mono ?_
      rintro e x5 ⟨vr5, rfl, hr5, hb5⟩
      have HW10 := Lib.hid (HW9.out.to hb5)
      have HE := Lib.hid (equalRs_calls _ _ _ _ _ _ hr5 HW10.out.rr (by rw [refsU_len, HC.out]; omega))
      clear hr5 hb5
      go_wp2_with fail
      refine HE.out.mono ?_
      rintro e x6 ⟨rfl, hb6⟩
      have HW11 := Lib.hid (HW10.out.to hb6)
      clear hb6
      go_wp2_with fail
      refine (Free_calls HW11.out.on.tab).mono ?_
      rintro e x7 ⟨vf7, rfl, hr7, hb7⟩
      have HW12 := Lib.hid (HW11.out.to hb7)
      have HE2 := Lib.hid (equalNs_calls _ _ _ _ _ _ hr7 HW12.out.ff (by rw [HF.out]; omega))
      clear hr7 hb7
      go_wp2_with fail
      refine HE2.out.mono ?_
      rintro e x8 ⟨rfl, hb8⟩
      have HW13 := Lib.hid (HW12.out.to hb8)
      clear hb8
      go_wp2_with fail
      go_ret
      exact ⟨rfl, HW13.out.on.bel⟩
end Go.Proofs.Ytaeppclimafikaa
