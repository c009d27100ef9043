/-
  CONTRACTS of slices.EqualFunc at lists of bytes, of fermatalaw03.equal, of slices.Clone at bytes, and of frame.Join; nothing that was there is written.
-/
import Derived.Test.YteaeedhhdnkldaaStream
import Derived.Test.YteaeedhhdnkldaaEqual8
namespace Go.Proofs.Yteaeedhhdnkldaa
open Go.RowKit Go.Shelf Pl

theorem sameL_iff {a b : List (List Nat)} (h : a.length = b.length) : a = b ↔ ∀ i, i < a.length → mt a i = mt b i := by
  constructor
  · rintro rfl i _; rfl
  · intro hi
    refine List.ext_getElem h fun i h1 h2 => ?_
    have := hi i h1
    simpa [mt, h1, h2] using this
theorem sameL_no {a b : List (List Nat)} (i : Nat) (hd : mt a i ≠ mt b i) : decide (a = b) = false := by
  rw [decide_eq_false_iff_not]; rintro rfl; exact hd rfl
theorem TRow.shape {w : World} {v : Value} {T : List (List Nat)} (h : TRow w v T) : ∃ a c, v = .slice a T.length c := by
  rcases h with ⟨a, c, e, e2, _⟩ | ⟨b, off, cap, A, C, e, _⟩
  · exact ⟨a, c, by rw [e2]; exact e⟩
  · exact ⟨_, _, e⟩
theorem TRow.cell {w : World} {v : Value} {T : List (List Nat)} (h : TRow w v T) (hT : T.length ≠ 0) : ∃ (b off cap : Nat), v = .slice (some ⟨b, off, none⟩) T.length cap ∧ T.length ≤ cap ∧ cap ≤ maxLen ∧ ∀ i, i < T.length → ∃ a c, w.cell? ⟨b, off + i, none⟩ = some (.slice a (mt T i).length c) ∧ BRow w (.slice a (mt T i).length c) (mt T i) := by
  rcases h with ⟨a, c, e, e2, _⟩ | ⟨b, off, cap, A, C, e, h1, h2, h3⟩
  · rw [e2] at hT; exact absurd rfl hT
  · exact ⟨b, off, cap, e, h1, h2, fun i hi => ⟨_, _, h3 i hi⟩⟩

set_option maxRecDepth 100000 in
set_option maxHeartbeats 1000000 in
theorem equalC_calls (v u : Value) (l m : List Nat) (w : World) (h : BRow w v l) (h2 : BRow w u m) :
    Calls Try.prog 106 #[v, u] w fun e w' => e = .returned (.bool (decide (l = m))) ∧ w = w' := by
  have HE := Lib.hid (bytesEqual_calls v u l m w h h2)
  clear h h2
  go_enter Try.func106, Try.ntmps106
  go_wp2_with (go_at_call 42; refine HE.out.mono ?_; rintro e w' ⟨rfl, rfl⟩)
  go_ret
  exact ⟨rfl, rfl⟩

set_option maxRecDepth 100000 in
set_option maxHeartbeats 1000000 in
theorem equalFunc_calls (v u : Value) (L M : List (List Nat)) (w : World) (h : TRow w v L) (h2 : TRow w u M) :
    Calls Try.prog 105 #[v, u, .func (.func 106) #[] #[]] w fun e w' => e = .returned (.bool (decide (L = M))) ∧ w = w' := by
  obtain ⟨va, vc, rfl⟩ := h.shape
  obtain ⟨ua, uc, rfl⟩ := h2.shape
  by_cases hlen : L.length = M.length
  · by_cases h0 : L.length = 0
    · have hL : L = [] := List.eq_nil_of_length_eq_zero h0
      have hM : M = [] := List.eq_nil_of_length_eq_zero (by omega)
      subst hL hM
      clear h h2 hlen h0
      go_enter Try.func105, Try.ntmps105
      go_wp2
      go_loopw [17] (fun i wr => i = .int .i64 0 ∧ wr = w) (fun i _ => 0)
      case atStart => exact ⟨rfl, rfl⟩
      case round =>
        obtain ⟨rfl, rfl⟩ := hrel
        go_wp2
        go_ret
        exact ⟨rfl, rfl⟩
    · obtain ⟨b, off, cap, e, hc, hm, hcell⟩ := h.cell h0
      obtain ⟨b2, off2, cap2, e2, hc2, hm2, hcell2⟩ := h2.cell (by omega)
      simp only [Value.slice.injEq, true_and] at e e2
      obtain ⟨rfl, rfl⟩ := e
      obtain ⟨rfl, rfl⟩ := e2
      have HC := Lib.hid hcell; have HC2 := Lib.hid hcell2
      have hS := Lib.hid (sameL_iff hlen)
      have hNo := Lib.hid (fun i => sameL_no (a := L) (b := M) i)
      unfold maxLen at hm
      have hml : M.length = L.length := hlen.symm
      have HLn := Lib.hid hlen
      have e1 : ((L.length : Int) != (M.length : Int)) = false := by rw [bne_eq_false_iff_eq]; omega
      have hl1 : (L.length : Int) ≤ (M.length : Int) := by omega
      have hls : (L.length : Int) ≤ 9223372036854775807 := by omega
      clear h h2 hcell hcell2 hm2 hc hc2 hlen hml h0
      have eg := enters_of Try.func106 (by kernel_rfl) rfl
      go_enter Try.func105, Try.ntmps105
      go_wp2
      go_loopw [17] (fun i wr => ∃ k : Nat, k ≤ L.length ∧ i = .int .i64 k ∧ (∀ j, j < k → mt L j = mt M j) ∧ w = wr) (fun i _ => L.length - (intOf i).toNat)
      case atStart => exact ⟨0, Nat.zero_le _, rfl, fun j hj => absurd hj (Nat.not_lt_zero _), rfl⟩
      case round =>
        obtain ⟨k, hk, rfl, hsm, rfl⟩ := hrel
        have HSm := Lib.hid hsm
        clear hsm
        by_cases hlt : k < L.length
        · obtain ⟨a1, c1, d1, r1⟩ := HC.out k hlt
          obtain ⟨a2, c2, d2, r2⟩ := HC2.out k (by have := HLn.out; omega)
          have hcall := Lib.hid (equalC_calls _ _ _ _ w r1 r2)
          have hkM : k < M.length := by have := HLn.out; omega
          have hnk := Lib.hid (hNo.out k)
          clear r1 r2
          obtain ⟨q, hq⟩ : ∃ q, decide (mt L k = mt M k) = q := ⟨_, rfl⟩
          rw [hq] at hcall
          have HQ := Lib.hid hq
          clear hq
          cases q with
          | true =>
            go_wp2_with (go_at_call 106; refine hcall.out.mono ?_; rintro e w2 ⟨rfl, rfl⟩)
            go_roundw
            case rel =>
              refine ⟨k + 1, by omega, by go_num, fun j hj => ?_, by first | rfl | trivial⟩
              by_cases hjk : j = k
              · subst hjk; exact of_decide_eq_true HQ.out
              · exact HSm.out j (by omega)
            case measure => simp [intOf]; omega
          | false =>
            go_wp2_with (go_at_call 106; refine hcall.out.mono ?_; rintro e w2 ⟨rfl, rfl⟩)
            go_ret
            exact ⟨ret_bool (hnk.out (of_decide_eq_false HQ.out)).symm, rfl⟩
        · obtain rfl : k = L.length := by omega
          go_wp2
          go_ret
          exact ⟨ret_bool (decide_eq_true (hS.out.2 HSm.out)).symm, rfl⟩
  · have e1 : ((L.length : Int) != (M.length : Int)) = true := by rw [bne_iff_ne]; omega
    have hd : decide (L = M) = false := by rw [decide_eq_false_iff_not]; rintro rfl; exact hlen rfl
    have HD := Lib.hid hd
    clear h h2 hd hlen
    go_enter Try.func105, Try.ntmps105
    go_wp2
    go_ret
    exact ⟨ret_bool HD.out.symm, rfl⟩
set_option maxRecDepth 100000 in
set_option maxHeartbeats 1000000 in
theorem equalM_calls (v u : Value) (L M : List (List Nat)) (w : World) (h : TRow w v L) (h2 : TRow w u M) :
    Calls Try.prog 34 #[v, u] w fun e w' => e = .returned (.bool (decide (L = M))) ∧ w = w' := by
  have HE := Lib.hid (equalFunc_calls v u L M w h h2)
  clear h h2
  go_enter Try.func34, Try.ntmps34
  go_wp2_with (go_at_call 105; refine HE.out.mono ?_; rintro e w' ⟨rfl, rfl⟩)
  go_ret
  exact ⟨rfl, rfl⟩

set_option maxRecDepth 100000 in
set_option maxHeartbeats 1000000 in
theorem sclone_calls (v : Value) (l : List Nat) (w : World) (h : BRow w v l) (hl : l.length ≤ 140737488355000) :
    Calls Try.prog 26 #[v] w fun e w' => ∃ v', e = .returned v' ∧ Own8 w' w.heap.size v' l ∧ Below w.heap.size w w' := by
  have q : ∀ (W : World) (a : Option Addr) (n c n' c' : Nat), (binOp .eql 22 (.slice a n c) (.slice none n' c')).run Try.prog W = .ok (.bool a.isNone) W := fun W a n c n' c' => Lib.run_eql_slice_nil W _ _ a n c n' c' Try.underlying22
  have HR := Lib.hid h
  obtain ⟨a, c, rfl⟩ := h.shape
  cases a with
  | none =>
    obtain ⟨_, ⟨_, _, e, rfl, _⟩ | ⟨b, off, cap, e, _⟩⟩ := h
    · go_enter Try.func26, Try.ntmps26
      go_wp2
      go_ret
      exact ⟨_, rfl, own8_nil _ _, Below.refl _ _⟩
    · simp at e
  | some a =>
    clear h
    have HL := Lib.hid (own8_lit w [] #[] w.heap.size 0 0 rfl rfl rfl rfl (by simp) w.heap.size (Nat.le_refl _))
    have HA := Lib.hid ((Below.refl w.heap.size w).alloc (Nat.le_refl _) (.cells #[] 5))
    go_enter Try.func26, Try.ntmps26
    go_wp2_with (at_builtin; refine wpList_append8 rfl (.tmp 5) (.tmp 6) rfl w.heap.size _ _ rfl HL.out _ l rfl (HR.out.below HA.out) (by simp; omega) HA.out.size ?_; intro v5 w5 hown5 hg5; have HO5 := Lib.hid hown5; have HB5 := Lib.hid (HA.out.grown hg5 HA.out.size (fun j hj => (HL.out.lt j hj).1)); clear hown5 hg5)
    go_ret
    exact ⟨_, rfl, HO5.out, HB5.out⟩

/-- Lists of the call's own, read. -/
theorem trow_of {w : World} {base : Nat} {v : Value} {V : List Value} {L : List (List Nat)} (hr : w.ownsRow base 22 1 v L.length V) (hV : MVal w base V L) (hb : ∀ l ∈ L, AllB l) : TRow w v L := by
  obtain ⟨h1, h2, h3⟩ := hV
  obtain ⟨hlen, ⟨rfl, hn⟩ | ⟨g, cap, cur, rfl, q1, q2, q3, q4, q5, q6⟩⟩ := hr
  · have : L = [] := List.eq_nil_of_length_eq_zero hn
    subst this
    exact .inl ⟨none, 0, rfl, rfl, Nat.zero_le _⟩
  · have hsh : ∀ i, ∃ ac : Option Addr × Nat, i < L.length → V.getD i undef = .slice ac.1 (L.getD i []).length ac.2 := fun i => by
      by_cases hi : i < L.length
      · obtain ⟨a, c, e⟩ := owns_shape (h2 i hi)
        exact ⟨(a, c), fun _ => e⟩
      · exact ⟨(none, 0), fun h => absurd h hi⟩
    obtain ⟨F, hF⟩ := Classical.axiomOfChoice hsh
    refine .inr ⟨g, 0, cap, fun i => (F i).1, fun i => (F i).2, rfl, q3, q4, fun i hi => ?_⟩
    have e := hF i hi
    have hc : w.cell? ⟨g, 0 + i, none⟩ = some (V.getD i undef) := by
      rw [Nat.zero_add, cell_of_row w g i cur _ (0, 0) q2]
      have e : (cur.toList.take (L.length * 1))[i]? = V[i]? := by rw [q6]
      rw [List.getElem?_take, if_pos (by omega)] at e
      simp only [Array.getElem?_toList] at e
      rw [e]
      simp [List.getD_eq_getElem?_getD, show i < V.length by omega]
    refine ⟨by rw [hc, e], ?_⟩
    have := BRow.of_own (h2 i hi) (by
      refine hb _ ?_
      simp only [mt, List.getD_eq_getElem?_getD, hi, List.getElem?_eq_getElem, Option.getD_some]
      exact List.getElem_mem hi)
    rw [e] at this
    exact this
theorem MOwn.trow {w : World} {base : Nat} {v : Value} {L : List (List Nat)} (h : MOwn w base v L) (hb : ∀ l ∈ L, AllB l) : TRow w v L := by
  obtain ⟨V, h1, h2⟩ := h
  exact trow_of h1 h2 hb
theorem fbody_allB {l : List Nat} (h : AllB l) : AllB (fbody l) := by
  unfold fbody
  split
  · exact AllB.nil
  · split
    · exact AllB.nil
    · exact (h.drop _).take _
theorem frA_allB (n : Nat) : ∀ (a : Nat) (l : List Nat), l.length ≤ n → AllB l → ∀ p ∈ frA a l, AllB p.2 := by
  induction n with
  | zero => intro a l h _ p hp; have : l = [] := List.eq_nil_of_length_eq_zero (by omega); subst this; rw [frA_end a (by rw [ferr_nil]; decide)] at hp; simp at hp
  | succ n ih =>
    intro a l h hb p hp
    by_cases he : ferr l = 0
    · have h3 := fsize_pos he
      rw [frA_step a he] at hp
      rcases List.mem_cons.1 hp with rfl | hp
      · exact fbody_allB hb
      · exact ih (a + fsize l) (l.drop (fsize l)) (by rw [List.length_drop]; omega) (hb.drop _) p hp
    · rw [frA_end a he] at hp; simp at hp
theorem splB_allB {bs : List Nat} (h : AllB bs) : ∀ l ∈ splB bs, AllB l := by
  intro l hl
  unfold splB at hl
  simp only [List.mem_map] at hl
  obtain ⟨p, hp, rfl⟩ := hl
  exact frA_allB _ 0 bs (Nat.le_refl _) h p hp

/-- The frames of bodies; and where the first body is that is too long. -/
def joinF (L : List (List Nat)) : List Nat := L.flatMap fr1
def tooL : Nat → List (List Nat) → Option Nat
  | _, [] => none
  | k, m :: L => if 16384 < m.length then some k else tooL (k + 1) L
theorem tooL_step (L : List (List Nat)) (k : Nat) (hk : k < L.length) : tooL k (L.drop k) = if 16384 < (mt L k).length then some k else tooL (k + 1) (L.drop (k + 1)) := by
  rw [List.drop_eq_getElem_cons hk]
  simp [tooL, mt, List.getD_eq_getElem?_getD, hk]
theorem joinF_take (L : List (List Nat)) (k : Nat) (hk : k < L.length) : joinF (L.take (k + 1)) = joinF (L.take k) ++ form (mt L k).length ++ mt L k := by
  have e1 : mt L k = L[k] := by simp [mt, List.getD_eq_getElem?_getD, hk]
  have e3 : L.take (k + 1) = L.take k ++ [L[k]] := by simp
  rw [e3, e1]
  simp only [joinF, List.flatMap_append, List.flatMap_cons, List.flatMap_nil, fr1, List.append_nil, List.append_assoc]
def joinV (L : List (List Nat)) : List Nat × Int × Nat := match tooL 0 L with | none => (joinF L, -1, 0) | some k => ([], (k : Int), 3)
set_option maxRecDepth 100000 in
set_option maxHeartbeats 1000000 in
theorem join_calls (v : Value) (L : List (List Nat)) (w : World) (h : TRow w v L) (hL : L.length ≤ 1000) (hsz : ∀ k, (joinF (L.take k)).length ≤ 100000000) :
    Calls Try.prog 31 #[v] w fun e w' => ∃ v', e = .returned (.tuple #[v', .int .i64 (joinV L).2.1, .int .i64 (joinV L).2.2]) ∧ Own8 w' w.heap.size v' (joinV L).1 ∧ Below w.heap.size w w' := by
  obtain ⟨va, vc, rfl⟩ := h.shape
  by_cases h0 : L.length = 0
  · have hL : L = [] := List.eq_nil_of_length_eq_zero h0
    subst hL
    clear h h0
    go_enter Try.func31, Try.ntmps31
    go_wp2
    go_loopw [5, 10] (fun x i wr => x = .slice none 0 0 ∧ i = .int .i64 0 ∧ wr = w) (fun _ i _ => 0)
    case atStart => exact ⟨rfl, rfl, rfl⟩
    case round =>
      obtain ⟨rfl, rfl, rfl⟩ := hrel
      go_wp2
      go_ret3
      exact ⟨_, rfl, own8_nil _ _, Below.refl _ _⟩
  · obtain ⟨b, off, cap, e, hc, hm, hcell⟩ := h.cell h0
    simp only [Value.slice.injEq, true_and] at e
    obtain ⟨rfl, rfl⟩ := e
    have HC := Lib.hid hcell
    have HT := Lib.hid (tooL_step L)
    have HJ := Lib.hid (joinF_take L)
    have HZ := Lib.hid hsz
    have HV := Lib.hid (show joinV L = match tooL 0 L with | none => (joinF L, -1, 0) | some k => ([], (k : Int), 3) from rfl)
    have hls : (L.length : Int) ≤ 1000 := by omega
    clear h hcell hm hc h0 hsz
    go_enter Try.func31, Try.ntmps31
    go_wp2
    go_loopw [5, 10] (fun x i wr => ∃ k : Nat, k ≤ L.length ∧ i = .int .i64 k ∧ tooL k (L.drop k) = tooL 0 L ∧ Own8 wr w.heap.size x (joinF (L.take k)) ∧ Below w.heap.size w wr) (fun _ i _ => L.length - (intOf i).toNat)
    case atStart => exact ⟨0, Nat.zero_le _, rfl, rfl, own8_nil _ _, Below.refl _ _⟩
    case round =>
      obtain ⟨k, hk, rfl, htl, hown, hbel⟩ := hrel
      have HTl := Lib.hid htl; have HO := Lib.hid hown; have HB := Lib.hid hbel
      clear htl hown
      by_cases hlt : k < L.length
      · obtain ⟨a1, c1, d1, r1⟩ := HC.out k hlt
        have d1' := (hbel.cell (p := ⟨b, off + k, none⟩) (block_lt_of_cell d1)).trans d1
        have hst := HT.out k hlt
        have hj := HJ.out k hlt
        have hz := HZ.out (k + 1)
        have HR := Lib.hid (fun W (hb : Below w.heap.size w W) => r1.below hb)
        obtain ⟨bd, hbd⟩ : ∃ bd, mt L k = bd := ⟨_, rfl⟩
        rw [hbd] at d1' hst hj HR
        clear d1 r1 hbd hbel
        by_cases hg : 16384 < bd.length
        · rw [if_pos hg] at hst
          have hgi : decide ((16384 : Int) < (bd.length : Int)) = true := decide_eq_true (by omega)
          have HS := Lib.hid hst
          clear hst hg hj hz
          have hv : joinV L = ([], (k : Int), 3) := by rw [HV.out, ← HTl.out, HS.out]
          have HV2 := Lib.hid hv
          clear hv
          go_wp2
          go_ret3
          exact ⟨_, by rw [HV2.out]; rfl, by rw [HV2.out]; exact own8_nil _ _, HB.out⟩
        · rw [if_neg hg] at hst
          have hgi : decide ((16384 : Int) < (bd.length : Int)) = false := decide_eq_false (by omega)
          have HS := Lib.hid hst
          have hlen : (joinF (L.take k)).length + bd.length ≤ 137488300000 := by
            rw [hj, List.length_append, List.length_append] at hz
            omega
          have HA := Lib.hid (addB_calls u5 (.slice a1 bd.length c1) (joinF (L.take k)) bd wr w.heap.size HB.out.size HO.out (fun W hW => HR.out W (HB.out.trans hW)) (by omega))
          have HJ1 := Lib.hid hj
          clear hst hg hj hz hlen
          go_wp2_with fail
          refine HA.out.mono ?_
          rintro e w1 ⟨v1, rfl, ho1, hb1⟩
          have HO1 := Lib.hid ho1; have HB1 := Lib.hid (HB.out.trans hb1)
          clear ho1 hb1
          go_wp2_with fail
          go_roundw
          case rel => exact ⟨k + 1, by omega, by go_num, by rw [← HTl.out, HS.out], by rw [HJ1.out]; exact HO1.out, HB1.out⟩
          case measure => simp [intOf]; omega
      · obtain rfl : k = L.length := by omega
        have hv : joinV L = (joinF L, -1, 0) := by
          have := HTl.out
          rw [List.drop_length] at this
          rw [HV.out, ← this]
          rfl
        have HV2 := Lib.hid hv
        have HO2 := Lib.hid (show Own8 wr w.heap.size u5 (joinF L) by have := HO.out; rwa [List.take_length] at this)
        clear hv hbel
        go_wp2
        go_ret3
        exact ⟨_, by rw [HV2.out]; rfl, by rw [HV2.out]; exact HO2.out, HB.out⟩
end Go.Proofs.Yteaeedhhdnkldaa
