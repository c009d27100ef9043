/-
  CONTRACTS of fermatalaw02.Theirs, same and alike: fields for the reference, and whether fields are the same; nothing that was there is written.
-/
import Derived.Test.YtlohggdabpfkhaaMade02
import Derived.Test.YtlohggdabpfkhaaEqual8
import Derived.Test.YtlohggdabpfkhaaFieldPlace
import Derived.BigQuiet
namespace Go.Proofs.Ytlohggdabpfkhaa
open Go.RowKit Pl

theorem fcells_get (L : List Fld) : ∀ (V : List Value), V.length = L.length → ∀ i, i < L.length → (fcells L V)[i * 2]? = some (.int .i64 (ft L i)) ∧ (fcells L V)[i * 2 + 1]? = some (V.getD i undef) := by
  induction L with
  | nil => intro V _ i hi; simp at hi
  | cons p L ih =>
    intro V hV i hi
    cases V with
    | nil => simp at hV
    | cons u V =>
      cases i with
      | zero => simp [fcells, ft]
      | succ i =>
        have := ih V (by simpa using hV) i (by simpa using hi)
        rw [show (i + 1) * 2 = i * 2 + 1 + 1 by omega]
        simpa [fcells, ft] using this
/-- What a slice of the call's own that holds fields reads as. -/
theorem frow_of {w : World} {base : Nat} {e : TypeId} {v : Value} {L : List Fld} {V : List Value} (hV1 : V.length = L.length) (hV2 : w.ownsRow base e 2 v L.length (fcells L V)) (hV3 : ∀ i < L.length, Own8 w base (V.getD i undef) (fb L i)) (ht : ∀ p ∈ L, Tag64 p.1) (hb : ∀ i < L.length, AllB (fb L i)) : FRow w v L := by
  refine ⟨ht, ?_⟩
  rcases hV2.2 with ⟨rfl, h0⟩ | ⟨g, cap, cur, rfl, h1, h2, h3, h4, h5, h6⟩
  · exact .inl ⟨none, 0, rfl, List.eq_nil_of_length_eq_zero h0, Nat.zero_le _⟩
  · refine .inr ⟨g, 0, cap, fun i => match V.getD i undef with | .slice a _ _ => a | _ => none, fun i => match V.getD i undef with | .slice _ _ c => c | _ => 0, rfl, h3, h4, fun i hi => ?_⟩
    have hc := hV2.cells (g := g) rfl
    obtain ⟨e1, e2⟩ := fcells_get L V hV1 i hi
    have hadd : ∀ j, (⟨g, 0, none⟩ : Addr).add j = ⟨g, 0 + j, none⟩ := fun j => by unfold Addr.add; split <;> simp_all
    obtain ⟨a, c, hs⟩ := owns_shape (hV3 i hi)
    have r := BRow.of_own (hV3 i hi) (hb i hi)
    have d1 := hc _ _ e1
    have d2 := hc _ _ e2
    rw [hadd] at d1 d2
    rw [hs] at d2 r
    dsimp only
    rw [hs]
    refine ⟨d1, ?_, r⟩
    rw [Nat.add_assoc]
    exact d2
theorem FOwn.row {w : World} {base : Nat} {v : Value} {L : List Fld} (h : FOwn w base v L) (ht : ∀ p ∈ L, Tag64 p.1) (hb : ∀ i < L.length, AllB (fb L i)) : FRow w v L := by
  obtain ⟨V, hV1, hV2, hV3⟩ := h
  exact frow_of hV1 hV2 hV3 ht hb

theorem info_fieldR : (Try.prog.info? 80).map (fun i => (i.zero, i.size, i.bytes)) = some (some (.agg #[.int .i64 0, .slice none 0 0]), 2, 32) := by kernel_rfl
/-- A slice of the reference's fields of the call's own, each with bytes of the call's own. -/
def FOwnR (w : World) (base : Nat) (v : Value) (L : List Fld) : Prop :=
  ∃ V : List Value, V.length = L.length ∧ w.ownsRow base 80 2 v L.length (fcells L V) ∧ ∀ i < L.length, Own8 w base (V.getD i undef) (fb L i)
theorem fownR_nil (w : World) (base : Nat) : FOwnR w base (.slice none 0 0) [] := ⟨[], rfl, World.ownsRow_nil _ _ _ _, fun _ hi => absurd hi (Nat.not_lt_zero _)⟩
theorem FOwnR.keep {w w' : World} {base : Nat} {v : Value} {L : List Fld} (h : FOwnR w base v L) (hb : Below w.heap.size w w') : FOwnR w' base v L := by
  obtain ⟨V, h1, h2, h3⟩ := h
  exact ⟨V, h1, ownsRow_below h2 hb, fun i hi => ownsRow_below (h3 i hi) hb⟩
theorem own8_pastR {w4 W5 : World} {base n : Nat} {v u : Value} {l : List Nat} {xs : List Value} {tmp : Obj} (h : Own8 w4 base u l) (hrow : w4.ownsRow base 80 2 v n xs) (hgrow : (w4.alloc tmp).grownBy W5 v.ownBlock) : Own8 W5 base u l := by
  have h1 : Own8 (w4.alloc tmp) base u l := h.alloc _
  refine h1.kept hgrow ?_
  rcases h.2 with ⟨e, _⟩ | ⟨g, cap, cur, e, _, hgb, _⟩
  · rw [e]; exact .inl rfl
  · refine .inr fun e2 => ?_
    rcases hrow.2 with ⟨e3, _⟩ | ⟨g2, cap2, cur2, e3, _, hgb2, _⟩
    · rw [e, e3] at e2; simp [Value.ownBlock] at e2
    · rw [e, e3] at e2
      simp only [Value.ownBlock, Option.some.injEq] at e2
      subst e2
      rw [hgb] at hgb2
      simp at hgb2
theorem fownR_append {w4 W5 : World} {base : Nat} {v v' u : Value} {L : List Fld} {V : List Value} {p : Fld} {tmp : Obj} (hV1 : V.length = L.length) (hV2 : w4.ownsRow base 80 2 v L.length (fcells L V)) (hV3 : ∀ i < L.length, Own8 w4 base (V.getD i undef) (fb L i))
    (hu : Own8 w4 base u p.2) (hgrow : (w4.alloc tmp).grownBy W5 v.ownBlock) (hown' : W5.ownsRow base 80 2 v' (L.length + 1) (fcells L V ++ [.int .i64 p.1, u])) : FOwnR W5 base v' (L ++ [p]) := by
  refine ⟨V ++ [u], by simp [hV1], ?_, fun i hi => ?_⟩
  · rw [fcells_snoc _ _ _ _ hV1]
    simpa using hown'
  · simp only [List.length_append, List.length_cons, List.length_nil] at hi
    by_cases h : i < L.length
    · rw [getD_snoc _ _ _ (by omega), fb_snoc _ _ _ h]
      exact own8_pastR (hV3 i h) hV2 hgrow
    · obtain rfl : i = L.length := by omega
      rw [fb_last]
      have : (V ++ [u]).getD L.length undef = u := by rw [← hV1]; exact getD_last _ _
      rw [this]
      exact own8_pastR hu hV2 hgrow
theorem step_appendR {ops : Array Oper} {o : Oper} {a : Act} {w : World} {K : Act → World → Prop} {Q : Exit → Act → World → Prop} {E : Prop} (hg : o.guard = none) (s x : Operand)
    (ho : o.op = .call { callee := .builtin .append, args := #[s, x], argTypes := #[35, 35] })
    (base : Nat) (v : Value) (k : Nat) (xs : List Value) (hs : a.eval s = v) (hown : w.ownsRow base 80 2 v k xs) (ad : Addr) (m c : Nat) (news : List Value) (hx : a.eval x = .slice (some ad) m c) (hl : news.length = m * 2) (hnews : ∀ j u, news[j]? = some u → w.cell? (ad.add j) = some u) (h1 : ∀ u ∈ news, u.oneCell' = true)
    (hk : k + m ≤ 4000000000000) (hbase : base ≤ w.heap.size)
    (h : ∀ v' w', w'.ownsRow base 80 2 v' (k + m) (xs ++ news) → w.grownBy w' v.ownBlock → K (a.put o.dst v') w') :
    if Region.wanted o (yielded ops a.tmps) = true then Oper.wp Try.prog o a w K Q else E := by
  rw [if_pos (by simp [Region.wanted, hg])]
  obtain ⟨i0, hi, hz0, hz1, hz2⟩ := info_parts info_fieldR
  obtain ⟨v', w', hr, h2, h3, -⟩ := run_append_own_at (P := Try.prog) w base 35 o.type 80 i0 (.agg #[.int .i64 0, .slice none 0 0]) 2 32 Try.underlying35 hi hz0 hz1 hz2 rfl (by decide) v k xs hown ad m c news hl hnews h1 (by unfold maxLen; omega) (by omega) hbase
  unfold Oper.wp execOp
  simp only [ho, resolve, invoke, builtin, Sem.run_bind, Sem.run_pure, Result.andThen_ok, List.map_toArray, List.map_cons, List.map_nil, hs, hx, hr]
  exact h v' w' h2 h3

theorem fld_take (L : List Fld) (k : Nat) (hk : k < L.length) : L.take (k + 1) = L.take k ++ [(ft L k, fb L k)] := by
  have e : (ft L k, fb L k) = L[k] := by simp [ft, fb, List.getD_eq_getElem?_getD, hk]
  rw [e]; simp

/-- What the walk needs behind the copy of a field's bytes. -/
theorem theirs_mid {w wr W w3 : World} {F : Nat} {t : Int} {x v3 : Value} {v : Value} {bs : List Nat} {L : List Fld} (hB : Below w.heap.size w wr) (hF : F = wr.heap.size) (hW : Below wr.heap.size wr W) (hFW : W.heap[F]? = some (.cells #[.int .i64 t, x] 25 (0, 0))) (hO : FOwnR wr w.heap.size v L)
    (ho3 : Own8 w3 W.heap.size v3 bs) (hb3 : Below W.heap.size W w3) :
    ∃ a3 c3, v3 = .slice a3 bs.length c3 ∧ w3.cell? ⟨F, 0, none⟩ = some (.int .i64 t) ∧ w3.cell? ⟨F, 1, none⟩ = some x ∧ FOwnR w3 w.heap.size v L ∧ Own8 w3 w.heap.size (.slice a3 bs.length c3) bs ∧ Below w.heap.size w w3 := by
  obtain ⟨a3, c3, rfl⟩ := owns_shape ho3
  have hlt : F < W.heap.size := (Array.getElem?_eq_some_iff.1 hFW).1
  have hN := (hb3.block F hlt).trans hFW
  have hbW : Below wr.heap.size wr w3 := hW.trans (hb3.mono hW.size)
  exact ⟨a3, c3, rfl, by simp [World.cell?, hN], by simp [World.cell?, hN], hO.keep hbW, own_base ho3 (by have := hB.size; omega), hB.trans (hbW.mono hB.size)⟩

set_option maxRecDepth 100000 in
set_option maxHeartbeats 2000000 in
theorem theirs_calls (v : Value) (L : List Fld) (w : World) (h : FRow w v L) (hLn : L.length ≤ 1000000000) (hbs : ∀ i < L.length, (fb L i).length ≤ 140737488355000) :
    Calls Try.prog 19 #[v] w fun e w' => ∃ v', e = .returned v' ∧ FRow w' v' L ∧ Below w.heap.size w w' := by
  obtain ⟨ht, ⟨a, c, rfl, rfl, -⟩ | ⟨b, off, cap, A, C, rfl, hc, hm, hcell⟩⟩ := h
  · go_enter Try.func19, Try.ntmps19
    go_wp2
    go_loopw [3, 8] (fun x i wr => x = .slice none 0 0 ∧ i = .int .i64 0 ∧ wr = w) (fun _ _ _ => 0)
    case atStart => exact ⟨rfl, rfl, rfl⟩
    case round =>
      obtain ⟨rfl, rfl, rfl⟩ := hrel
      go_wp2
      go_ret
      exact ⟨_, rfl, ⟨by simp, .inl ⟨_, _, rfl, rfl, Nat.zero_le _⟩⟩, Below.refl _ _⟩
  · have HC := Lib.hid hcell
    have HT := Lib.hid ht
    have HBs := Lib.hid hbs
    have hcs : (L.length : Int) ≤ 9223372036854775807 := by omega
    clear hcell hm ht hbs
    go_enter Try.func19, Try.ntmps19
    go_wp2
    go_loopw [3, 8] (fun x i wr => ∃ k : Nat, k ≤ L.length ∧ i = .int .i64 k ∧ FOwnR wr w.heap.size x (L.take k) ∧ Below w.heap.size w wr) (fun _ i _ => L.length - (intOf i).toNat)
    case atStart => exact ⟨0, Nat.zero_le _, rfl, fownR_nil _ _, Below.refl _ _⟩
    case round =>
      obtain ⟨k, hk, rfl, hown, hbel⟩ := hrel
      have HO := Lib.hid hown
      have HB := Lib.hid hbel
      by_cases hlt : k < L.length
      · obtain ⟨c1, c2, c3⟩ := HC.out k hlt
        have hbl := HBs.out k hlt
        have HTk := Lib.hid (fld_take L k hlt)
        have hlk : (L.take k).length = k := by simp; omega
        generalize A k = A1 at c2 c3
        generalize C k = C1 at c2 c3
        have c1' := (hbel.cell (p := ⟨b, off + k * 2, none⟩) (block_lt_of_cell c1)).trans c1
        have c2' := (hbel.cell (p := ⟨b, off + k * 2 + 1, none⟩) (block_lt_of_cell c2)).trans c2
        generalize ft L k = t at *
        generalize fb L k = bs at *
        have HC3 := Lib.hid c3
        clear c1 c2 c3 hbel hown
        go_wp2_with fail
        have hWd : Below wr.heap.size wr (wr.alloc (.cells #[.int .i64 t, .slice A1 bs.length C1] 25)).drew := ((Below.refl _ wr).alloc (Nat.le_refl _) _).drew
        have HWd := Lib.hid hWd
        have HFw := Lib.hid (show (wr.alloc (.cells #[.int .i64 t, .slice A1 bs.length C1] 25)).drew.heap[wr.heap.size]? = _ from World.alloc_heap_new wr (.cells #[.int .i64 t, .slice A1 bs.length C1] 25))
        have HCB := Lib.hid (copyBytes_calls _ bs _ (HC3.out.below (HB.out.trans (hWd.mono HB.out.size))) hbl)
        clear hWd
        go_region_law (first
          | (go_simp; go_at_call 72; refine HCB.out.mono ?_; rintro e w3 ⟨v3, rfl, ho3, hb3⟩; obtain ⟨a3, d3, rfl, e0, e1, hfo, hos, hbw⟩ := theirs_mid HB.out rfl HWd.out HFw.out HO.out ho3 hb3; obtain ⟨V, hV1, hV2, hV3⟩ := hfo; have HV1 := Lib.hid hV1; have HV2 := Lib.hid hV2; have HV3 := Lib.hid hV3; have HOS := Lib.hid hos; have HBW := Lib.hid hbw; clear ho3 hb3 hV1 hV2 hV3 hos hbw)
          | (refine step_appendR rfl (.tmp 12) (.tmp 19) (by rfl) w.heap.size _ (L.take k).length (fcells (L.take k) V) (by first | rfl | simp [Act.eval, Act.put]) (HV2.out.alloc (.cells #[.int .i64 t, .slice a3 bs.length d3] 80)) ⟨w3.heap.size, 0, none⟩ 1 1 [.int .i64 t, .slice a3 bs.length d3] (by first | rfl | simp [Act.eval, Act.put]) rfl (cell_two_new _ _ _ _) (by intro z hz; simp at hz; rcases hz with rfl | rfl <;> rfl) (by omega) (by have := HBW.out.size; simp; omega) ?_; intro v5 w5 hown5 hg5; have HF5 := Lib.hid (fownR_append (p := (t, bs)) HV1.out HV2.out HV3.out HOS.out hg5 hown5); have HB5 := Lib.hid ((HBW.out.alloc HBW.out.size _).grown hg5 (HBW.out.alloc HBW.out.size _).size (fun j hj => (HV2.out.lt j hj).1)); clear hown5 hg5)
          | fail)
        all_goals
          go_wp2
          go_roundw
          case rel =>
            have hfin : ∃ k' : Nat, k' ≤ L.length ∧ Value.int .i64 ((k : Int) + 1) = .int .i64 k' ∧ FOwnR w5 w.heap.size v5 (L.take k') ∧ Below w.heap.size w w5 := ⟨k + 1, by omega, by go_num, by rw [HTk.out]; exact HF5.out, HB5.out⟩
            first | exact hfin | ((repeat apply Exists.intro); exact ⟨hfin, rfl⟩)
          case measure => simp [intOf]; omega
      · obtain rfl : k = L.length := by omega
        clear hbel hown
        have HO2 := Lib.hid (by have := HO.out; rwa [List.take_length] at this)
        go_wp2
        go_ret
        refine ⟨_, rfl, ?_, HB.out⟩
        obtain ⟨V, hV1, hV2, hV3⟩ := HO2.out
        exact frow_of hV1 hV2 hV3 HT.out (fun i hi => (HC.out i hi).2.2.1)

theorem fld_same_iff {L M : List Fld} (h : L.length = M.length) : L = M ↔ ∀ i, i < L.length → ft L i = ft M i ∧ fb L i = fb M i := by
  constructor
  · rintro rfl i _; exact ⟨rfl, rfl⟩
  · intro hi
    refine List.ext_getElem h fun i h1 h2 => ?_
    obtain ⟨e1, e2⟩ := hi i h1
    have f1 : (ft L i, fb L i) = L[i] := by simp [ft, fb, List.getD_eq_getElem?_getD, h1]
    have f2 : (ft M i, fb M i) = M[i] := by simp [ft, fb, List.getD_eq_getElem?_getD, h2]
    rw [← f1, ← f2, e1, e2]

set_option maxRecDepth 100000 in
set_option maxHeartbeats 2000000 in
theorem sameF_calls (v u : Value) (L M : List Fld) (w : World) (h : FRow w v L) (h2 : FRow w u M) :
    Calls Try.prog 60 #[v, u] w fun e w' => e = .returned (.bool (decide (L = M))) ∧ Below w.heap.size w w' := by
  obtain ⟨va, vc, rfl⟩ : ∃ a c, v = .slice a L.length c := by
    rcases h.2 with ⟨a, c, e, e2, _⟩ | ⟨b, off, cap, A, C, e, _⟩
    · exact ⟨a, c, by rw [e2]; exact e⟩
    · exact ⟨_, _, e⟩
  obtain ⟨ua, uc, rfl⟩ : ∃ a c, u = .slice a M.length c := by
    rcases h2.2 with ⟨a, c, e, e2, _⟩ | ⟨b, off, cap, A, C, e, _⟩
    · exact ⟨a, c, by rw [e2]; exact e⟩
    · exact ⟨_, _, e⟩
  by_cases hlen : L.length = M.length
  · have dl : ((L.length : Int) != (M.length : Int)) = false := by rw [hlen]; simp
    have HI := Lib.hid (fld_same_iff hlen)
    have hL2 := Lib.hid hlen
    by_cases h0 : L.length = 0
    · have hL0 : L = [] := List.eq_nil_of_length_eq_zero h0
      have hM0 : M = [] := List.eq_nil_of_length_eq_zero (by omega)
      subst hL0 hM0
      clear h h2 h0 hlen HI hL2 dl
      go_enter Try.func60, Try.ntmps60
      go_wp2
      go_loopw [14] (fun i wr => i = .int .i64 0 ∧ Below w.heap.size w wr) (fun i _ => 0)
      case atStart => exact ⟨rfl, Below.refl _ _⟩
      case round =>
        obtain ⟨rfl, hbel⟩ := hrel
        go_wp2
        go_ret
        exact ⟨rfl, hbel⟩
    obtain ⟨-, ⟨_, _, e, hLn, _⟩ | ⟨b, off, cap, A, C, e, hc, hm, hcell⟩⟩ := h
    · rw [hLn] at h0; exact absurd rfl h0
    · obtain ⟨-, ⟨_, _, _, hLn2, _⟩ | ⟨b2, off2, cap2, A2, C2, e2, hc2, hm2, hcell2⟩⟩ := h2
      · rw [hlen, hLn2] at h0; exact absurd rfl h0
      · simp only [Value.slice.injEq, true_and] at e e2
        obtain ⟨rfl, rfl⟩ := e
        obtain ⟨rfl, rfl⟩ := e2
        have HC := Lib.hid hcell
        have HC2 := Lib.hid hcell2
        have hcs : (L.length : Int) ≤ 9223372036854775807 := by unfold maxLen at hm; omega
        clear hcell hcell2 hlen hm hm2
        go_enter Try.func60, Try.ntmps60
        go_wp2
        go_loopw [14] (fun i wr => ∃ k : Nat, k ≤ L.length ∧ i = .int .i64 k ∧ (∀ j, j < k → ft L j = ft M j ∧ fb L j = fb M j) ∧ Below w.heap.size w wr) (fun i _ => L.length - (intOf i).toNat)
        case atStart => exact ⟨0, Nat.zero_le _, rfl, fun j hj => absurd hj (Nat.not_lt_zero _), Below.refl _ _⟩
        case round =>
          obtain ⟨k, hk, rfl, hall, hbel⟩ := hrel
          have HAl := Lib.hid hall
          have HB := Lib.hid hbel
          by_cases hlt : k < L.length
          · have hlt2 : k < M.length := by have := hL2.out; omega
            obtain ⟨c1, c2, c3⟩ := HC.out k hlt
            obtain ⟨g1, g2, g3⟩ := HC2.out k hlt2
            generalize A k = A1 at c2 c3
            generalize C k = C1 at c2 c3
            generalize A2 k = A3 at g2 g3
            generalize C2 k = C3 at g2 g3
            have c1' := (hbel.cell (p := ⟨b, off + k * 2, none⟩) (block_lt_of_cell c1)).trans c1
            have c2' := (hbel.cell (p := ⟨b, off + k * 2 + 1, none⟩) (block_lt_of_cell c2)).trans c2
            have g1' := (hbel.cell (p := ⟨b2, off2 + k * 2, none⟩) (block_lt_of_cell g1)).trans g1
            have g2' := (hbel.cell (p := ⟨b2, off2 + k * 2 + 1, none⟩) (block_lt_of_cell g2)).trans g2
            have hb2 : b2 < wr.heap.size := block_lt_of_cell g1'
            obtain ⟨t, ht⟩ : ∃ t, ft L k = t := ⟨_, rfl⟩
            obtain ⟨t2, ht2⟩ : ∃ t, ft M k = t := ⟨_, rfl⟩
            obtain ⟨bs, hbs⟩ : ∃ t, fb L k = t := ⟨_, rfl⟩
            obtain ⟨bs2, hbs2⟩ : ∃ t, fb M k = t := ⟨_, rfl⟩
            rw [ht] at c1'
            rw [ht2] at g1'
            rw [hbs] at c2' c3
            rw [hbs2] at g2' g3
            have E1 := Lib.hid ht; have E2 := Lib.hid ht2; have E3 := Lib.hid hbs; have E4 := Lib.hid hbs2
            have HC3 := Lib.hid c3
            have HG3 := Lib.hid g3
            clear c1 c2 c3 g1 g2 g3 hbel hall ht ht2 hbs hbs2
            have hk1 : (k : Int) < (M.length : Int) := by omega
            by_cases htt : t = t2
            · subst htt
              have dt : (t != t) = false := by simp
              have HEq := Lib.hid (fun W (hb : Below w.heap.size w W) => (bytesEqual_calls _ _ bs bs2 W (HC3.out.below hb) (HG3.out.below hb)).mono fun e w' (h : _ ∧ W = w') => (⟨h.1, h.2.symm⟩ : _ ∧ w' = W))
              go_wp2_with fail
              have HW := Lib.hid ((HB.out.alloc HB.out.size (.cells #[.int .i64 t, .slice A1 bs.length C1] 25)))
              go_quiet ((go_at_call 43; exact (HEq.out _ (HW.out.trans ((below_drewN' ⟨_, rfl⟩).mono HW.out.size))).mono fun e w' h => ⟨h.1, _, h.2⟩))
              obtain ⟨z, hz⟩ : ∃ z, decide (bs = bs2) = z := ⟨_, rfl⟩
              have HZ := Lib.hid hz
              rw [hz]
              clear hz
              cases z with
              | true =>
                go_wp2
                go_roundw
                case rel =>
                  refine ⟨k + 1, by omega, by go_num, fun j hj => ?_, HW.out.trans ((below_drewN' ⟨_, rfl⟩).mono HW.out.size)⟩
                  by_cases hjk : j < k
                  · exact HAl.out j hjk
                  · obtain rfl : j = k := by omega
                    exact ⟨by rw [E1.out, E2.out], by rw [E3.out, E4.out]; exact of_decide_eq_true HZ.out⟩
                case measure => simp [intOf]; omega
              | false =>
                go_wp2
                go_ret
                refine ⟨ret_bool (decide_eq_false fun e => ?_).symm, HW.out.trans ((below_drewN' ⟨_, rfl⟩).mono HW.out.size)⟩
                exact of_decide_eq_false HZ.out (by rw [← E3.out, ← E4.out, e])
            · have dt : (t != t2) = true := by simpa using htt
              have HW := Lib.hid ((HB.out.alloc HB.out.size (.cells #[.int .i64 t, .slice A1 bs.length C1] 25)))
              have HTT := Lib.hid htt
              clear htt
              go_wp2_with fail
              go_quiet (fail)
              go_wp2
              go_ret
              refine ⟨ret_bool (decide_eq_false fun e => ?_).symm, HW.out.trans ((below_drewN' ⟨_, rfl⟩).mono HW.out.size)⟩
              exact HTT.out (by rw [← E1.out, ← E2.out, e])
          · obtain rfl : k = L.length := by omega
            clear hbel hall
            go_wp2
            go_ret
            exact ⟨ret_bool (decide_eq_true (HI.out.2 HAl.out)).symm, HB.out⟩
  · have dl : ((L.length : Int) != (M.length : Int)) = true := by rw [bne_iff_ne]; omega
    have hne : decide (L = M) = false := decide_eq_false (fun e => hlen (by rw [e]))
    have HNe := Lib.hid hne
    clear h h2 hne
    go_enter Try.func60, Try.ntmps60
    go_wp2
    go_ret
    exact ⟨ret_bool HNe.out.symm, Below.refl _ _⟩

end Go.Proofs.Ytlohggdabpfkhaa
