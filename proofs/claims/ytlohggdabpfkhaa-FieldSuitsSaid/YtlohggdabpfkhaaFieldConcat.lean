/-
  CONTRACT of slices.Concat at three lists of fields: a row of the call's own with all their fields, whose bytes are shared.
-/
import Derived.Test.YtlohggdabpfkhaaFieldGrow
namespace Go.Proofs.Ytlohggdabpfkhaa
open Go.RowKit Pl

/-- A ROW OF THE CALL's OWN THAT HOLDS FIELDS WHOSE BYTES LIE IN w0. -/
def FShare (w0 w : World) (base : Nat) (v : Value) (L : List Fld) : Prop :=
  ∃ V : List Value, V.length = L.length ∧ w.ownsRow base 25 2 v L.length (fcells L V) ∧ ∀ i < L.length, BRow w0 (V.getD i undef) (fb L i)
theorem FRow.shape {w : World} {v : Value} {L : List Fld} (h : FRow w v L) : ∃ a c, v = .slice a L.length c := by
  obtain ⟨_, ⟨a, c, rfl, rfl, _⟩ | ⟨b, off, cap, A, C, rfl, _⟩⟩ := h
  · exact ⟨a, c, rfl⟩
  · exact ⟨_, _, rfl⟩
theorem fcells_length (L : List Fld) : ∀ (V : List Value), V.length = L.length → (fcells L V).length = L.length * 2 := by
  induction L with
  | nil => intro V _; simp [fcells]
  | cons p L ih =>
    intro V hV
    cases V with
    | nil => simp at hV
    | cons u V => simp only [fcells, List.length_cons, ih V (by simpa using hV)]; omega
/-- The cells of a list of fields, as values. -/
theorem FRow.vals {w : World} {v : Value} {L : List Fld} (h : FRow w v L) (hL : L.length ≠ 0) : ∃ (b off cap : Nat) (V : List Value), v = .slice (some ⟨b, off, none⟩) L.length cap ∧ V.length = L.length ∧ (∀ i < L.length, BRow w (V.getD i undef) (fb L i)) ∧
    (∀ j u, (fcells L V)[j]? = some u → w.cell? ((⟨b, off, none⟩ : Addr).add j) = some u) ∧ (∀ u ∈ fcells L V, u.oneCell' = true) := by
  obtain ⟨ht, ⟨a, c, e, rfl, _⟩ | ⟨b, off, cap, A, C, rfl, _, _, hcell⟩⟩ := h
  · simp at hL
  · refine ⟨b, off, cap, (List.range L.length).map fun i => .slice (A i) (fb L i).length (C i), rfl, by simp, fun i hi => ?_, ?_, ?_⟩
    · have : ((List.range L.length).map fun i => Value.slice (A i) (fb L i).length (C i)).getD i undef = .slice (A i) (fb L i).length (C i) := by simp [List.getD_eq_getElem?_getD, hi]
      rw [this]
      exact (hcell i hi).2.2
    · intro j u hj
      have hadd : (⟨b, off, none⟩ : Addr).add j = ⟨b, off + j, none⟩ := by unfold Addr.add; split <;> simp_all
      rw [hadd]
      have hg := fcells_get L ((List.range L.length).map fun i => Value.slice (A i) (fb L i).length (C i)) (by simp)
      have hlen : (fcells L ((List.range L.length).map fun i => Value.slice (A i) (fb L i).length (C i))).length = L.length * 2 := fcells_length _ _ (by simp)
      have hjl : j < L.length * 2 := by rw [← hlen]; exact (List.getElem?_eq_some_iff.1 hj).1
      obtain ⟨e1, e2⟩ := hg (j / 2) (by omega)
      obtain ⟨c1, c2, _⟩ := hcell (j / 2) (by omega)
      rcases Nat.mod_two_eq_zero_or_one j with hm | hm
      · rw [show j / 2 * 2 = j by omega] at e1 c1
        rw [e1] at hj
        cases hj
        exact c1
      · rw [show j / 2 * 2 + 1 = j by omega] at e2
        rw [show off + j / 2 * 2 + 1 = off + j by omega] at c2
        rw [e2] at hj
        cases hj
        rw [c2]
        simp [List.getD_eq_getElem?_getD, show j / 2 < L.length by omega]
    · intro u hu
      obtain ⟨j, hj⟩ := List.mem_iff_getElem?.1 hu
      have hg := fcells_get L ((List.range L.length).map fun i => Value.slice (A i) (fb L i).length (C i)) (by simp)
      have hlen : (fcells L ((List.range L.length).map fun i => Value.slice (A i) (fb L i).length (C i))).length = L.length * 2 := fcells_length _ _ (by simp)
      have hjl : j < L.length * 2 := by rw [← hlen]; exact (List.getElem?_eq_some_iff.1 hj).1
      obtain ⟨e1, e2⟩ := hg (j / 2) (by omega)
      rcases Nat.mod_two_eq_zero_or_one j with hm | hm
      · rw [show j / 2 * 2 = j by omega] at e1
        rw [e1] at hj
        cases hj
        rfl
      · rw [show j / 2 * 2 + 1 = j by omega] at e2
        rw [e2] at hj
        cases hj
        simp [List.getD_eq_getElem?_getD, show j / 2 < L.length by omega, Value.oneCell']
theorem fcells_append (L M : List Fld) : ∀ (V U : List Value), V.length = L.length → fcells (L ++ M) (V ++ U) = fcells L V ++ fcells M U := by
  induction L with
  | nil => intro V U h; have : V = [] := List.eq_nil_of_length_eq_zero (by simpa using h); subst this; rfl
  | cons q L ih =>
    intro V U h
    cases V with
    | nil => simp at h
    | cons u V => simp only [List.cons_append, fcells, ih V U (by simpa using h)]
theorem FShare.append {w0 w' : World} {base : Nat} {v' : Value} {L M : List Fld} {V U : List Value} (hV1 : V.length = L.length) (hV3 : ∀ i < L.length, BRow w0 (V.getD i undef) (fb L i)) (hU1 : U.length = M.length) (hU3 : ∀ i < M.length, BRow w0 (U.getD i undef) (fb M i))
    (hown : w'.ownsRow base 25 2 v' (L.length + M.length) (fcells L V ++ fcells M U)) : FShare w0 w' base v' (L ++ M) := by
  refine ⟨V ++ U, by simp [hV1, hU1], ?_, fun i hi => ?_⟩
  · rw [fcells_append _ _ _ _ hV1, List.length_append]; exact hown
  · simp only [List.length_append] at hi
    by_cases h : i < L.length
    · have e1 : (V ++ U).getD i undef = V.getD i undef := by simp [List.getD_eq_getElem?_getD, List.getElem?_append_left (show i < V.length by omega)]
      have e2 : fb (L ++ M) i = fb L i := by simp [fb, List.getD_eq_getElem?_getD, List.getElem?_append_left h]
      rw [e1, e2]; exact hV3 i h
    · have e1 : (V ++ U).getD i undef = U.getD (i - L.length) undef := by simp [List.getD_eq_getElem?_getD, List.getElem?_append_right (show V.length ≤ i by omega), hV1]
      have e2 : fb (L ++ M) i = fb M (i - L.length) := by simp [fb, List.getD_eq_getElem?_getD, List.getElem?_append_right (show L.length ≤ i by omega)]
      rw [e1, e2]; exact hU3 _ (by omega)
theorem fshare_nil {w0 w : World} {base : Nat} {v : Value} (h : w.ownsRow base 25 2 v 0 []) : FShare w0 w base v [] := ⟨[], rfl, h, fun _ hi => absurd hi (Nat.not_lt_zero _)⟩

theorem run_appendSh (w0 w : World) (ty : TypeId) (base : Nat) (hbase : base ≤ w.heap.size) (v : Value) (L : List Fld) (hown : FShare w0 w base v L) (x : Value) (M : List Fld) (hx : FRow w0 x M) (hb : Below w0.heap.size w0 w) (hl : L.length + M.length ≤ 100000) :
    ∃ v' w', (Builtin.append_ #[22, 22] ty #[v, x]).run Try.prog w = .ok v' w' ∧ FShare w0 w' base v' (L ++ M) ∧ w.grownBy w' v.ownBlock := by
  obtain ⟨i0, hi, hz0, hz1, hz2⟩ := info_parts info_field
  obtain ⟨V, hV1, hV2, hV3⟩ := hown
  have fin : ∀ (ad : Addr) (c : Nat) (U : List Value), x = .slice (some ad) M.length c → U.length = M.length → (∀ i < M.length, BRow w0 (U.getD i undef) (fb M i)) → (∀ j u, (fcells M U)[j]? = some u → w.cell? (ad.add j) = some u) → (∀ u ∈ fcells M U, u.oneCell' = true) →
      ∃ v' w', (Builtin.append_ #[22, 22] ty #[v, x]).run Try.prog w = .ok v' w' ∧ FShare w0 w' base v' (L ++ M) ∧ w.grownBy w' v.ownBlock := by
    rintro ad c U rfl hU1 hU3 hcells h1
    obtain ⟨v', w', hr, ho, hg, _⟩ := run_append_own (P := Try.prog) w base 22 ty 25 i0 (.agg #[.int .i64 0, .slice none 0 0]) 2 32 Try.underlying22 hi hz0 hz1 hz2 rfl (by decide) v L.length (fcells L V) hV2 ad M.length c (fcells M U) (fcells_length M U hU1) hcells h1 (by unfold maxLen; omega) (by omega) hbase
    exact ⟨v', w', hr, FShare.append hV1 hV3 hU1 hU3 ho, hg⟩
  by_cases hM : M.length = 0
  · have hM0 : M = [] := List.eq_nil_of_length_eq_zero hM
    subst hM0
    obtain ⟨a, c, rfl⟩ := hx.shape
    cases a with
    | some ad => exact fin ad c [] rfl rfl (fun i hi => absurd hi (Nat.not_lt_zero _)) (fun j u hu => by simp [fcells] at hu) (fun u hu => by simp [fcells] at hu)
    | none =>
      refine ⟨v, w, ?_, by rw [List.append_nil]; exact ⟨V, hV1, hV2, hV3⟩, ⟨rfl, rfl, rfl, Nat.le_refl _, fun _ _ _ => rfl⟩⟩
      rcases hV2.2 with ⟨rfl, _⟩ | ⟨g, cap, cur, rfl, _, hg, hnc, _⟩
      · simp [Builtin.append_, run_underlying Try.underlying22, sizeOf, typeInfo, hi, Builtin.lenOf, Builtin.firstCells]
      · simp [Builtin.append_, run_underlying Try.underlying22, sizeOf, typeInfo, hi, Builtin.lenOf, Builtin.firstCells, hnc, storeCells]
  · obtain ⟨b, off, cap, U, rfl, hU1, hU3, hc, h1⟩ := hx.vals hM
    exact fin ⟨b, off, none⟩ cap U rfl hU1 hU3 (fun j u hj => (hb.cell (block_lt_of_cell (hc j u hj))).trans (hc j u hj)) h1

theorem wpList_appendSh {ops : Array Oper} {rest : List Oper} {o : Oper} {a : Act} {w : World} {Q : Exit → Act → World → Prop} (hgd : o.guard = none) (s x : Operand)
    (ho : o.op = .call { callee := .builtin .append, args := #[s, x], argTypes := #[22, 22] })
    (w0 : World) (base : Nat) (v : Value) (L : List Fld) (hs : a.eval s = v) (hown : FShare w0 w base v L) (xv : Value) (M : List Fld) (hx : a.eval x = xv) (hrow : FRow w0 xv M) (hb : Below w0.heap.size w0 w)
    (hl : L.length + M.length ≤ 100000) (hbase : base ≤ w.heap.size)
    (h : ∀ v' w', FShare w0 w' base v' (L ++ M) → w.grownBy w' v.ownBlock → wpList Try.prog ops Q rest (a.put o.dst v') w') : wpList Try.prog ops Q (o :: rest) a w :=
  wpList_plain hgd fun K hK => by
    obtain ⟨v', w', hr, h2, h3⟩ := run_appendSh w0 w o.type base hbase v L hown xv M hrow hb hl
    unfold Oper.wp execOp
    simp only [ho, resolve, invoke, builtin, Sem.run_bind, Sem.run_pure, Result.andThen_ok, List.map_toArray, List.map_cons, List.map_nil, hs, hx, hr]
    exact hK _ _ (h v' w' h2 h3)

theorem FShare.lt {w0 w : World} {base : Nat} {v : Value} {L : List Fld} (h : FShare w0 w base v L) : ∀ k, v.ownBlock = some k → base ≤ k ∧ k < w.heap.size := by
  obtain ⟨V, _, h2, _⟩ := h
  exact h2.lt

/-- How many fields lists have together. -/
def sumL : List (List Fld) → Nat
  | [] => 0
  | M :: Ls => M.length + sumL Ls
theorem sumL_flatten (Ls : List (List Fld)) : Ls.flatten.length = sumL Ls := by
  induction Ls with
  | nil => rfl
  | cons M Ls ih => simp [sumL, ih]
theorem take_flatten (Ls : List (List Fld)) (k : Nat) (hk : k < Ls.length) : (Ls.take (k + 1)).flatten = (Ls.take k).flatten ++ Ls.getD k [] := by
  rw [List.take_succ_eq_append_getElem hk, List.flatten_append]
  congr 1
  simp [List.getD_eq_getElem?_getD, hk]
theorem sumL_take (Ls : List (List Fld)) (k : Nat) (hk : k < Ls.length) : sumL (Ls.take (k + 1)) = sumL (Ls.take k) + (Ls.getD k []).length := by
  rw [← sumL_flatten, take_flatten Ls k hk, List.length_append, sumL_flatten]
theorem sumL_take_le (Ls : List (List Fld)) : ∀ k, sumL (Ls.take k) ≤ sumL Ls := by
  induction Ls with
  | nil => intro k; simp [sumL]
  | cons M Ls ih =>
    intro k
    cases k with
    | zero => simp [sumL]
    | succ k => have := ih k; simp only [List.take_succ_cons, sumL]; omega

set_option maxRecDepth 100000 in
set_option maxHeartbeats 2000000 in
theorem concatF_calls (b n : Nat) (S : Nat → Value) (Ls : List (List Fld)) (w : World) (hn : Ls.length = n) (hn1 : n ≤ 10) (hsum : sumL Ls ≤ 1000) (hcell : ∀ k < n, w.cell? ⟨b, k, none⟩ = some (S k) ∧ FRow w (S k) (Ls.getD k [])) :
    Calls Try.prog 106 #[.slice (some ⟨b, 0, none⟩) n n] w fun e w' => ∃ v', e = .returned v' ∧ FShare w w' w.heap.size v' Ls.flatten ∧ Below w.heap.size w w' := by
  have HC := Lib.hid hcell
  have HS := Lib.hid (sumL_take_le Ls)
  have HT := Lib.hid (sumL_take Ls)
  have HF := Lib.hid (take_flatten Ls)
  have HG := Lib.hid (growF_calls (sumL Ls) hsum w)
  have HE := Lib.hid (show Ls.take n = Ls by rw [← hn]; exact List.take_length)
  have HSF := Lib.hid (fun k => sumL_flatten (Ls.take k))
  clear hcell
  go_enter Try.func106, Try.ntmps106
  go_wp2_with fail
  go_loopw [3, 11] (fun s i wr => ∃ k : Nat, k ≤ n ∧ i = .int .i64 k ∧ s = .int .i64 (sumL (Ls.take k) : Nat) ∧ w = wr) (fun _ i _ => n - (intOf i).toNat)
  case atStart => exact ⟨0, Nat.zero_le _, rfl, rfl, rfl⟩
  case round =>
    obtain ⟨k, hk, rfl, rfl, rfl⟩ := hrel
    have hsk := HS.out k
    by_cases hlt : k < n
    · obtain ⟨c1, c2⟩ := HC.out k hlt
      obtain ⟨a, c, hs⟩ := c2.shape
      rw [hs] at c1
      have ht := HT.out k (by omega)
      have hsk1 := HS.out (k + 1)
      have dk : decide ((k : Int) < (n : Int)) = true := decide_eq_true (by omega)
      obtain ⟨s1, hs1e⟩ : ∃ s1, sumL (Ls.take (k + 1)) = s1 := ⟨_, rfl⟩
      rw [hs1e] at ht hsk1
      have HS1 := Lib.hid hs1e
      clear hs1e
      generalize sumL (Ls.take k) = s0 at *
      generalize (Ls.getD k []).length = m at *
      have d2 : decide ((s0 : Int) + (m : Int) < 0) = false := decide_eq_false (by omega)
      have hs1 : (s0 : Int) + (m : Int) = (s1 : Int) := by omega
      clear c2 hs ht
      go_wp2_with fail
      go_roundw
      case rel => exact ⟨k + 1, by omega, by go_num, by rw [HS1.out], by first | rfl | trivial⟩
      case measure => simp [intOf]; omega
    · obtain rfl : k = n := by omega
      clear hsk
      rw [HE.out]
      generalize sumL Ls = s0 at *
      go_wp2_with (first
        | (go_at_call 125; refine HG.out.mono ?_; rintro e w1 ⟨v1, rfl, ho1, hb1⟩; have HO1 := Lib.hid (fshare_nil (w0 := w) ho1); have HB1 := Lib.hid hb1; clear ho1 hb1))
      go_loopw [6, 27] (fun s i w2 => ∃ j : Nat, j ≤ k ∧ i = .int .i64 j ∧ FShare w w2 w.heap.size s (Ls.take j).flatten ∧ Below w.heap.size w w2) (fun _ i _ => k - (intOf i).toNat)
      case atStart => exact ⟨0, Nat.zero_le _, rfl, HO1.out, HB1.out⟩
      case round =>
        obtain ⟨j, hj, rfl, hsh, hbel⟩ := hrel
        by_cases hlt : j < k
        · obtain ⟨c1, c2⟩ := HC.out j hlt
          have c1' := (hbel.cell (p := ⟨b, j, none⟩) (block_lt_of_cell c1)).trans c1
          have hlen1 := HSF.out j
          have hlen2 := HS.out j
          have hlen3 := HT.out j (by omega)
          have hlen4 := HS.out (j + 1)
          have hfl := HF.out j (by omega)
          have HL := Lib.hid hfl
          have HSh := Lib.hid hsh
          have HBl := Lib.hid hbel
          have HC2 := Lib.hid c2
          have dk : decide ((j : Int) < (k : Int)) = true := decide_eq_true (by omega)
          have hb5 : (Ls.take j).flatten.length + (Ls.getD j []).length ≤ 100000 := by omega
          clear c1 c2 hfl hsh hbel hlen1 hlen2 hlen3 hlen4
          go_wp2_with (at_builtin; refine wpList_appendSh rfl _ _ rfl w w.heap.size _ _ rfl HSh.out _ _ rfl HC2.out HBl.out hb5 HBl.out.size ?_; intro v5 w5 hown5 hg5; have HO5 := Lib.hid hown5; have HB5 := Lib.hid (HBl.out.grown hg5 HBl.out.size (fun k hk => (HSh.out.lt k hk).1)); clear hown5 hg5)
          go_roundw
          case rel => exact ⟨j + 1, by omega, by go_num, by rw [HL.out]; exact HO5.out, HB5.out⟩
          case measure => simp [intOf]; omega
        · obtain rfl : j = k := by omega
          rw [HE.out] at hsh
          have HSh := Lib.hid hsh
          have HBl := Lib.hid hbel
          clear hsh hbel
          go_wp2
          go_ret
          exact ⟨_, rfl, HSh.out, HBl.out⟩
end Go.Proofs.Ytlohggdabpfkhaa
