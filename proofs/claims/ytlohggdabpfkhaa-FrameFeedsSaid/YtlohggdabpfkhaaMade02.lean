/-
  CONTRACTS of fermatakit.CopyBytes and fermatalaw02.Made: a copy, and right fields made of numbers and texts; nothing that was there is written.
-/
import Derived.Test.YtlohggdabpfkhaaFieldRead
import Derived.Test.YtlohggdabpfkhaaWrites01
namespace Go.Proofs.Ytlohggdabpfkhaa
open Go.RowKit Pl

set_option maxRecDepth 100000 in
set_option maxHeartbeats 1000000 in
theorem copyBytes_calls (v : Value) (l : List Nat) (w : World) (h : BRow w v l) (hl : l.length ≤ 140737488355000) :
    Calls Try.prog 72 #[v] w fun e w' => ∃ v', e = .returned v' ∧ Own8 w' w.heap.size v' l ∧ Below w.heap.size w w' := by
  have HR := Lib.hid h
  clear h
  go_enter Try.func72, Try.ntmps72
  go_wp2_with (at_builtin; refine wpList_append8 rfl (.tmp 4) (.tmp 5) rfl w.heap.size _ _ rfl (own8_nil _ _) _ l rfl HR.out (by simp; omega) (Nat.le_refl _) ?_; intro v5 w5 hown5 hg5; have HO5 := Lib.hid hown5; have HB5 := Lib.hid ((Below.refl w.heap.size w).grown hg5 (Nat.le_refl _) (fun j hj => by cases hj)); clear hown5 hg5)
  go_ret
  exact ⟨_, rfl, HO5.out, HB5.out⟩

theorem own8_past {w4 W5 : World} {base n : Nat} {v u : Value} {l : List Nat} {xs : List Value} {tmp : Obj} (h : Own8 w4 base u l) (hrow : w4.ownsRow base 25 2 v n xs) (hgrow : (w4.alloc tmp).grownBy W5 v.ownBlock) : Own8 W5 base u l := by
  have h1 : Own8 (w4.alloc tmp) base u l := h.alloc _
  refine h1.kept hgrow ?_
  rcases h.2 with ⟨e, _⟩ | ⟨g, cap, cur, e, _, hgb, _⟩
  · rw [e]; exact .inl rfl
  · refine .inr fun e2 => ?_
    rcases hrow.2 with ⟨e3, _⟩ | ⟨g2, cap2, cur2, e3, _, hgb2, _⟩
    · rw [e, e3] at e2; simp [Value.ownBlock] at e2
    · rw [e, e3] at e2
      simp only [Value.ownBlock, Option.some.injEq] at e2
      subst e2
      rw [hgb] at hgb2
      simp at hgb2
/-- A field more behind fields of the call's own. -/
theorem fown_append {w4 W5 : World} {base : Nat} {v v' u : Value} {L : List Fld} {V : List Value} {p : Fld} {tmp : Obj} (hV1 : V.length = L.length) (hV2 : w4.ownsRow base 25 2 v L.length (fcells L V)) (hV3 : ∀ i < L.length, Own8 w4 base (V.getD i undef) (fb L i))
    (hu : Own8 w4 base u p.2) (hgrow : (w4.alloc tmp).grownBy W5 v.ownBlock) (hown' : W5.ownsRow base 25 2 v' (L.length + 1) (fcells L V ++ [.int .i64 p.1, u])) : FOwn W5 base v' (L ++ [p]) := by
  refine ⟨V ++ [u], by simp [hV1], ?_, fun i hi => ?_⟩
  · rw [fcells_snoc _ _ _ _ hV1]
    simpa using hown'
  · simp only [List.length_append, List.length_cons, List.length_nil] at hi
    by_cases h : i < L.length
    · rw [getD_snoc _ _ _ (by omega), fb_snoc _ _ _ h]
      exact own8_past (hV3 i h) hV2 hgrow
    · obtain rfl : i = L.length := by omega
      rw [fb_last]
      have : (V ++ [u]).getD L.length undef = u := by rw [← hV1]; exact getD_last _ _
      rw [this]
      exact own8_past hu hV2 hgrow
/-- append of a field. -/
theorem wpList_appendF {ops : Array Oper} {rest : List Oper} {o : Oper} {a : Act} {w : World} {Q : Exit → Act → World → Prop} (hgd : o.guard = none) (s x : Operand)
    (ho : o.op = .call { callee := .builtin .append, args := #[s, x], argTypes := #[22, 22] })
    (base : Nat) (v : Value) (k : Nat) (xs : List Value) (hs : a.eval s = v) (hown : w.ownsRow base 25 2 v k xs) (ad : Addr) (m c : Nat) (news : List Value) (hx : a.eval x = .slice (some ad) m c) (hl : news.length = m * 2) (hnews : ∀ j u, news[j]? = some u → w.cell? (ad.add j) = some u) (h1 : ∀ u ∈ news, u.oneCell' = true)
    (hk : k + m ≤ 100000) (hbase : base ≤ w.heap.size)
    (h : ∀ v' w', w'.ownsRow base 25 2 v' (k + m) (xs ++ news) → w.grownBy w' v.ownBlock → wpList Try.prog ops Q rest (a.put o.dst v') w') : wpList Try.prog ops Q (o :: rest) a w := by
  obtain ⟨i0, hi, hz0, hz1, hz2⟩ := info_parts info_field
  exact wpList_append_own_at w hgd s x 22 ho base 25 i0 (.agg #[.int .i64 0, .slice none 0 0]) 2 32 Try.underlying22 hi hz0 hz1 hz2 rfl (by decide) v k xs hs hown ad m c news hx hl hnews h1 (by unfold maxLen; omega) (by omega) hbase (fun v' w' h2 h3 _ _ => h v' w' h2 h3)

/-- THE VALUE v READS AS THE TEXTS T. -/
def TRow (w : World) (v : Value) (T : List (List Nat)) : Prop :=
  (∃ a c, v = .slice a 0 c ∧ T = [] ∧ c ≤ maxLen) ∨ ∃ (b off cap : Nat) (A : Nat → Option Addr) (C : Nat → Nat), v = .slice (some ⟨b, off, none⟩) T.length cap ∧ T.length ≤ cap ∧ cap ≤ maxLen ∧
    ∀ i, i < T.length → w.cell? ⟨b, off + i, none⟩ = some (.slice (A i) (T.getD i []).length (C i)) ∧ BRow w (.slice (A i) (T.getD i []).length (C i)) (T.getD i [])
theorem TRow.below {w w' : World} {v : Value} {T : List (List Nat)} (h : TRow w v T) (hb : Below w.heap.size w w') : TRow w' v T := by
  obtain hn | ⟨b, off, cap, A, C, hv, h1, h2, h3⟩ := h
  · exact .inl hn
  · refine .inr ⟨b, off, cap, A, C, hv, h1, h2, fun i hi => ?_⟩
    obtain ⟨c1, c2⟩ := h3 i hi
    exact ⟨(hb.cell (p := ⟨b, off + i, none⟩) (block_lt_of_cell c1)).trans c1, c2.below hb⟩

def tgU (gaps : List Nat) : Nat → Nat
  | 0 => 0
  | k + 1 => tgU gaps k + (1 + gt gaps k % 9)
def txU (T : List (List Nat)) (k : Nat) : List Nat := if T.length = 0 then [] else (T.getD (k % T.length) []).take 100
/-- The first fields that Made makes. -/
def madeU (gaps : List Nat) (T : List (List Nat)) (k : Nat) : List Fld := (List.range k).map fun i => ((tgU gaps (i + 1) : Int), txU T i)
/-- What Made makes. -/
def madeF (gaps : List Nat) (T : List (List Nat)) : List Fld := madeU gaps T (min gaps.length 20)
theorem madeU_succ (gaps : List Nat) (T : List (List Nat)) (k : Nat) : madeU gaps T (k + 1) = madeU gaps T k ++ [((tgU gaps (k + 1) : Int), txU T k)] := by
  simp [madeU, List.range_succ]
theorem madeU_length (gaps : List Nat) (T : List (List Nat)) (k : Nat) : (madeU gaps T k).length = k := by simp [madeU]
theorem tgU_le (gaps : List Nat) : ∀ k, tgU gaps k ≤ 9 * k
  | 0 => Nat.le_refl _
  | k + 1 => by have := tgU_le gaps k; simp only [tgU]; omega
theorem txU_le (T : List (List Nat)) (k : Nat) : (txU T k).length ≤ 100 := by
  unfold txU; split <;> simp; omega
theorem fits_snoc (L : List Fld) : ∀ (n m : Nat) (a : Int) (p : Fld), fits n m a L = true → L.length < n → sumB L + p.2.length ≤ m → (∀ q ∈ L, q.1 < p.1) → a < p.1 → p.1 ≤ 200 → fits n m a (L ++ [p]) = true := by
  induction L with
  | nil => intro n m a p _ h1 h2 _ h3 h4; simp [fits, takeOk]; simp [sumB] at h2; simp at h1; omega
  | cons q L ih =>
    intro n m a p h h1 h2 h3 h4 h5
    simp only [fits, Bool.and_eq_true, List.cons_append] at h ⊢
    have hq := h.1
    simp only [takeOk, decide_eq_true_eq] at hq
    simp only [List.length_cons, sumB] at h1 h2
    exact ⟨h.1, ih _ _ _ _ h.2 (by omega) (by omega) (fun r hr => h3 r (by simp [hr])) (h3 q (by simp)) h5⟩
theorem sumB_append (L : List Fld) (p : Fld) : sumB (L ++ [p]) = sumB L + p.2.length := by
  induction L with
  | nil => simp [sumB]
  | cons q L ih => simp only [List.cons_append, sumB, ih]; omega
theorem madeU_right (gaps : List Nat) (T : List (List Nat)) : ∀ k, k ≤ 20 → rightF (madeU gaps T k) = true ∧ sumB (madeU gaps T k) ≤ 100 * k ∧ ∀ q ∈ madeU gaps T k, q.1 ≤ (tgU gaps k : Int) := by
  intro k
  induction k with
  | zero => intro _; exact ⟨rfl, Nat.le_refl _, fun q hq => by simp [madeU] at hq⟩
  | succ k ih =>
    intro hk
    obtain ⟨h1, h2, h3⟩ := ih (by omega)
    have hx := txU_le T k
    have ht := tgU_le gaps (k + 1)
    have hlt : tgU gaps k < tgU gaps (k + 1) := by simp only [tgU]; omega
    rw [madeU_succ]
    refine ⟨fits_snoc _ _ _ _ _ h1 (by rw [madeU_length]; omega) (by dsimp only; omega) (fun q hq => by have := h3 q hq; dsimp only; omega) (by dsimp only; omega) (by dsimp only; omega), by rw [sumB_append]; dsimp only; omega, fun q hq => ?_⟩
    rcases List.mem_append.1 hq with h | h
    · have := h3 q h; omega
    · simp only [List.mem_singleton] at h; subst h; exact Int.le_refl _
theorem madeF_right (gaps : List Nat) (T : List (List Nat)) : rightF (madeF gaps T) = true := (madeU_right gaps T _ (Nat.min_le_right _ _)).1

set_option maxRecDepth 100000 in
set_option maxHeartbeats 2000000 in
theorem made_calls (v u : Value) (gaps : List Nat) (T : List (List Nat)) (w : World) (h : BRow w v gaps) (h2 : TRow w u T) :
    Calls Try.prog 20 #[v, u] w fun e w' => ∃ v', e = .returned v' ∧ FOwn w' w.heap.size v' (madeF gaps T) ∧ Below w.heap.size w w' := by
  obtain ⟨hb, ⟨a, c, rfl, rfl, hac⟩ | ⟨b, off, cap, rfl, hc, hm, hcell⟩⟩ := h
  · clear hac
    go_enter Try.func20, Try.ntmps20
    go_wp2
    go_loopw [5, 17] (fun x i wr => x = .slice none 0 0 ∧ i = .int .i64 0 ∧ wr = w) (fun _ _ _ => 0)
    case atStart => exact ⟨rfl, rfl, rfl⟩
    case round =>
      obtain ⟨rfl, rfl, rfl⟩ := hrel
      go_wp2
      go_ret
      exact ⟨_, rfl, fown_nil _ _, Below.refl _ _⟩
  · have HC := Lib.hid hcell
    have HB8 := Lib.hid hb
    unfold maxLen at hm
    have hcut : ∃ K : Nat, K = min gaps.length 20 ∧ K ≤ 20 ∧ K ≤ gaps.length ∧ (if (20 : Int) < (gaps.length : Int) then (20 : Int) else (gaps.length : Int)) = (K : Int) := by
      by_cases h : gaps.length ≤ 20
      · exact ⟨gaps.length, by omega, h, Nat.le_refl _, by rw [if_neg (by omega)]⟩
      · exact ⟨20, by omega, Nat.le_refl _, by omega, by rw [if_pos (by omega)]; rfl⟩
    obtain ⟨K, hKe, hK20, hKl, hmin⟩ := hcut
    have hkc1 : (0 : Int) ≤ (K : Int) := by omega
    have hkc2 : (K : Int) ≤ (cap : Int) := by omega
    have HKe := Lib.hid hKe
    clear hcell hb hKe
    go_enter Try.func20, Try.ntmps20
    go_wp2
    go_loopw [5, 6, 17] (fun x tg i wr => ∃ k : Nat, k ≤ K ∧ i = .int .i64 k ∧ tg = .int .i64 (tgU gaps k : Nat) ∧ FOwn wr w.heap.size x (madeU gaps T k) ∧ Below w.heap.size w wr) (fun _ _ i _ => K - (intOf i).toNat)
    case atStart => exact ⟨0, Nat.zero_le _, rfl, rfl, fown_nil _ _, Below.refl _ _⟩
    case round =>
      obtain ⟨k, hk, rfl, rfl, hown, hbel⟩ := hrel
      have HO := Lib.hid hown
      have HB := Lib.hid hbel
      by_cases hlt : k < K
      · have c0 := (hbel.cell (p := ⟨b, off + k, none⟩) (block_lt_of_cell (HC.out k (by omega)))).trans (HC.out k (by omega))
        have hg := gt_lt HB8.out k
        have hU := madeU_succ gaps T k
        have ht1 := tgU_le gaps k
        have ht2 : tgU gaps (k + 1) = tgU gaps k + (1 + gt gaps k % 9) := rfl
        generalize gt gaps k = g at *
        obtain ⟨t1, ht1e⟩ : ∃ t1, tgU gaps (k + 1) = t1 := ⟨_, rfl⟩
        rw [ht1e] at hU ht2
        have HT2 := Lib.hid ht1e
        clear ht1e
        generalize tgU gaps k = t0 at *
        clear hown hbel
        obtain ⟨ua, uc, hu⟩ : ∃ ua uc, u = .slice ua T.length uc := by
          rcases h2 with ⟨a, c, e, e2, _⟩ | ⟨b, off, cap, A, C, e, _⟩
          · exact ⟨a, c, by rw [e2]; exact e⟩
          · exact ⟨_, _, e⟩
        subst hu
        have hU := Lib.hid hU
        have hlen : (madeU gaps T k).length = k := madeU_length gaps T k
        have HT1 := Lib.hid (show ((t0 : Int) + (1 + (g : Int) % 9)) = (t1 : Int) by omega)
        have hsz := HB.out.size
        by_cases hT : T.length = 0
        · have hx : txU T k = [] := by unfold txU; rw [if_pos hT]
          rw [hx] at hU
          have dT : decide (0 < T.length) = false := decide_eq_false (by omega)
          have HT0 := Lib.hid hT
          clear hT hx
          have hF1 := HO.out.keep (World.grownBy_alloc wr (.cells #[.int .i64 ((t0 : Int) + (1 + (g : Int) % 9)), .slice none 0 0] 25) none) (fun r c t e => by cases e)
          have HA1 := Lib.hid (HB.out.alloc HB.out.size (.cells #[.int .i64 ((t0 : Int) + (1 + (g : Int) % 9)), .slice none 0 0] 25))
          obtain ⟨V, hV1, hV2, hV3⟩ := hF1
          have HV1 := Lib.hid hV1; have HV2 := Lib.hid hV2; have HV3 := Lib.hid hV3
          clear hV1 hV2 hV3 h2 HO
          go_wp2_with (at_builtin; refine wpList_appendF rfl (.tmp 47) (.tmp 49) rfl w.heap.size _ (madeU gaps T k).length (fcells (madeU gaps T k) V) rfl (HV2.out.alloc (.cells #[.int .i64 ((t0 : Int) + (1 + (g : Int) % 9)), .slice none 0 0] 25)) ⟨wr.heap.size + 1, 0, none⟩ 1 1 [.int .i64 ((t0 : Int) + (1 + (g : Int) % 9)), .slice none 0 0] rfl rfl (by have := cell_two_new (wr.alloc (.cells #[.int .i64 ((t0 : Int) + (1 + (g : Int) % 9)), .slice none 0 0] 25)) (.int .i64 ((t0 : Int) + (1 + (g : Int) % 9))) (.slice none 0 0) 25; rwa [World.size_alloc] at this) (by intro z hz; simp at hz; rcases hz with rfl | rfl <;> rfl) (by omega) (by simp; omega) ?_; intro v5 w5 hown5 hg5; have HF5 := Lib.hid (fown_append (p := ((t0 : Int) + (1 + (g : Int) % 9), [])) HV1.out HV2.out HV3.out (own8_nil _ _) hg5 hown5); have HB5 := Lib.hid ((HA1.out.alloc HA1.out.size _).grown hg5 (HA1.out.alloc HA1.out.size _).size (fun j hj => (HV2.out.lt j hj).1)); clear hown5 hg5)
          go_roundw
          case rel =>
            have hfin : ∃ k' : Nat, k' ≤ K ∧ Value.int .i64 ((k : Int) + 1) = .int .i64 k' ∧ Value.int .i64 ((t0 : Int) + (1 + (g : Int) % 9)) = .int .i64 (tgU gaps k' : Nat) ∧ FOwn w5 w.heap.size v5 (madeU gaps T k') ∧ Below w.heap.size w w5 := ⟨k + 1, by omega, by go_num, by rw [HT1.out, HT2.out], by rw [hU.out, ← HT1.out]; exact HF5.out, HB5.out⟩
            first | exact hfin | ((repeat apply Exists.intro); exact ⟨hfin, rfl⟩)
          case measure => simp [intOf]; omega
        · obtain ⟨_, _, _, e2, _⟩ | ⟨bT, oT, cT, A, C, e, hT1, hT2, hT3⟩ := h2
          · rw [e2] at hT; exact absurd rfl hT
          simp only [Value.slice.injEq, true_and] at e
          obtain ⟨rfl, rfl⟩ := e
          unfold maxLen at hT2
          have hj : k % T.length < T.length := Nat.mod_lt _ (by omega)
          obtain ⟨d1, d2⟩ := hT3 (k % T.length) hj
          have hx : txU T k = (T.getD (k % T.length) []).take 100 := by unfold txU; rw [if_neg hT]
          rw [hx] at hU
          generalize A (k % T.length) = A1 at *
          generalize C (k % T.length) = C1 at *
          generalize T.getD (k % T.length) [] = bs at *
          have dT : decide (0 < T.length) = true := decide_eq_true (by omega)
          have d1' := (HB.out.cell (p := ⟨bT, oT + k % T.length, none⟩) (block_lt_of_cell d1)).trans d1
          have d1a := cell_alloc' d1' (.cells #[.int .i64 ((t0 : Int) + (1 + (g : Int) % 9)), .slice none 0 0] 25)
          have hcb : bs.length ≤ C1 ∧ C1 ≤ maxLen := by
            obtain ⟨_, ⟨_, _, e, rfl, h⟩ | ⟨_, _, _, e, h1, h3, _⟩⟩ := d2
            · cases e; exact ⟨Nat.zero_le _, h⟩
            · cases e; exact ⟨h1, h3⟩
          have hcut2 : ∃ K2 : Nat, K2 ≤ 100 ∧ K2 ≤ bs.length ∧ bs.take K2 = bs.take 100 ∧ (if (100 : Int) < (bs.length : Int) then (100 : Int) else (bs.length : Int)) = (K2 : Int) := by
            by_cases h : bs.length ≤ 100
            · exact ⟨bs.length, h, Nat.le_refl _, by rw [List.take_of_length_le h, List.take_of_length_le (Nat.le_refl _)], by rw [if_neg (by omega)]⟩
            · exact ⟨100, Nat.le_refl _, by omega, rfl, by rw [if_pos (by omega)]; rfl⟩
          obtain ⟨K2, hK2a, hK2b, hK2c, hmin2⟩ := hcut2
          have hq1 : (0 : Int) ≤ (K2 : Int) := by omega
          have hq2 : (K2 : Int) ≤ (C1 : Int) := by omega
          have hA1 := HB.out.alloc HB.out.size (.cells #[.int .i64 ((t0 : Int) + (1 + (g : Int) % 9)), .slice none 0 0] 25)
          have hrw := (d2.headW K2 hK2b).below hA1
          have hl2 : (bs.take K2).length = K2 := by rw [List.length_take]; omega
          generalize bs.take K2 = bt at *
          subst hl2
          have HCB := Lib.hid (copyBytes_calls _ bt _ hrw (by omega))
          have HA1 := Lib.hid hA1
          have HK2 := Lib.hid hK2c
          have HN := Lib.hid (World.alloc_heap_new wr (.cells #[.int .i64 ((t0 : Int) + (1 + (g : Int) % 9)), .slice none 0 0] 25))
          have hW1 : (wr.alloc (.cells #[.int .i64 ((t0 : Int) + (1 + (g : Int) % 9)), .slice none 0 0] 25)).heap.size = wr.heap.size + 1 := by simp
          have HW1 := Lib.hid hW1
          have HD := Lib.hid (And.intro d2 hcb)
          clear d1 d1' d2 hrw hA1 hK2c hW1 hT3 hcb hx
          go_wp2_with (first
            | (go_at_call 72; refine HCB.out.mono ?_; rintro e w3 ⟨v3, rfl, ho3, hb3⟩; obtain ⟨a3, c3, rfl⟩ := owns_shape ho3; have hN3 := (hb3.block wr.heap.size (by rw [HW1.out]; omega)).trans HN.out; have e0 : w3.cell? ⟨wr.heap.size, 0, none⟩ = some (.int .i64 ((t0 : Int) + (1 + (g : Int) % 9))) := (by simp [World.cell?, hN3]); have e1 : w3.cell? ⟨wr.heap.size, 1, none⟩ = some (.slice none 0 0) := (by simp [World.cell?, hN3]); have f1 : w3.frozen? ⟨wr.heap.size, 1, none⟩ = false := (by simp [World.frozen?, hN3]); have hbS : Below wr.heap.size wr (w3.setCell ⟨wr.heap.size, 1, none⟩ (.slice a3 bt.length c3)) := ((((Below.refl _ wr).alloc (Nat.le_refl _) (.cells #[.int .i64 ((t0 : Int) + (1 + (g : Int) % 9)), .slice none 0 0] 25)).trans (hb3.mono (by rw [HW1.out]; omega))).setCell (p := ⟨wr.heap.size, 1, none⟩) (Nat.le_refl _) _); obtain ⟨V, hV1, hV2, hV3⟩ := HO.out.keep (grownBy_of_below hbS none) (fun r c t e => by cases e); have HOS := Lib.hid ((own_base (base' := w.heap.size) ho3 (by rw [HW1.out]; omega)).kept (grownBy_setCell w3 wr.heap.size 1 (.slice a3 bt.length c3)) (.inr (fun e => by have := (ho3.lt _ e).1; rw [HW1.out] at this; omega))); have HBS := Lib.hid (HB.out.trans (hbS.mono HB.out.size)); have HV1 := Lib.hid hV1; have HV2 := Lib.hid hV2; have HV3 := Lib.hid hV3; clear ho3 hb3 hN3 hbS hV1 hV2 hV3)
            | (at_builtin; refine wpList_appendF rfl (.tmp 47) (.tmp 49) rfl w.heap.size _ (madeU gaps T k).length (fcells (madeU gaps T k) V) rfl (HV2.out.alloc (.cells #[.int .i64 ((t0 : Int) + (1 + (g : Int) % 9)), .slice a3 bt.length c3] 25)) ⟨(w3.setCell ⟨wr.heap.size, 1, none⟩ (.slice a3 bt.length c3)).heap.size, 0, none⟩ 1 1 [.int .i64 ((t0 : Int) + (1 + (g : Int) % 9)), .slice a3 bt.length c3] (by first | rfl | simp [Act.eval]) rfl (cell_two_new _ _ _ _) (by intro z hz; simp at hz; rcases hz with rfl | rfl <;> rfl) (by omega) (by have := HBS.out.size; simp at this ⊢; omega) ?_; intro v5 w5 hown5 hg5; have HF5 := Lib.hid (fown_append (p := ((t0 : Int) + (1 + (g : Int) % 9), bt)) HV1.out HV2.out HV3.out HOS.out hg5 hown5); have HB5 := Lib.hid ((HBS.out.alloc HBS.out.size _).grown hg5 (HBS.out.alloc HBS.out.size _).size (fun j hj => (HV2.out.lt j hj).1)); clear hown5 hg5))
          go_roundw
          case rel =>
            have hfin : ∃ k' : Nat, k' ≤ K ∧ Value.int .i64 ((k : Int) + 1) = .int .i64 k' ∧ Value.int .i64 ((t0 : Int) + (1 + (g : Int) % 9)) = .int .i64 (tgU gaps k' : Nat) ∧ FOwn w5 w.heap.size v5 (madeU gaps T k') ∧ Below w.heap.size w w5 := ⟨k + 1, by omega, by go_num, by rw [HT1.out, HT2.out], by rw [hU.out, ← HT1.out, ← HK2.out]; exact HF5.out, HB5.out⟩
            first | exact hfin | ((repeat apply Exists.intro); exact ⟨hfin, rfl⟩)
          case measure => simp [intOf]; omega
      · obtain rfl : k = K := by omega
        have HKe2 := HKe
        clear hown hbel
        go_wp2
        go_ret
        exact ⟨_, rfl, by unfold madeF; rw [← HKe2.out]; exact HO.out, HB.out⟩
end Go.Proofs.Ytlohggdabpfkhaa
