/-
  CONTRACTS of fermatakit.CopyBytes and fermatalaw02.Made: a copy, and right fields made of numbers and texts; nothing that was there is written.
-/
import Derived.Test.YteaeedhhdnkldaaFieldRead
import Derived.Test.YteaeedhhdnkldaaWrites01
namespace Go.Proofs.Yteaeedhhdnkldaa
open Go.RowKit Pl

set_option maxRecDepth 100000 in
set_option maxHeartbeats 1000000 in
theorem copyBytes_calls (v : Value) (l : List Nat) (w : World) (h : BRow w v l) (hl : l.length ≤ 140737488355000) :
    Calls Try.prog 88 #[v] w fun e w' => ∃ v', e = .returned v' ∧ Own8 w' w.heap.size v' l ∧ Below w.heap.size w w' := by
  have HR := Lib.hid h
  clear h
  go_enter Try.func88, Try.ntmps88
  go_wp2_with (at_builtin; refine wpList_append8 rfl (.tmp 4) (.tmp 5) rfl w.heap.size _ _ rfl (own8_nil _ _) _ l rfl HR.out (by simp; omega) (Nat.le_refl _) ?_; intro v5 w5 hown5 hg5; have HO5 := Lib.hid hown5; have HB5 := Lib.hid ((Below.refl w.heap.size w).grown hg5 (Nat.le_refl _) (fun j hj => by cases hj)); clear hown5 hg5)
  go_ret
  exact ⟨_, rfl, HO5.out, HB5.out⟩

theorem own8_past {w4 W5 : World} {base n : Nat} {v u : Value} {l : List Nat} {xs : List Value} {tmp : Obj} (h : Own8 w4 base u l) (hrow : w4.ownsRow base 33 2 v n xs) (hgrow : (w4.alloc tmp).grownBy W5 v.ownBlock) : Own8 W5 base u l := by
  have h1 : Own8 (w4.alloc tmp) base u l := h.alloc _
  refine h1.kept hgrow ?_
  rcases h.2 with ⟨e, _⟩ | ⟨g, cap, cur, e, _, hgb, _⟩
  · rw [e]; exact .inl rfl
  · refine .inr fun e2 => ?_
    rcases hrow.2 with ⟨e3, _⟩ | ⟨g2, cap2, cur2, e3, _, hgb2, _⟩
    · rw [e, e3] at e2; simp [Value.ownBlock] at e2
    · rw [e, e3] at e2
      simp only [Value.ownBlock, Option.some.injEq] at e2
      subst e2
      rw [hgb] at hgb2
      simp at hgb2
/-- A field more behind fields of the call's own. -/
theorem fown_append {w4 W5 : World} {base : Nat} {v v' u : Value} {L : List Fld} {V : List Value} {p : Fld} {tmp : Obj} (hV1 : V.length = L.length) (hV2 : w4.ownsRow base 33 2 v L.length (fcells L V)) (hV3 : ∀ i < L.length, Own8 w4 base (V.getD i undef) (fb L i))
    (hu : Own8 w4 base u p.2) (hgrow : (w4.alloc tmp).grownBy W5 v.ownBlock) (hown' : W5.ownsRow base 33 2 v' (L.length + 1) (fcells L V ++ [.int .i64 p.1, u])) : FOwn W5 base v' (L ++ [p]) := by
  refine ⟨V ++ [u], by simp [hV1], ?_, fun i hi => ?_⟩
  · rw [fcells_snoc _ _ _ _ hV1]
    simpa using hown'
  · simp only [List.length_append, List.length_cons, List.length_nil] at hi
    by_cases h : i < L.length
    · rw [getD_snoc _ _ _ (by omega), fb_snoc _ _ _ h]
      exact own8_past (hV3 i h) hV2 hgrow
    · obtain rfl : i = L.length := by omega
      rw [fb_last]
      have : (V ++ [u]).getD L.length undef = u := by rw [← hV1]; exact getD_last _ _
      rw [this]
      exact own8_past hu hV2 hgrow
/-- append of a field. -/
theorem wpList_appendF {ops : Array Oper} {rest : List Oper} {o : Oper} {a : Act} {w : World} {Q : Exit → Act → World → Prop} (hgd : o.guard = none) (s x : Operand)
    (ho : o.op = .call { callee := .builtin .append, args := #[s, x], argTypes := #[31, 31] })
    (base : Nat) (v : Value) (k : Nat) (xs : List Value) (hs : a.eval s = v) (hown : w.ownsRow base 33 2 v k xs) (ad : Addr) (m c : Nat) (news : List Value) (hx : a.eval x = .slice (some ad) m c) (hl : news.length = m * 2) (hnews : ∀ j u, news[j]? = some u → w.cell? (ad.add j) = some u) (h1 : ∀ u ∈ news, u.oneCell' = true)
    (hk : k + m ≤ 100000) (hbase : base ≤ w.heap.size)
    (h : ∀ v' w', w'.ownsRow base 33 2 v' (k + m) (xs ++ news) → w.grownBy w' v.ownBlock → wpList Try.prog ops Q rest (a.put o.dst v') w') : wpList Try.prog ops Q (o :: rest) a w := by
  obtain ⟨i0, hi, hz0, hz1, hz2⟩ := info_parts info_field
  exact wpList_append_own_at w hgd s x 31 ho base 33 i0 (.agg #[.int .i64 0, .slice none 0 0]) 2 32 Try.underlying31 hi hz0 hz1 hz2 rfl (by decide) v k xs hs hown ad m c news hx hl hnews h1 (by unfold maxLen; omega) (by omega) hbase (fun v' w' h2 h3 _ _ => h v' w' h2 h3)

/-- THE VALUE v READS AS THE TEXTS T. -/
def TRow (w : World) (v : Value) (T : List (List Nat)) : Prop :=
  (∃ a c, v = .slice a 0 c ∧ T = [] ∧ c ≤ maxLen) ∨ ∃ (b off cap : Nat) (A : Nat → Option Addr) (C : Nat → Nat), v = .slice (some ⟨b, off, none⟩) T.length cap ∧ T.length ≤ cap ∧ cap ≤ maxLen ∧
    ∀ i, i < T.length → w.cell? ⟨b, off + i, none⟩ = some (.slice (A i) (T.getD i []).length (C i)) ∧ BRow w (.slice (A i) (T.getD i []).length (C i)) (T.getD i [])
theorem TRow.below {w w' : World} {v : Value} {T : List (List Nat)} (h : TRow w v T) (hb : Below w.heap.size w w') : TRow w' v T := by
  obtain hn | ⟨b, off, cap, A, C, hv, h1, h2, h3⟩ := h
  · exact .inl hn
  · refine .inr ⟨b, off, cap, A, C, hv, h1, h2, fun i hi => ?_⟩
    obtain ⟨c1, c2⟩ := h3 i hi
    exact ⟨(hb.cell (p := ⟨b, off + i, none⟩) (block_lt_of_cell c1)).trans c1, c2.below hb⟩

def tgU (gaps : List Nat) : Nat → Nat
  | 0 => 0
  | k + 1 => tgU gaps k + (1 + gt gaps k % 9)
def txU (T : List (List Nat)) (k : Nat) : List Nat := if T.length = 0 then [] else (T.getD (k % T.length) []).take 100
/-- The first fields that Made makes. -/
def madeU (gaps : List Nat) (T : List (List Nat)) (k : Nat) : List Fld := (List.range k).map fun i => ((tgU gaps (i + 1) : Int), txU T i)
/-- What Made makes. -/
def madeF (gaps : List Nat) (T : List (List Nat)) : List Fld := madeU gaps T (min gaps.length 20)
theorem madeU_succ (gaps : List Nat) (T : List (List Nat)) (k : Nat) : madeU gaps T (k + 1) = madeU gaps T k ++ [((tgU gaps (k + 1) : Int), txU T k)] := by
  simp [madeU, List.range_succ]
theorem madeU_length (gaps : List Nat) (T : List (List Nat)) (k : Nat) : (madeU gaps T k).length = k := by simp [madeU]
theorem tgU_le (gaps : List Nat) : ∀ k, tgU gaps k ≤ 9 * k
  | 0 => Nat.le_refl _
  | k + 1 => by have := tgU_le gaps k; simp only [tgU]; omega
theorem txU_le (T : List (List Nat)) (k : Nat) : (txU T k).length ≤ 100 := by
  unfold txU; split <;> simp; omega
theorem fits_snoc (L : List Fld) : ∀ (n m : Nat) (a : Int) (p : Fld), fits n m a L = true → L.length < n → sumB L + p.2.length ≤ m → (∀ q ∈ L, q.1 < p.1) → a < p.1 → p.1 ≤ 200 → fits n m a (L ++ [p]) = true := by
  induction L with
  | nil => intro n m a p _ h1 h2 _ h3 h4; simp [fits, takeOk]; simp [sumB] at h2; simp at h1; omega
  | cons q L ih =>
    intro n m a p h h1 h2 h3 h4 h5
    simp only [fits, Bool.and_eq_true, List.cons_append] at h ⊢
    have hq := h.1
    simp only [takeOk, decide_eq_true_eq] at hq
    simp only [List.length_cons, sumB] at h1 h2
    exact ⟨h.1, ih _ _ _ _ h.2 (by omega) (by omega) (fun r hr => h3 r (by simp [hr])) (h3 q (by simp)) h5⟩
theorem sumB_append (L : List Fld) (p : Fld) : sumB (L ++ [p]) = sumB L + p.2.length := by
  induction L with
  | nil => simp [sumB]
  | cons q L ih => simp only [List.cons_append, sumB, ih]; omega
theorem madeU_right (gaps : List Nat) (T : List (List Nat)) : ∀ k, k ≤ 20 → rightF (madeU gaps T k) = true ∧ sumB (madeU gaps T k) ≤ 100 * k ∧ ∀ q ∈ madeU gaps T k, q.1 ≤ (tgU gaps k : Int) := by
  intro k
  induction k with
  | zero => intro _; exact ⟨rfl, Nat.le_refl _, fun q hq => by simp [madeU] at hq⟩
  | succ k ih =>
    intro hk
    obtain ⟨h1, h2, h3⟩ := ih (by omega)
    have hx := txU_le T k
    have ht := tgU_le gaps (k + 1)
    have hlt : tgU gaps k < tgU gaps (k + 1) := by simp only [tgU]; omega
    rw [madeU_succ]
    refine ⟨fits_snoc _ _ _ _ _ h1 (by rw [madeU_length]; omega) (by dsimp only; omega) (fun q hq => by have := h3 q hq; dsimp only; omega) (by dsimp only; omega) (by dsimp only; omega), by rw [sumB_append]; dsimp only; omega, fun q hq => ?_⟩
    rcases List.mem_append.1 hq with h | h
    · have := h3 q h; omega
    · simp only [List.mem_singleton] at h; subst h; exact Int.le_refl _
theorem madeF_right (gaps : List Nat) (T : List (List Nat)) : rightF (madeF gaps T) = true := (madeU_right gaps T _ (Nat.min_le_right _ _)).1

end Go.Proofs.Yteaeedhhdnkldaa
