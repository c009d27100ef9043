/-
  PLAIN and small contracts for fermatalaw02.FieldWrong: lists of fields that are not right; one more field behind shared ones; wants by hand.
-/
import Derived.Test.YtlohggdabpfkhaaFieldSet
import Derived.Test.YtlohggdabpfkhaaFieldSuit
import Derived.Test.YtlohggdabpfkhaaAwake02
namespace Go.Proofs.Ytlohggdabpfkhaa
open Go.RowKit Pl

theorem made_under (gaps : List Nat) (T : List (List Nat)) : (madeF gaps T).length ≤ 20 ∧ sumB (madeF gaps T) ≤ 2000 ∧ ∀ q ∈ madeF gaps T, q.1 ≤ 180 := by
  obtain ⟨_, h2, h3⟩ := madeU_right gaps T (min gaps.length 20) (Nat.min_le_right _ _)
  have h4 := madeU_length gaps T (min gaps.length 20)
  have h5 := tgU_le gaps (min gaps.length 20)
  have h6 := Nat.min_le_right gaps.length 20
  unfold madeF
  exact ⟨by omega, by omega, fun q hq => by have := h3 q hq; omega⟩
/-- The last tag. -/
def lastT : Int → List Fld → Int
  | a, [] => a
  | _, p :: L => lastT p.1 L
theorem tagsF_append (L M : List Fld) : ∀ a, tagsF a (L ++ M) = (tagsF a L && tagsF (lastT a L) M) := by
  induction L with
  | nil => intro a; simp [tagsF, lastT]
  | cons p L ih => intro a; simp only [List.cons_append, tagsF, lastT, ih, Bool.and_assoc]
theorem lastT_get (L : List Fld) : ∀ a, L.length ≠ 0 → lastT a L = ft L (L.length - 1) := by
  induction L with
  | nil => intro a h; simp at h
  | cons p L ih =>
    intro a _
    by_cases h : L.length = 0
    · have : L = [] := List.eq_nil_of_length_eq_zero h
      subst this; rfl
    · rw [lastT, ih p.1 h]
      obtain ⟨n, hn⟩ : ∃ n, L.length = n + 1 := ⟨L.length - 1, by omega⟩
      simp [ft, hn]
theorem lastT_le (L : List Fld) (h : ∀ q ∈ L, q.1 ≤ 180) (h0 : ∀ q ∈ L, 0 < q.1) : 0 ≤ lastT 0 L ∧ lastT 0 L ≤ 180 := by
  by_cases hl : L.length = 0
  · have : L = [] := List.eq_nil_of_length_eq_zero hl
    subst this; simp [lastT]
  · rw [lastT_get L 0 hl]
    have hm : (ft L (L.length - 1), fb L (L.length - 1)) ∈ L := fld_mem (by omega)
    have h1 := h _ hm
    have h2 := h0 _ hm
    dsimp only at h1 h2
    omega
theorem not_right {B : List Fld} (h : ¬ (B.length ≤ 64 ∧ tagsF 0 B = true ∧ sumB B ≤ 16384)) : rightF B = false := by
  cases hr : rightF B with
  | false => rfl
  | true => exact absurd ((rightF_iff B).1 hr) h
theorem wrong_last (m : List Fld) (t : Int) (l : List Nat) (h : t ≤ lastT 0 m ∨ 200 < t) : rightF (m ++ [(t, l)]) = false := not_right fun hh => by
  have h2 := hh.2.1
  rw [tagsF_append] at h2
  simp only [tagsF, Bool.and_eq_true, decide_eq_true_eq] at h2
  omega
theorem wrong_first (m : List Fld) (t : Int) (l : List Nat) (h : t ≤ 0) : rightF ((t, l) :: m) = false := not_right fun hh => by
  have h2 := hh.2.1
  simp only [tagsF, Bool.and_eq_true, decide_eq_true_eq] at h2
  omega
theorem wrong_twice (m : List Fld) (t : Int) (l l' : List Nat) : rightF (m ++ [(t, l), (t, l')]) = false := not_right fun hh => by
  have h2 := hh.2.1
  rw [tagsF_append] at h2
  simp only [tagsF, Bool.and_eq_true, decide_eq_true_eq] at h2
  omega
theorem wrong_size (m : List Fld) (t : Int) (l : List Nat) (h : 16384 < l.length) : rightF (m ++ [(t, l)]) = false := not_right fun hh => by
  have h2 := hh.2.2
  rw [sumB_append] at h2
  dsimp only at h2
  omega
theorem wrong_many (B : List Fld) (h : 64 < B.length) : rightF B = false := not_right fun hh => by have := hh.1; omega

theorem FShare.up {w0 w1 w : World} {base : Nat} {v : Value} {L : List Fld} (h : FShare w0 w base v L) (hb : Below w0.heap.size w0 w1) : FShare w1 w base v L := by
  obtain ⟨V, h1, h2, h3⟩ := h
  exact ⟨V, h1, h2, fun i hi => (h3 i hi).below hb⟩
theorem cell_new (w : World) (cs : Array Value) (e : TypeId) (i : Nat) : (w.alloc (.cells cs e)).cell? ⟨w.heap.size, i, none⟩ = cs[i]? := by
  have hn := World.alloc_heap_new w (.cells cs e)
  generalize w.alloc (.cells cs e) = W at *
  simp [World.cell?, hn]
/-- One field written by hand. -/
theorem share_one {w : World} {t : Int} {a : Option Addr} {c : Nat} {l : List Nat} {base : Nat} (hb : base ≤ w.heap.size) (h : BRow w (.slice a l.length c) l) : FShare w (w.alloc (.cells #[.int .i64 t, .slice a l.length c] 25)) base (.slice (some ⟨w.heap.size, 0, none⟩) 1 1) [(t, l)] :=
  ⟨[.slice a l.length c], rfl, World.ownsRow_lit w _ 1 hb (by unfold maxLen; omega) rfl, fun i hi => by
    obtain rfl : i = 0 := by simpa using hi
    exact h⟩
theorem share_none {w : World} {base : Nat} (hb : base ≤ w.heap.size) : FShare w (w.alloc (.cells #[] 25)) base (.slice (some ⟨w.heap.size, 0, none⟩) 0 0) [] :=
  ⟨[], rfl, World.ownsRow_lit w _ 0 hb (Nat.zero_le _) rfl, fun _ hi => absurd hi (Nat.not_lt_zero _)⟩
/-- A ROW OF THE CALL's OWN THAT HOLDS FIELDS WHOSE BYTES ARE AS P SAYS. -/
def FShP (P : Value → List Nat → Prop) (w : World) (base : Nat) (v : Value) (L : List Fld) : Prop :=
  ∃ V : List Value, V.length = L.length ∧ w.ownsRow base 25 2 v L.length (fcells L V) ∧ ∀ i < L.length, P (V.getD i undef) (fb L i)
/-- A row that is appended. -/
def XRow (P : Value → List Nat → Prop) (w : World) (x : Value) (M : List Fld) : Prop :=
  ∃ (ad : Option Addr) (cap : Nat) (U : List Value), x = .slice ad M.length cap ∧ U.length = M.length ∧ (∀ i < M.length, P (U.getD i undef) (fb M i)) ∧ (ad = none → M = []) ∧ (∀ a, ad = some a → ∀ j u, (fcells M U)[j]? = some u → w.cell? (a.add j) = some u) ∧ ∀ u ∈ fcells M U, u.oneCell' = true
theorem FShP.of {w0 w : World} {base : Nat} {v : Value} {L : List Fld} (h : FShare w0 w base v L) : FShP (BRow w0) w base v L := h
theorem FShP.imp {P Q : Value → List Nat → Prop} {w : World} {base : Nat} {v : Value} {L : List Fld} (h : FShP P w base v L) (hq : ∀ x l, P x l → Q x l) : FShP Q w base v L := by
  obtain ⟨V, h1, h2, h3⟩ := h
  exact ⟨V, h1, h2, fun i hi => hq _ _ (h3 i hi)⟩
theorem FShP.below {P : Value → List Nat → Prop} {w w' : World} {base : Nat} {v : Value} {L : List Fld} (h : FShP P w base v L) (hb : Below w.heap.size w w') : FShP P w' base v L := by
  obtain ⟨V, h1, h2, h3⟩ := h
  exact ⟨V, h1, ownsRow_below h2 hb, h3⟩
theorem FShP.lt {P : Value → List Nat → Prop} {w : World} {base : Nat} {v : Value} {L : List Fld} (h : FShP P w base v L) : ∀ k, v.ownBlock = some k → base ≤ k ∧ k < w.heap.size := by
  obtain ⟨V, _, h2, _⟩ := h
  exact h2.lt
theorem fcells_one {M : List Fld} {U : List Value} (hU : U.length = M.length) (h : ∀ i < M.length, (U.getD i undef).oneCell' = true) : ∀ u ∈ fcells M U, u.oneCell' = true := by
  intro u hu
  obtain ⟨j, hj⟩ := List.mem_iff_getElem?.1 hu
  have hlen := fcells_length M U hU
  have hjl : j < M.length * 2 := by rw [← hlen]; exact (List.getElem?_eq_some_iff.1 hj).1
  obtain ⟨e1, e2⟩ := fcells_get M U hU (j / 2) (by omega)
  rcases Nat.mod_two_eq_zero_or_one j with hm | hm
  · rw [show j / 2 * 2 = j by omega] at e1
    rw [e1] at hj
    cases hj
    rfl
  · rw [show j / 2 * 2 + 1 = j by omega] at e2
    rw [e2] at hj
    cases hj
    exact h _ (by omega)
theorem FShP.arg {P : Value → List Nat → Prop} {w : World} {base : Nat} {v : Value} {L : List Fld} (h : FShP P w base v L) (hP : ∀ x l, P x l → x.oneCell' = true) : XRow P w v L := by
  obtain ⟨V, h1, h2, h3⟩ := h
  rcases h2.2 with ⟨rfl, h0⟩ | ⟨g, cap, cur, rfl, _⟩
  · have : L = [] := List.eq_nil_of_length_eq_zero h0
    subst this
    exact ⟨none, 0, V, rfl, h1, h3, fun _ => rfl, fun a e => by simp at e, fcells_one h1 fun i hi => absurd hi (Nat.not_lt_zero _)⟩
  · exact ⟨some ⟨g, 0, none⟩, cap, V, rfl, h1, h3, fun e => by simp at e, fun a e => by cases e; exact h2.cells (g := g) rfl, fcells_one h1 fun i hi => hP _ _ (h3 i hi)⟩
theorem FShP.append {P : Value → List Nat → Prop} {w' : World} {base : Nat} {v' : Value} {L M : List Fld} {V U : List Value} (hV1 : V.length = L.length) (hV3 : ∀ i < L.length, P (V.getD i undef) (fb L i)) (hU1 : U.length = M.length) (hU3 : ∀ i < M.length, P (U.getD i undef) (fb M i))
    (hown : w'.ownsRow base 25 2 v' (L.length + M.length) (fcells L V ++ fcells M U)) : FShP P w' base v' (L ++ M) := by
  refine ⟨V ++ U, by simp [hV1, hU1], ?_, fun i hi => ?_⟩
  · rw [fcells_append _ _ _ _ hV1, List.length_append]; exact hown
  · simp only [List.length_append] at hi
    by_cases h : i < L.length
    · have e1 : (V ++ U).getD i undef = V.getD i undef := by simp [List.getD_eq_getElem?_getD, List.getElem?_append_left (show i < V.length by omega)]
      have e2 : fb (L ++ M) i = fb L i := by simp [fb, List.getD_eq_getElem?_getD, List.getElem?_append_left h]
      rw [e1, e2]; exact hV3 i h
    · have e1 : (V ++ U).getD i undef = U.getD (i - L.length) undef := by simp [List.getD_eq_getElem?_getD, List.getElem?_append_right (show V.length ≤ i by omega), hV1]
      have e2 : fb (L ++ M) i = fb M (i - L.length) := by simp [fb, List.getD_eq_getElem?_getD, List.getElem?_append_right (show L.length ≤ i by omega)]
      rw [e1, e2]; exact hU3 _ (by omega)
theorem run_appendP (P : Value → List Nat → Prop) (w : World) (ty : TypeId) (base : Nat) (hbase : base ≤ w.heap.size) (v : Value) (L : List Fld) (hown : FShP P w base v L) (x : Value) (M : List Fld) (hx : XRow P w x M) (hl : L.length + M.length ≤ 100000) :
    ∃ v' w', (Builtin.append_ #[22, 22] ty #[v, x]).run Try.prog w = .ok v' w' ∧ FShP P w' base v' (L ++ M) ∧ w.grownBy w' v.ownBlock := by
  obtain ⟨i0, hi, hz0, hz1, hz2⟩ := info_parts info_field
  obtain ⟨V, hV1, hV2, hV3⟩ := hown
  obtain ⟨ad, c, U, rfl, hU1, hU3, hn, hcells, h1⟩ := hx
  cases ad with
  | some ad =>
    obtain ⟨v', w', hr, ho, hg, _⟩ := run_append_own (P := Try.prog) w base 22 ty 25 i0 (.agg #[.int .i64 0, .slice none 0 0]) 2 32 Try.underlying22 hi hz0 hz1 hz2 rfl (by decide) v L.length (fcells L V) hV2 ad M.length c (fcells M U) (fcells_length M U hU1) (hcells ad rfl) h1 (by unfold maxLen; omega) (by omega) hbase
    exact ⟨v', w', hr, FShP.append hV1 hV3 hU1 hU3 ho, hg⟩
  | none =>
    have hM := hn rfl
    subst hM
    refine ⟨v, w, ?_, by rw [List.append_nil]; exact ⟨V, hV1, hV2, hV3⟩, ⟨rfl, rfl, rfl, Nat.le_refl _, fun _ _ _ => rfl⟩⟩
    rcases hV2.2 with ⟨rfl, _⟩ | ⟨g, cap, cur, rfl, _, hg, hnc, _⟩
    · simp [Builtin.append_, run_underlying Try.underlying22, sizeOf, typeInfo, hi, Builtin.lenOf, Builtin.firstCells]
    · simp [Builtin.append_, run_underlying Try.underlying22, sizeOf, typeInfo, hi, Builtin.lenOf, Builtin.firstCells, hnc, storeCells]
/-- THE LAW FOR THE WALK. -/
theorem wpList_appendP {ops : Array Oper} {rest : List Oper} {o : Oper} {a : Act} {w : World} {Q : Exit → Act → World → Prop} (hgd : o.guard = none) (s x : Operand)
    (ho : o.op = .call { callee := .builtin .append, args := #[s, x], argTypes := #[22, 22] })
    (P : Value → List Nat → Prop) (base : Nat) (v : Value) (L : List Fld) (hs : a.eval s = v) (hown : FShP P w base v L) (xv : Value) (M : List Fld) (hx : a.eval x = xv) (hrow : XRow P w xv M)
    (hl : L.length + M.length ≤ 100000) (hbase : base ≤ w.heap.size)
    (h : ∀ v' w', FShP P w' base v' (L ++ M) → w.grownBy w' v.ownBlock → wpList Try.prog ops Q rest (a.put o.dst v') w') : wpList Try.prog ops Q (o :: rest) a w :=
  wpList_plain hgd fun K hK => by
    obtain ⟨v', w', hr, h2, h3⟩ := run_appendP P w o.type base hbase v L hown xv M hrow hl
    unfold Oper.wp execOp
    simp only [ho, resolve, invoke, builtin, Sem.run_bind, Sem.run_pure, Result.andThen_ok, List.map_toArray, List.map_cons, List.map_nil, hs, hx, hr]
    exact hK _ _ (h v' w' h2 h3)
theorem FShP.row {P : Value → List Nat → Prop} {w : World} {base : Nat} {v : Value} {L : List Fld} (h : FShP P w base v L) (hP : ∀ x l, P x l → BRow w x l) (ht : ∀ p ∈ L, Tag64 p.1) : FRow w v L :=
  FShare.row (w0 := w) (base := base) (h.imp hP) (Below.refl _ _) ht
theorem lit_one {P : Value → List Nat → Prop} {w : World} {t : Int} {a : Option Addr} {c : Nat} {l : List Nat} (h : P (.slice a l.length c) l) : XRow P (w.alloc (.cells #[.int .i64 t, .slice a l.length c] 25)) (.slice (some ⟨w.heap.size, 0, none⟩) 1 1) [(t, l)] :=
  ⟨_, _, [.slice a l.length c], rfl, rfl, fun i hi => by
    obtain rfl : i = 0 := by simpa using hi
    exact h, fun e => by simp at e, fun a e => by cases e; exact cell_two_new _ _ _ _, fcells_one rfl fun i hi => by
    obtain rfl : i = 0 := by simpa using hi
    rfl⟩
theorem lit_two {P : Value → List Nat → Prop} {w : World} {t u : Int} (h : P (.slice none 0 0) []) : XRow P (w.alloc (.cells #[.int .i64 t, .slice none 0 0, .int .i64 u, .slice none 0 0] 25)) (.slice (some ⟨w.heap.size, 0, none⟩) 2 2) [(t, []), (u, [])] :=
  ⟨_, _, [.slice none 0 0, .slice none 0 0], rfl, rfl, fun i hi => by
    rcases (show i = 0 ∨ i = 1 by simp at hi; omega) with rfl | rfl
    · exact h
    · exact h, fun e => by simp at e, fun a e => by
    cases e
    intro j u' hj
    have hadd : (⟨w.heap.size, 0, none⟩ : Addr).add j = ⟨w.heap.size, 0 + j, none⟩ := by unfold Addr.add; split <;> simp_all
    rw [hadd, Nat.zero_add, cell_new]
    simpa [fcells] using hj, fcells_one rfl fun i hi => by
    rcases (show i = 0 ∨ i = 1 by simp at hi; omega) with rfl | rfl
    · rfl
    · rfl⟩
theorem lit_own {P : Value → List Nat → Prop} {w : World} {t : Int} {a : Option Addr} {c : Nat} {l : List Nat} {base : Nat} (hb : base ≤ w.heap.size) (h : P (.slice a l.length c) l) : FShP P (w.alloc (.cells #[.int .i64 t, .slice a l.length c] 25)) base (.slice (some ⟨w.heap.size, 0, none⟩) 1 1) [(t, l)] :=
  ⟨[.slice a l.length c], rfl, World.ownsRow_lit w _ 1 hb (by unfold maxLen; omega) rfl, fun i hi => by
    obtain rfl : i = 0 := by simpa using hi
    exact h⟩
theorem fshp_nil (P : Value → List Nat → Prop) (w : World) (base : Nat) : FShP P w base (.slice none 0 0) [] := ⟨[], rfl, World.ownsRow_nil _ _ _ _, fun _ hi => absurd hi (Nat.not_lt_zero _)⟩
theorem brow_one {w : World} {x : Value} {l : List Nat} (h : BRow w x l) : x.oneCell' = true := by
  obtain ⟨a, c, rfl⟩ := h.shape
  rfl
theorem brow_nil (w : World) : BRow w (.slice none 0 0) [] := ⟨fun d hd => by simp at hd, .inl ⟨none, 0, rfl, rfl, Nat.zero_le _⟩⟩
theorem row_one {w : World} {t : Int} {a : Option Addr} {c : Nat} {l : List Nat} (ht : Tag64 t) (h : BRow w (.slice a l.length c) l) : FRow (w.alloc (.cells #[.int .i64 t, .slice a l.length c] 25)) (.slice (some ⟨w.heap.size, 0, none⟩) 1 1) [(t, l)] := by
  exact frow_one (by rw [cell_new]; rfl) (by rw [cell_new]; rfl) ht (h.below ((Below.refl _ w).alloc (Nat.le_refl _) _))
theorem row_two {w : World} {t u : Int} (ht : Tag64 t) (hu : Tag64 u) : FRow (w.alloc (.cells #[.int .i64 t, .slice none 0 0, .int .i64 u, .slice none 0 0] 25)) (.slice (some ⟨w.heap.size, 0, none⟩) 2 2) [(t, []), (u, [])] := by
  refine ⟨fun p hp => ?_, .inr ⟨w.heap.size, 0, 2, fun _ => none, fun _ => 0, rfl, Nat.le_refl _, by unfold maxLen; omega, fun i hi => ?_⟩⟩
  · rcases List.mem_cons.1 hp with rfl | hp
    · exact ht
    · simp only [List.mem_singleton] at hp; rw [hp]; exact hu
  · rcases (show i = 0 ∨ i = 1 by simp at hi; omega) with rfl | rfl
    · exact ⟨(cell_new _ _ _ _).trans rfl, (cell_new _ _ _ _).trans rfl, brow_nil _⟩
    · exact ⟨(cell_new _ _ _ _).trans rfl, (cell_new _ _ _ _).trans rfl, brow_nil _⟩
theorem wrow_two {w : World} {t u : Int} : WRow (w.alloc (.cells #[.int .i64 t, .bool false, .int .i64 0, .int .i64 0, .int .i64 u, .bool false, .int .i64 0, .int .i64 0] 32)) (.slice (some ⟨w.heap.size, 0, none⟩) 2 2) [⟨t, false, 0, 0⟩, ⟨u, false, 0, 0⟩] := by
  refine .inr ⟨w.heap.size, 0, 2, rfl, Nat.le_refl _, by unfold maxLen; omega, fun i hi => ?_⟩
  rcases (show i = 0 ∨ i = 1 by simp at hi; omega) with rfl | rfl
  · exact ⟨(cell_new _ _ _ _).trans rfl, (cell_new _ _ _ _).trans rfl, (cell_new _ _ _ _).trans rfl, (cell_new _ _ _ _).trans rfl⟩
  · exact ⟨(cell_new _ _ _ _).trans rfl, (cell_new _ _ _ _).trans rfl, (cell_new _ _ _ _).trans rfl, (cell_new _ _ _ _).trans rfl⟩
theorem wrow_one {w : World} {t a b : Int} : WRow (w.alloc (.cells #[.int .i64 t, .bool false, .int .i64 a, .int .i64 b] 32)) (.slice (some ⟨w.heap.size, 0, none⟩) 1 1) [⟨t, false, a, b⟩] := by
  refine .inr ⟨w.heap.size, 0, 1, rfl, Nat.le_refl _, by unfold maxLen; omega, fun i hi => ?_⟩
  obtain rfl : i = 0 := by simpa using hi
  exact ⟨(cell_new _ _ _ _).trans rfl, (cell_new _ _ _ _).trans rfl, (cell_new _ _ _ _).trans rfl, (cell_new _ _ _ _).trans rfl⟩
theorem wants_wrong (t : Int) (h : t ≤ 5) : rightW [⟨5, false, 0, 0⟩, ⟨t, false, 0, 0⟩] = false := by
  simp [rightW, wfits, takeOk, limOk]; omega
theorem want_wrong : rightW [⟨1, false, 5, 4⟩] = false := rfl
theorem suit_notright (v u : Value) (F : List Fld) (L : List Wnt) (w : World) (h : FRow w v F) (h2 : WRow w u L) (hr : rightF F = false) :
    Calls Try.prog 21 #[v, u] w fun e w' => e = .returned (.tuple #[.int .i64 0, .int .i64 20]) ∧ Below w.heap.size w w' := by
  have := suit_calls v u F L w h h2
  rw [show suitF F L = some (0, 20) by unfold suitF; rw [if_pos hr]] at this
  exact this
theorem suit_wants (v u : Value) (F : List Fld) (L : List Wnt) (w : World) (h : FRow w v F) (h2 : WRow w u L) (hr : rightF F = true) (hw : rightW L = false) :
    Calls Try.prog 21 #[v, u] w fun e w' => e = .returned (.tuple #[.int .i64 0, .int .i64 22]) ∧ Below w.heap.size w w' := by
  have := suit_calls v u F L w h h2
  rw [show suitF F L = some (0, 22) by unfold suitF; rw [if_neg (by rw [hr]; simp), if_pos hw]] at this
  exact this
theorem write_no (v : Value) (L : List Fld) (w : World) (h : FRow w v L) (hr : rightF L = false) :
    Calls Try.prog 52 #[v] w fun e w' => e = .returned (.tuple #[.slice none 0 0, .int .i64 20]) ∧ Below w.heap.size w w' :=
  (write_calls v L w h).mono fun e w' hh => by
    obtain ⟨v', er, rfl, hb, ⟨_, rfl, rfl⟩ | ⟨h1, _⟩⟩ := hh
    · exact ⟨rfl, hb⟩
    · rw [hr] at h1; cases h1
end Go.Proofs.Ytlohggdabpfkhaa
