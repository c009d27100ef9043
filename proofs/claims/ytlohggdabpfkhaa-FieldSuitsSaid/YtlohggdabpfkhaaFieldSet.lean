/-
  CONTRACT of field.Set: fields with one of them replaced, or added, in memory of their own; nothing that was there is written.
-/
import Derived.Test.YtlohggdabpfkhaaFieldConcat
import Derived.Test.YtlohggdabpfkhaaSetP
namespace Go.Proofs.Ytlohggdabpfkhaa
open Go.RowKit Pl

theorem FShare.row {w0 w : World} {base : Nat} {v : Value} {L : List Fld} (h : FShare w0 w base v L) (hb : Below w0.heap.size w0 w) (ht : ∀ p ∈ L, Tag64 p.1) : FRow w v L := by
  obtain ⟨V, hV1, hV2, hV3⟩ := h
  refine ⟨ht, ?_⟩
  rcases hV2.2 with ⟨rfl, h0⟩ | ⟨g, cap, cur, rfl, h1, h2, h3, h4, h5, h6⟩
  · exact .inl ⟨none, 0, rfl, List.eq_nil_of_length_eq_zero h0, Nat.zero_le _⟩
  · refine .inr ⟨g, 0, cap, fun i => match V.getD i undef with | .slice a _ _ => a | _ => none, fun i => match V.getD i undef with | .slice _ _ c => c | _ => 0, rfl, h3, h4, fun i hi => ?_⟩
    have hc := hV2.cells (g := g) rfl
    obtain ⟨e1, e2⟩ := fcells_get L V hV1 i hi
    have hadd : ∀ j, (⟨g, 0, none⟩ : Addr).add j = ⟨g, 0 + j, none⟩ := fun j => by unfold Addr.add; split <;> simp_all
    obtain ⟨a, c, hs⟩ := (hV3 i hi).shape
    have r := (hV3 i hi).below hb
    have d1 := hc _ _ e1
    have d2 := hc _ _ e2
    rw [hadd] at d1 d2
    rw [hs] at d2 r
    dsimp only
    rw [hs]
    refine ⟨d1, ?_, r⟩
    rw [Nat.add_assoc]
    exact d2
theorem FShare.below {w0 w w' : World} {base : Nat} {v : Value} {L : List Fld} (h : FShare w0 w base v L) (hb : Below w.heap.size w w') : FShare w0 w' base v L := by
  obtain ⟨V, h1, h2, h3⟩ := h
  exact ⟨V, h1, ownsRow_below h2 hb, h3⟩
theorem mem_setR {t : Int} {l : List Nat} {L : List Fld} {P : Fld → Prop} (hL : ∀ p ∈ L, P p) (ht : P (t, l)) : ∀ p ∈ setR t l L, P p := by
  induction L with
  | nil => intro p hp; simp only [setR, List.mem_singleton] at hp; rw [hp]; exact ht
  | cons q L ih =>
    intro p hp
    rw [setR] at hp
    split at hp
    · rcases List.mem_cons.1 hp with rfl | hp
      · exact hL _ (by simp)
      · exact ih (fun r hr => hL r (by simp [hr])) p hp
    · split at hp
      · rcases List.mem_cons.1 hp with rfl | hp
        · exact ht
        · exact hL _ (by simp [hp])
      · rcases List.mem_cons.1 hp with rfl | hp
        · exact ht
        · exact hL _ hp

theorem frow_one {W : World} {g : Nat} {t : Int} {a : Option Addr} {c : Nat} {l : List Nat} (h0 : W.cell? ⟨g, 0, none⟩ = some (.int .i64 t)) (h1 : W.cell? ⟨g, 1, none⟩ = some (.slice a l.length c)) (ht : Tag64 t) (hb : BRow W (.slice a l.length c) l) : FRow W (.slice (some ⟨g, 0, none⟩) 1 1) [(t, l)] :=
  ⟨fun p hp => by simp only [List.mem_singleton] at hp; rw [hp]; exact ht, .inr ⟨g, 0, 1, fun _ => a, fun _ => c, rfl, Nat.le_refl _, by unfold maxLen; omega, fun i hi => by
    obtain rfl : i = 0 := by simpa using hi
    exact ⟨h0, h1, hb⟩⟩⟩
theorem set_three {w w2 : World} {t : Int} {l : List Nat} {a a1 a2 : Option Addr} {c c1 c2 : Nat} {L1 L2 : List Fld} (hB : Below w.heap.size w w2) (h1 : FRow w2 (.slice a1 L1.length c1) L1) (h2 : FRow w2 (.slice a2 L2.length c2) L2) (hbr : BRow w2 (.slice a l.length c) l) (ht : Tag64 t) :
    (∀ k < 3, ((w2.alloc (.cells #[.int .i64 t, .slice a l.length c] 25)).alloc (.cells #[.slice a1 L1.length c1, .slice (some ⟨w2.heap.size, 0, none⟩) 1 1, .slice a2 L2.length c2] 22)).cell? ⟨w2.heap.size + 1, k, none⟩ = some ([Value.slice a1 L1.length c1, .slice (some ⟨w2.heap.size, 0, none⟩) 1 1, .slice a2 L2.length c2].getD k undef) ∧
      FRow ((w2.alloc (.cells #[.int .i64 t, .slice a l.length c] 25)).alloc (.cells #[.slice a1 L1.length c1, .slice (some ⟨w2.heap.size, 0, none⟩) 1 1, .slice a2 L2.length c2] 22)) ([Value.slice a1 L1.length c1, .slice (some ⟨w2.heap.size, 0, none⟩) 1 1, .slice a2 L2.length c2].getD k undef) ([L1, [(t, l)], L2].getD k [])) ∧
    Below w.heap.size w ((w2.alloc (.cells #[.int .i64 t, .slice a l.length c] 25)).alloc (.cells #[.slice a1 L1.length c1, .slice (some ⟨w2.heap.size, 0, none⟩) 1 1, .slice a2 L2.length c2] 22)) := by
  have b1 := (Below.refl w2.heap.size w2).alloc (Nat.le_refl _) (.cells #[.int .i64 t, .slice a l.length c] 25)
  have b2 := b1.alloc (by simp) (.cells #[.slice a1 L1.length c1, .slice (some ⟨w2.heap.size, 0, none⟩) 1 1, .slice a2 L2.length c2] 22)
  have hn := World.alloc_heap_new w2 (.cells #[.int .i64 t, .slice a l.length c] 25)
  have hm := World.alloc_heap_new (w2.alloc (.cells #[.int .i64 t, .slice a l.length c] 25)) (.cells #[.slice a1 L1.length c1, .slice (some ⟨w2.heap.size, 0, none⟩) 1 1, .slice a2 L2.length c2] 22)
  rw [World.size_alloc] at hm
  have ho := (((Below.refl _ (w2.alloc (.cells #[.int .i64 t, .slice a l.length c] 25))).alloc (Nat.le_refl _) (.cells #[.slice a1 L1.length c1, .slice (some ⟨w2.heap.size, 0, none⟩) 1 1, .slice a2 L2.length c2] 22)).block w2.heap.size (by simp)).trans hn
  generalize (w2.alloc (.cells #[.int .i64 t, .slice a l.length c] 25)).alloc (.cells #[.slice a1 L1.length c1, .slice (some ⟨w2.heap.size, 0, none⟩) 1 1, .slice a2 L2.length c2] 22) = W at *
  refine ⟨fun k hk => ?_, hB.trans (b2.mono hB.size)⟩
  have f0 : W.cell? ⟨w2.heap.size, 0, none⟩ = some (.int .i64 t) := by simp [World.cell?, ho]
  have f1 : W.cell? ⟨w2.heap.size, 1, none⟩ = some (.slice a l.length c) := by simp [World.cell?, ho]
  rcases (show k = 0 ∨ k = 1 ∨ k = 2 by omega) with rfl | rfl | rfl
  · exact ⟨by simp [World.cell?, hm], h1.below b2⟩
  · exact ⟨by simp [World.cell?, hm], frow_one f0 f1 ht (hbr.below b2)⟩
  · exact ⟨by simp [World.cell?, hm], h2.below b2⟩

/-- The first k fields of the own row have bytes of their own; the bytes of the others lie in Wc. -/
def SetInv (Wc : World) (base g cap : Nat) (M : List Fld) (k : Nat) (w : World) : Prop :=
  ∃ V : List Value, V.length = M.length ∧ w.ownsRow base 25 2 (.slice (some ⟨g, 0, none⟩) M.length cap) M.length (fcells M V) ∧ (∀ i < k, Own8 w base (V.getD i undef) (fb M i)) ∧ ∀ i, k ≤ i → i < M.length → BRow Wc (V.getD i undef) (fb M i)
theorem SetInv.below {Wc w w' : World} {base g cap : Nat} {M : List Fld} {k : Nat} (h : SetInv Wc base g cap M k w) (hb : Below w.heap.size w w') : SetInv Wc base g cap M k w' := by
  obtain ⟨V, h1, h2, h3, h4⟩ := h
  exact ⟨V, h1, ownsRow_below h2 hb, fun i hi => ownsRow_below (h3 i hi) hb, h4⟩
theorem SetInv.cells {Wc w : World} {base g cap : Nat} {M : List Fld} {k : Nat} (h : SetInv Wc base g cap M k w) (hk : k < M.length) :
    ∃ a c, w.cell? ⟨g, k * 2, none⟩ = some (.int .i64 (ft M k)) ∧ w.cell? ⟨g, k * 2 + 1, none⟩ = some (.slice a (fb M k).length c) ∧ BRow Wc (.slice a (fb M k).length c) (fb M k) := by
  obtain ⟨V, h1, h2, h3, h4⟩ := h
  have hc := h2.cells (g := g) rfl
  obtain ⟨e1, e2⟩ := fcells_get M V h1 k hk
  have hadd : ∀ j, (⟨g, 0, none⟩ : Addr).add j = ⟨g, 0 + j, none⟩ := fun j => by unfold Addr.add; split <;> simp_all
  have r := h4 k (Nat.le_refl _) hk
  obtain ⟨a, c, hs⟩ := r.shape
  have d1 := hc _ _ e1
  have d2 := hc _ _ e2
  rw [hadd, Nat.zero_add] at d1 d2
  rw [hs] at d2 r
  exact ⟨a, c, d1, d2, r⟩

theorem SetInv.frozen {Wc w : World} {base g cap : Nat} {M : List Fld} {k : Nat} (h : SetInv Wc base g cap M k w) (i : Nat) : w.frozen? ⟨g, i, none⟩ = false := by
  obtain ⟨V, h1, h2, h3, h4⟩ := h
  rcases h2.2 with ⟨e, _⟩ | ⟨g', cap', cur, e, _, hg, _⟩
  · simp at e
  · simp only [Value.slice.injEq, Option.some.injEq, Addr.mk.injEq, and_true, true_and] at e
    obtain ⟨rfl, rfl⟩ := e
    simp [World.frozen?, hg]
theorem fcells_set (M : List Fld) : ∀ (V : List Value) (k : Nat) (u : Value), V.length = M.length → fcells M (V.set k u) = (fcells M V).set (k * 2 + 1) u := by
  induction M with
  | nil => intro V k u h; have : V = [] := List.eq_nil_of_length_eq_zero (by simpa using h); subst this; simp [fcells]
  | cons p M ih =>
    intro V k u h
    cases V with
    | nil => simp at h
    | cons x V =>
      cases k with
      | zero => simp [fcells]
      | succ k =>
        rw [show (k + 1) * 2 + 1 = (k * 2 + 1) + 1 + 1 by omega]
        simp only [List.set_cons_succ, fcells, ih V k u (by simpa using h)]
theorem SetInv.step {Wc w : World} {base base' g cap : Nat} {M : List Fld} {k : Nat} {u : Value} (h : SetInv Wc base g cap M k w) (hk : k < M.length) (ho : Own8 w base' u (fb M k)) (hbb : base ≤ base') :
    SetInv Wc base g cap M (k + 1) ((w.setCell ⟨g, k * 2, none⟩ (.int .i64 (ft M k))).setCell ⟨g, k * 2 + 1, none⟩ u) := by
  obtain ⟨V, h1, h2, h3, h4⟩ := h
  have hlen := fcells_length M V h1
  have hfs := fcells_set M V k u h1
  obtain ⟨e1, -⟩ := fcells_get M V h1 k hk
  rcases h2.2 with ⟨e, _⟩ | ⟨g', cap', cur, e, q1, hg, q2, q3, q4, q5⟩
  · simp at e
  · simp only [Value.slice.injEq, Option.some.injEq, Addr.mk.injEq, and_true, true_and] at e
    obtain ⟨rfl, rfl⟩ := e
    have hW := setCell_cells (setCell_cells hg (k * 2) (.int .i64 (ft M k))) (k * 2 + 1) u
    have hne : ∀ (b : Nat) (x : Value) (l : List Nat), Own8 w b x l → x.ownBlock ≠ some g := fun b x l hx => by
      rcases hx.2 with ⟨rfl, _⟩ | ⟨g2, c2, cur2, rfl, _, hg2, _⟩
      · simp [Value.ownBlock]
      · intro e
        simp only [Value.ownBlock, Option.some.injEq] at e
        subst e
        rw [hg] at hg2
        simp at hg2
    have keep : ∀ (b : Nat) (x : Value) (l : List Nat), Own8 w b x l → Own8 ((w.setCell ⟨g, k * 2, none⟩ (.int .i64 (ft M k))).setCell ⟨g, k * 2 + 1, none⟩ u) b x l := fun b x l hx =>
      (hx.kept (grownBy_setCell w g (k * 2) _) (.inr (hne b x l hx))).kept (grownBy_setCell _ g (k * 2 + 1) _) (.inr (hne b x l hx))
    refine ⟨V.set k u, by simp [h1], ⟨by rw [hfs, List.length_set, hlen], .inr ⟨g, cap, _, rfl, q1, hW, q2, q3, by simpa using q4, ?_⟩⟩, fun i hi => ?_, fun i hi hi2 => ?_⟩
    · rw [hfs, ← q5]
      apply List.ext_getElem?
      intro j
      rw [List.getElem?_take]
      simp only [Array.getElem?_toList, Array.getElem?_modify, List.getElem?_set, List.length_take, Array.length_toList, List.getElem?_take]
      have e2 : cur[k * 2]? = some (.int .i64 (ft M k)) := by
        rw [← q5, List.getElem?_take, if_pos (by omega)] at e1
        simpa using e1
      by_cases c1 : k * 2 + 1 = j
      · subst c1
        rw [if_pos (by omega), if_pos rfl, if_neg (by omega), if_pos rfl, if_pos (by omega)]
        have : (cur[k * 2 + 1]?).isSome = true := by simp; omega
        obtain ⟨z, hz⟩ := Option.isSome_iff_exists.1 this
        rw [hz]; rfl
      · by_cases c2 : k * 2 = j
        · subst c2
          rw [if_pos (by omega), if_neg c1, if_pos rfl, if_neg c1, if_pos (by omega), e2]; rfl
        · rw [if_neg c1, if_neg c2, if_neg c1]
    · by_cases c1 : i = k
      · subst c1
        have : (V.set i u).getD i undef = u := by simp [List.getD_eq_getElem?_getD, show i < V.length by omega]
        rw [this]
        exact own_base (keep _ _ _ ho) hbb
      · have : (V.set k u).getD i undef = V.getD i undef := by simp [List.getD_eq_getElem?_getD, show ¬ k = i by omega]
        rw [this]
        exact keep _ _ _ (h3 i (by omega))
    · have : (V.set k u).getD i undef = V.getD i undef := by simp [List.getD_eq_getElem?_getD, show ¬ k = i by omega]
      rw [this]
      exact h4 i (by omega) hi2
theorem SetInv.done {Wc w : World} {base base' g cap : Nat} {M : List Fld} (h : SetInv Wc base g cap M M.length w) (hbb : base' ≤ base) : FOwn w base' (.slice (some ⟨g, 0, none⟩) M.length cap) M := by
  obtain ⟨V, h1, h2, h3, h4⟩ := h
  refine ⟨V, h1, ⟨h2.1, ?_⟩, fun i hi => own_base (h3 i hi) hbb⟩
  rcases h2.2 with h0 | ⟨g', cap', cur, e, q1, q⟩
  · exact .inl h0
  · exact .inr ⟨g', cap', cur, e, Nat.le_trans hbb q1, q⟩
theorem SetInv.lt {Wc w : World} {base g cap : Nat} {M : List Fld} {k : Nat} (h : SetInv Wc base g cap M k w) : base ≤ g ∧ g < w.heap.size := by
  obtain ⟨V, h1, h2, h3, h4⟩ := h
  exact h2.lt g rfl

set_option maxRecDepth 100000 in
set_option maxHeartbeats 2000000 in
theorem set_calls (t : Int) (v : Value) (a : Option Addr) (c : Nat) (l : List Nat) (L : List Fld) (w : World) (h : FRow w v L) (ht : Tag64 t) (hbr : BRow w (.slice a l.length c) l) :
    Calls Try.prog 58 #[v, .agg #[.int .i64 t, .slice a l.length c]] w fun e w' => Below w.heap.size w w' ∧ (((rightF L && rightF (setR t l L)) = false ∧ e = .returned (.tuple #[.slice none 0 0, .int .i64 20])) ∨ ((rightF L && rightF (setR t l L)) = true ∧ ∃ v', e = .returned (.tuple #[v', .int .i64 0]) ∧ FOwn w' w.heap.size v' (setR t l L))) := by
  have hA0 := (Below.refl w.heap.size w).alloc (Nat.le_refl _) (.cells #[.int .i64 t, .slice a l.length c] 25)
  have HA0 := Lib.hid hA0
  have HF0 := Lib.hid (World.alloc_heap_new w (.cells #[.int .i64 t, .slice a l.length c] 25))
  have HS0 := Lib.hid (show (w.alloc (.cells #[.int .i64 t, .slice a l.length c] 25)).heap.size = w.heap.size + 1 by simp)
  have HR := Lib.hid (right_calls v L _ (h.below hA0))
  have H := Lib.hid h
  have HBr := Lib.hid hbr
  have HT := Lib.hid ht
  clear h ht hbr hA0
  obtain ⟨r, hr⟩ : ∃ r, rightF L = r := ⟨_, rfl⟩
  have HRe := Lib.hid hr
  obtain ⟨r3, hr3⟩ : ∃ r, rightF (setR t l L) = r := ⟨_, rfl⟩
  have HRe3 := Lib.hid hr3
  rw [hr] at HR
  rw [hr, hr3]
  clear hr hr3
  go_enter Try.func58, Try.ntmps58
  go_wp2_with fail
  refine HR.out.mono ?_
  rintro e w1 ⟨rfl, hb1⟩
  have HB1 := Lib.hid (HA0.out.trans (hb1.mono HA0.out.size))
  have hF1 := (hb1.block w.heap.size (by rw [HS0.out]; omega)).trans HF0.out
  clear hb1
  cases r with
  | false =>
    go_wp2
    go_ret2
    exact ⟨HB1.out, .inl ⟨rfl, rfl⟩⟩
  | true =>
    have e0 : w1.cell? ⟨w.heap.size, 0, none⟩ = some (.int .i64 t) := by simp [World.cell?, hF1]
    have e1 : w1.cell? ⟨w.heap.size, 1, none⟩ = some (.slice a l.length c) := by simp [World.cell?, hF1]
    have hlt1 : w.heap.size < w1.heap.size := (Array.getElem?_eq_some_iff.1 hF1).1
    have HF1 := Lib.hid hF1
    have HAr := Lib.hid (around_calls t v L w1 (H.out.below HB1.out))
    clear hF1
    go_wp2_with fail
    refine HAr.out.mono ?_
    rintro e w2 ⟨v1, v2, rfl, hfr, hb2⟩
    obtain ⟨fr1, fr2⟩ := hfr w2 (H.out.below (HB1.out.trans (hb2.mono HB1.out.size)))
    have HB2 := Lib.hid (HB1.out.trans (hb2.mono HB1.out.size))
    have e02 := (hb2.cell (p := ⟨w.heap.size, 0, none⟩) hlt1).trans e0
    have e12 := (hb2.cell (p := ⟨w.heap.size, 1, none⟩) hlt1).trans e1
    obtain ⟨a1, c1, rfl⟩ := fr1.shape
    obtain ⟨a2, c2, rfl⟩ := fr2.shape
    obtain ⟨q1, q2⟩ := set_three (t := t) (l := l) (a := a) (c := c) HB2.out fr1 fr2 (HBr.out.below HB2.out) HT.out
    have hlen := (rightF_iff L).1 HRe.out
    have HSE := Lib.hid (setF_eq t l L)
    have hsum : sumL [L.take (cutN t L), [(t, l)], L.drop (cutN t L + hitN t L)] ≤ 1000 := by
      have := length_setR t l L
      rw [← setF_eq] at this
      simp only [setF, List.length_append, List.length_cons] at this
      simp only [sumL, List.length_cons, List.length_nil]
      omega
    have HCC := Lib.hid (concatF_calls (w2.heap.size + 1) 3 _ [L.take (cutN t L), [(t, l)], L.drop (cutN t L + hitN t L)] _ rfl (by omega) hsum q1)
    have Q2 := Lib.hid q2
    have hFL : [L.take (cutN t L), [(t, l)], L.drop (cutN t L + hitN t L)].flatten = setR t l L := by rw [← setF_eq]; simp [setF]
    rw [hFL] at HCC
    clear hfr hb2 fr1 fr2 e0 e1 q1 q2 hsum hFL
    generalize (L.take (cutN t L)).length = n1 at *
    generalize (L.drop (cutN t L + hitN t L)).length = n2 at *
    go_wp2_with (go_at_call 106; refine HCC.out.mono ?_; rintro e w3 ⟨v3, rfl, hsh3, hb3⟩; have HSh3 := Lib.hid hsh3; have HB3 := Lib.hid (Q2.out.trans (hb3.mono Q2.out.size)); have HBC := Lib.hid hb3; clear hsh3 hb3)
    have htg := Lib.hid (mem_setR (l := l) H.out.1 HT.out)
    have HRow3 := Lib.hid (HSh3.out.row HBC.out htg.out)
    generalize (w2.alloc (.cells #[.int .i64 t, .slice a l.length c] 25)).alloc (.cells #[.slice a1 n1 c1, .slice (some ⟨w2.heap.size, 0, none⟩) 1 1, .slice a2 n2 c2] 22) = Wc at *
    have hne : (setR t l L).length ≠ 0 := by
      rw [← setF_eq]; simp [setF]
    have hnl := length_setR t l L
    have HR3 := Lib.hid (right_calls v3 _ w3 HRow3.out)
    rw [HRe3.out] at HR3
    obtain ⟨V, hV1, hV2, hV3⟩ := HSh3.out
    obtain ⟨g, cap, rfl⟩ : ∃ g cap, v3 = .slice (some ⟨g, 0, none⟩) (setR t l L).length cap := by
      rcases hV2.2 with ⟨_, h0⟩ | ⟨g, cap, cur, e, _⟩
      · exact absurd h0 hne
      · exact ⟨g, cap, e⟩
    have HI3 := Lib.hid (show SetInv Wc Wc.heap.size g cap (setR t l L) 0 w3 from ⟨V, hV1, hV2, fun i hi => absurd hi (Nat.not_lt_zero _), fun i _ hi => hV3 i hi⟩)
    have hml : ∀ i < (setR t l L).length, r3 = true → (fb (setR t l L) i).length ≤ 16384 := fun i hi h => (right_lens (HRe3.out.trans h)).2 i hi
    generalize hM : setR t l L = M at *
    have HMe := Lib.hid hM
    clear hM
    clear hV1 hV2 hV3 V
    cases r3 with
    | false =>
      go_wp2_with (go_at_call 55; refine HR3.out.mono ?_; rintro e w4 ⟨rfl, hb4⟩; have HB4 := Lib.hid (HB3.out.trans (hb4.mono HB3.out.size)); clear hb4)
      go_ret2
      exact ⟨HB4.out, .inl ⟨rfl, rfl⟩⟩
    | true =>
      have HML := Lib.hid (fun i hi => hml i hi rfl)
      clear hml
      go_wp2_with (go_at_call 55; refine HR3.out.mono ?_; rintro e w4 ⟨rfl, hb4⟩; have HB4 := Lib.hid (HB3.out.trans (hb4.mono HB3.out.size)); have HBC4 := Lib.hid (HBC.out.trans (hb4.mono HBC.out.size)); have HI4 := Lib.hid (HI3.out.below hb4); clear hb4)
      go_loopw [31] (fun i wr => ∃ k : Nat, k ≤ M.length ∧ i = .int .i64 k ∧ SetInv Wc Wc.heap.size g cap M k wr ∧ Below Wc.heap.size Wc wr ∧ Below w.heap.size w wr) (fun i _ => M.length - (intOf i).toNat)
      case atStart => exact ⟨0, Nat.zero_le _, rfl, HI4.out, HBC4.out, HB4.out⟩
      case round =>
        obtain ⟨k, hk, rfl, hinv, hbc, hbw⟩ := hrel
        by_cases hlt : k < M.length
        · obtain ⟨a', c', m1, m2, m3⟩ := hinv.cells hlt
          have dk : decide ((k : Int) < (M.length : Int)) = true := decide_eq_true (by omega)
          have hOC := own_calls (ft M k) (.slice a' (fb M k).length c') (fb M k) wr (m3.below hbc) (by have := HML.out k hlt; omega)
          have HOC := Lib.hid hOC
          have HInv := Lib.hid hinv
          have HBc := Lib.hid hbc
          have HBw := Lib.hid hbw
          clear hOC hinv hbc hbw m3
          go_wp2_with (go_at_call 107; refine HOC.out.mono ?_; rintro e w5 ⟨v5, rfl, ho5, hb5⟩; obtain ⟨a5, c5, rfl⟩ := owns_shape ho5; have hI5 := HInv.out.below hb5; have hf1 := hI5.frozen (k * 2); have hf2 := hI5.frozen (k * 2 + 1); obtain ⟨a6, c6, m3, m4, -⟩ := hI5.cells hlt; have HI6 := Lib.hid (hI5.step hlt ho5 HBc.out.size); have HB6 := Lib.hid (((HBw.out.trans (hb5.mono HBw.out.size)).setCell (p := ⟨g, k * 2, none⟩) (by have := hI5.lt.1; have := Q2.out.size; show w.heap.size ≤ g; omega) (.int .i64 (ft M k))).setCell (p := ⟨g, k * 2 + 1, none⟩) (by have := hI5.lt.1; have := Q2.out.size; show w.heap.size ≤ g; omega) (.slice a5 (fb M k).length c5)); have HC6 := Lib.hid (((HBc.out.trans (hb5.mono HBc.out.size)).setCell (p := ⟨g, k * 2, none⟩) hI5.lt.1 (.int .i64 (ft M k))).setCell (p := ⟨g, k * 2 + 1, none⟩) hI5.lt.1 (.slice a5 (fb M k).length c5)); clear hI5 ho5 hb5 m1 m2)
          go_roundw
          case rel => exact ⟨k + 1, by omega, by go_num, HI6.out, HC6.out, HB6.out⟩
          case measure => simp [intOf]; omega
        · obtain rfl : k = M.length := by omega
          have HInv := Lib.hid hinv
          have HBw := Lib.hid hbw
          clear hinv hbc hbw
          go_wp2
          go_ret2
          exact ⟨HBw.out, .inr ⟨rfl, _, rfl, by rw [HMe.out]; exact HInv.out.done Q2.out.size⟩⟩
/-- Set, where both are right. -/
theorem set_ok (t : Int) (v : Value) (a : Option Addr) (c : Nat) (l : List Nat) (L : List Fld) (w : World) (h : FRow w v L) (ht : Tag64 t) (hbr : BRow w (.slice a l.length c) l) (h1 : rightF L = true) (h2 : rightF (setR t l L) = true) :
    Calls Try.prog 58 #[v, .agg #[.int .i64 t, .slice a l.length c]] w fun e w' => Below w.heap.size w w' ∧ ∃ v', e = .returned (.tuple #[v', .int .i64 0]) ∧ FOwn w' w.heap.size v' (setR t l L) :=
  (set_calls t v a c l L w h ht hbr).mono fun e w' hh => ⟨hh.1, by
    rcases hh.2 with ⟨h3, _⟩ | ⟨_, h3⟩
    · rw [h1, h2] at h3; cases h3
    · exact h3⟩
theorem set_no (t : Int) (v : Value) (a : Option Addr) (c : Nat) (l : List Nat) (L : List Fld) (w : World) (h : FRow w v L) (ht : Tag64 t) (hbr : BRow w (.slice a l.length c) l) (h1 : (rightF L && rightF (setR t l L)) = false) :
    Calls Try.prog 58 #[v, .agg #[.int .i64 t, .slice a l.length c]] w fun e w' => Below w.heap.size w w' ∧ e = .returned (.tuple #[.slice none 0 0, .int .i64 20]) :=
  (set_calls t v a c l L w h ht hbr).mono fun e w' hh => ⟨hh.1, by
    rcases hh.2 with ⟨_, h3⟩ | ⟨h3, _⟩
    · exact h3
    · rw [h1] at h3; cases h3⟩
/-- Get, where there is one. -/
theorem get_some (t : Int) (v : Value) (L : List Fld) (l : List Nat) (w : World) (h : FRow w v L) (hl : ∀ i < L.length, (fb L i).length ≤ 140737488355000) (hg : getF L t = some l) :
    Calls Try.prog 53 #[v, .int .i64 t] w fun e w' => Below w.heap.size w w' ∧ ∃ v', e = .returned (.tuple #[v', .bool true]) ∧ Own8 w' w.heap.size v' l :=
  (get_calls t v L w h hl).mono fun e w' hh => ⟨hh.1, by
    rcases hh.2 with ⟨h1, _⟩ | ⟨l', v', h1, h2, h3⟩
    · rw [hg] at h1; cases h1
    · rw [hg] at h1; cases h1; exact ⟨v', h2, h3⟩⟩
theorem get_none (t : Int) (v : Value) (L : List Fld) (w : World) (h : FRow w v L) (hl : ∀ i < L.length, (fb L i).length ≤ 140737488355000) (hg : getF L t = none) :
    Calls Try.prog 53 #[v, .int .i64 t] w fun e w' => Below w.heap.size w w' ∧ e = .returned (.tuple #[.slice none 0 0, .bool false]) :=
  (get_calls t v L w h hl).mono fun e w' hh => ⟨hh.1, by
    rcases hh.2 with ⟨_, h2⟩ | ⟨l', v', h1, _⟩
    · exact h2
    · rw [hg] at h1; cases h1⟩
end Go.Proofs.Ytlohggdabpfkhaa
