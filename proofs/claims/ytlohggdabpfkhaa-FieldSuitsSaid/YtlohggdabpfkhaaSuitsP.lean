/-
  PLAIN for fermatalaw02.FieldSuits: the wants that are made of fields, and what becomes of them.
-/
import Derived.Test.YtlohggdabpfkhaaWrongP
namespace Go.Proofs.Ytlohggdabpfkhaa
open Go.RowKit Pl

/-- The want of a field. -/
def ownW (mu : Bool) (c d : Nat) (p : Fld) : Wnt := ⟨p.1, mu, (p.2.length : Int) - (min c p.2.length : Nat), (p.2.length : Int) + d⟩
/-- What is appended for a field behind a tag. -/
def stepW (mu : Bool) (c d : Nat) (a : Int) (p : Fld) : List Wnt := (if a + 1 < p.1 then [⟨a + 1, false, 0, 5⟩] else []) ++ [ownW mu c d p]
def wantsF (mu : Bool) (c d : Nat) : Int → List Fld → List Wnt
  | _, [] => []
  | a, p :: L => stepW mu c d a p ++ wantsF mu c d p.1 L
theorem wantsF_snoc (mu : Bool) (c d : Nat) (L : List Fld) (p : Fld) : ∀ a, wantsF mu c d a (L ++ [p]) = wantsF mu c d a L ++ stepW mu c d (lastT a L) p := by
  induction L with
  | nil => intro a; simp [wantsF, lastT]
  | cons q L ih => intro a; simp only [List.cons_append, wantsF, lastT, ih, List.append_assoc]
theorem wantsF_length (mu : Bool) (c d : Nat) (L : List Fld) : ∀ a, (wantsF mu c d a L).length ≤ 2 * L.length := by
  induction L with
  | nil => intro a; simp [wantsF]
  | cons p L ih =>
    intro a
    have := ih p.1
    simp only [wantsF, stepW, List.length_append, List.length_cons, List.length_nil]
    split <;> simp <;> omega
/-- Tags of wants above a number, at most 200, and increasing. -/
def tagsW : Int → List Wnt → Bool
  | _, [] => true
  | a, p :: L => decide (a < p.tag ∧ p.tag ≤ 200) && tagsW p.tag L
theorem wfits_eq (L : List Wnt) : ∀ (n : Nat) (a : Int), L.length ≤ n → tagsW a L = true → (∀ p ∈ L, limOk p = true) → wfits n a L = true := by
  induction L with
  | nil => intro n a _ _ _; rfl
  | cons p L ih =>
    intro n a hn ht hl
    simp only [tagsW, Bool.and_eq_true, decide_eq_true_eq] at ht
    simp only [List.length_cons] at hn
    simp only [wfits, Bool.and_eq_true]
    refine ⟨?_, hl p (by simp), ih _ _ (by omega) ht.2 fun q hq => hl q (by simp [hq])⟩
    unfold takeOk
    exact decide_eq_true ⟨by omega, ht.1.1, ht.1.2, by omega⟩
theorem tagsW_mem (L : List Wnt) : ∀ a, tagsW a L = true → ∀ p ∈ L, a < p.tag ∧ p.tag ≤ 200 := by
  induction L with
  | nil => intro a _ p hp; simp at hp
  | cons q L ih =>
    intro a h p hp
    simp only [tagsW, Bool.and_eq_true, decide_eq_true_eq] at h
    rcases List.mem_cons.1 hp with rfl | hp
    · exact h.1
    · have := ih q.tag h.2 p hp
      exact ⟨by omega, this.2⟩
theorem findW_mem (L : List Wnt) : ∀ a, tagsW a L = true → ∀ p ∈ L, findW p.tag L = p := by
  induction L with
  | nil => intro a _ p hp; simp at hp
  | cons q L ih =>
    intro a h p hp
    simp only [tagsW, Bool.and_eq_true, decide_eq_true_eq] at h
    rcases List.mem_cons.1 hp with rfl | hp
    · simp [findW]
    · have := tagsW_mem L _ h.2 p hp
      rw [findW, if_neg (by omega), ih _ h.2 p hp]
theorem findW_none (L : List Wnt) (t : Int) (h : ∀ p ∈ L, p.tag ≠ t) : findW t L = wz := by
  induction L with
  | nil => rfl
  | cons q L ih => rw [findW, if_neg (h q (by simp)), ih fun p hp => h p (by simp [hp])]
theorem tagsW_wants (mu : Bool) (c d : Nat) (L : List Fld) : ∀ a, tagsF a L = true → tagsW a (wantsF mu c d a L) = true := by
  induction L with
  | nil => intro a _; rfl
  | cons p L ih =>
    intro a h
    simp only [tagsF, Bool.and_eq_true, decide_eq_true_eq] at h
    have := ih p.1 h.2
    simp only [wantsF, stepW]
    split
    · simp only [List.cons_append, List.nil_append, tagsW, ownW, this, Bool.and_true, Bool.and_eq_true, decide_eq_true_eq]
      omega
    · simp only [List.nil_append, List.cons_append, tagsW, ownW, this, Bool.and_true, decide_eq_true_eq]
      exact h.1
theorem own_mem (mu : Bool) (c d : Nat) (L : List Fld) : ∀ a, ∀ p ∈ L, ownW mu c d p ∈ wantsF mu c d a L := by
  induction L with
  | nil => intro a p hp; simp at hp
  | cons q L ih =>
    intro a p hp
    simp only [wantsF, stepW]
    rcases List.mem_cons.1 hp with rfl | hp
    · simp
    · have := ih q.1 p hp; simp [this]
theorem wants_cases (mu : Bool) (c d : Nat) (L : List Fld) : ∀ a, ∀ q ∈ wantsF mu c d a L, (∃ p ∈ L, q = ownW mu c d p) ∨ (q.must = false ∧ q.least = 0 ∧ q.most = 5) := by
  induction L with
  | nil => intro a q hq; simp [wantsF] at hq
  | cons p L ih =>
    intro a q hq
    simp only [wantsF, stepW, List.mem_append, List.mem_singleton] at hq
    rcases hq with (hq | rfl) | hq
    · split at hq
      · simp only [List.mem_singleton] at hq; subst hq; exact .inr ⟨rfl, rfl, rfl⟩
      · simp at hq
    · exact .inl ⟨p, by simp, rfl⟩
    · rcases ih p.1 q hq with ⟨r, hr, e⟩ | h
      · exact .inl ⟨r, by simp [hr], e⟩
      · exact .inr h
/-- The fields are few and small, as Made's. -/
def SmallF (m : List Fld) : Prop := rightF m = true ∧ m.length ≤ 20 ∧ ∀ p ∈ m, p.2.length ≤ 2000
theorem SmallF.tags {m : List Fld} (h : SmallF m) : tagsF 0 m = true := ((rightF_iff m).1 h.1).2.1
theorem own_lim (mu : Bool) (c d : Nat) {p : Fld} (hp : p.2.length ≤ 2000) (hd : d ≤ 255) : limOk (ownW mu c d p) = true := by
  unfold limOk ownW
  have := Nat.min_le_right c p.2.length
  exact decide_eq_true ⟨by dsimp only; omega, by dsimp only; omega, by dsimp only; omega⟩
theorem wants_lim {mu : Bool} {c d : Nat} {m : List Fld} (h : SmallF m) (hd : d ≤ 255) : ∀ q ∈ wantsF mu c d 0 m, limOk q = true := fun q hq => by
  rcases wants_cases mu c d m 0 q hq with ⟨p, hp, rfl⟩ | ⟨_, h1, h2⟩
  · exact own_lim mu c d (h.2.2 p hp) hd
  · unfold limOk; rw [h1, h2]; rfl
theorem wants_right {mu : Bool} {c d : Nat} {m : List Fld} (h : SmallF m) (hd : d ≤ 255) : rightW (wantsF mu c d 0 m) = true :=
  wfits_eq _ _ _ (by have := wantsF_length mu c d m 0; have := h.2.1; omega) (tagsW_wants mu c d m 0 h.tags) (wants_lim h hd)
/-- A field suits wants. -/
def SuitsOne (W : List Wnt) (p : Fld) : Prop := findW p.1 W ≠ wz ∧ (findW p.1 W).least ≤ (p.2.length : Int) ∧ (p.2.length : Int) ≤ (findW p.1 W).most
theorem suitsOne_of {W : List Wnt} {p : Fld} {q : Wnt} (hf : findW p.1 W = q) (h0 : q.tag ≠ 0) (h1 : q.least ≤ (p.2.length : Int)) (h2 : (p.2.length : Int) ≤ q.most) : SuitsOne W p := by
  unfold SuitsOne
  rw [hf]
  exact ⟨fun e => h0 (by rw [e]; rfl), h1, h2⟩
theorem unsF_skip (W : List Wnt) (A B : List Fld) (h : ∀ p ∈ A, SuitsOne W p) : unsF W (A ++ B) = unsF W B := by
  induction A with
  | nil => rfl
  | cons p A ih =>
    obtain ⟨h1, h2, h3⟩ := h p (by simp)
    rw [List.cons_append, unsF, if_neg h1, if_neg (by omega), ih fun q hq => h q (by simp [hq])]
theorem unsF_ok (W : List Wnt) (A : List Fld) (h : ∀ p ∈ A, SuitsOne W p) : unsF W A = none := by
  have := unsF_skip W A [] h
  rw [List.append_nil] at this
  rw [this]; rfl
theorem misF_skip (F : List Fld) (A B : List Wnt) (h : ∀ q ∈ A, q.must = true → ¬ placeF F q.tag < 0) : misF F (A ++ B) = misF F B := by
  induction A with
  | nil => rfl
  | cons p A ih =>
    rw [List.cons_append, misF, if_neg (fun hh => h p (by simp) hh.1 hh.2), ih fun q hq => h q (by simp [hq])]
theorem place_there {F : List Fld} (h : tagsF 0 F = true) {p : Fld} (hp : p ∈ F) : ¬ placeF F p.1 < 0 := fun hn => by
  have h1 : getF F p.1 = none := by unfold getF; rw [if_pos hn]
  rw [getF_eq, get_there F 0 h p hp] at h1
  cases h1
theorem place_not {F : List Fld} {t : Int} (h : ∀ p ∈ F, p.1 ≠ t) : placeF F t < 0 := by
  rcases plc_range t F 0 with h1 | ⟨i, hi, _, h3⟩
  · rw [placeF, h1]; omega
  · exact absurd h3 (h _ (fld_mem hi))
theorem suits_made {mu : Bool} {c d : Nat} {m : List Fld} (h : SmallF m) (hd : d ≤ 255) : suitF m (wantsF mu c d 0 m) = none := by
  have hW := tagsW_wants mu c d m 0 h.tags
  unfold suitF
  rw [if_neg (by rw [h.1]; simp), if_neg (by rw [wants_right h hd]; simp), unsF_ok]
  · have := misF_skip m (wantsF mu c d 0 m) [] (fun q hq hm => by
      rcases wants_cases mu c d m 0 q hq with ⟨p, hp, rfl⟩ | ⟨h1, _⟩
      · exact place_there h.tags hp
      · rw [h1] at hm; cases hm)
    rw [List.append_nil] at this
    simp only [this]
    rfl
  · intro p hp
    have hf := findW_mem _ 0 hW _ (own_mem mu c d m 0 p hp)
    have ht := (tagsF_mem m 0 h.tags p hp).1
    have := Nat.min_le_right c p.2.length
    exact suitsOne_of (q := ownW mu c d p) hf (by unfold ownW; dsimp only; omega) (by unfold ownW; dsimp only; omega) (by unfold ownW; dsimp only; omega)
def lessW (t : Int) (W : List Wnt) : List Wnt := W.filter fun x => decide (x.tag ≠ t)
def tightW (t : Int) (a b : Int) (W : List Wnt) : List Wnt := W.map fun x => if x.tag ≠ t then x else ⟨x.tag, x.must, a, b⟩
def withoutW (t : Int) (a b : Int) (W : List Wnt) : List Wnt := W.map fun x => if x.tag ≠ t then x else ⟨x.tag, true, a, b⟩
def restF (t : Int) (m : List Fld) : List Fld := m.filter fun x => decide (x.1 ≠ t)
theorem tagsW_less (t : Int) (W : List Wnt) : ∀ a, tagsW a W = true → tagsW a (lessW t W) = true := by
  have mono : ∀ (W : List Wnt) (a b : Int), a ≤ b → tagsW b W = true → tagsW a W = true := by
    intro W
    cases W with
    | nil => intros; rfl
    | cons p W =>
      intro a b hab h
      simp only [tagsW, Bool.and_eq_true, decide_eq_true_eq] at h ⊢
      exact ⟨by omega, h.2⟩
  induction W with
  | nil => intros; rfl
  | cons p W ih =>
    intro a h
    simp only [tagsW, Bool.and_eq_true, decide_eq_true_eq] at h
    unfold lessW
    rw [List.filter_cons]
    split
    · simp only [tagsW, Bool.and_eq_true, decide_eq_true_eq]
      exact ⟨h.1, ih _ h.2⟩
    · exact mono _ _ _ (by omega) (ih _ h.2)
theorem tagsW_map (f : Wnt → Wnt) (hf : ∀ x, (f x).tag = x.tag) (W : List Wnt) : ∀ a, tagsW a W = true → tagsW a (W.map f) = true := by
  induction W with
  | nil => intros; rfl
  | cons p W ih =>
    intro a h
    simp only [tagsW, Bool.and_eq_true, decide_eq_true_eq, List.map_cons, hf] at h ⊢
    exact ⟨h.1, ih _ h.2⟩
theorem rest_right {m : List Fld} (h : SmallF m) (t : Int) : rightF (restF t m) = true := by
  have hg : ∀ (m : List Fld) (a : Int), tagsF a m = true → tagsF a (restF t m) = true ∧ sumB (restF t m) ≤ sumB m ∧ (restF t m).length ≤ m.length := by
    intro m
    induction m with
    | nil => intro a _; exact ⟨rfl, Nat.le_refl _, Nat.le_refl _⟩
    | cons p m ih =>
      intro a h
      simp only [tagsF, Bool.and_eq_true, decide_eq_true_eq] at h
      obtain ⟨h1, h2, h3⟩ := ih p.1 h.2
      unfold restF at *
      rw [List.filter_cons]
      split
      · simp only [tagsF, sumB, List.length_cons, Bool.and_eq_true, decide_eq_true_eq]
        exact ⟨⟨h.1, h1⟩, by omega, by omega⟩
      · refine ⟨?_, by simp only [sumB]; omega, by simp only [List.length_cons]; omega⟩
        cases hr : List.filter (fun x => decide (x.1 ≠ t)) m with
        | nil => rfl
        | cons q r =>
          rw [hr] at h1
          simp only [tagsF, Bool.and_eq_true, decide_eq_true_eq] at h1 ⊢
          exact ⟨by omega, h1.2⟩
  obtain ⟨r1, r2, r3⟩ := (rightF_iff m).1 h.1
  obtain ⟨h1, h2, h3⟩ := hg m 0 r2
  exact (rightF_iff _).2 ⟨by omega, h1, by omega⟩
theorem split_at {m : List Fld} (h : SmallF m) {i : Nat} (hi : i < m.length) : m = m.take i ++ (ft m i, fb m i) :: m.drop (i + 1) ∧ ∀ q ∈ m.take i, q ∈ m ∧ q.1 ≠ ft m i := by
  have e : (ft m i, fb m i) = m[i] := by simp [ft, fb, List.getD_eq_getElem?_getD, hi]
  have e2 : m = m.take i ++ (ft m i, fb m i) :: m.drop (i + 1) := by
    rw [e, ← List.drop_eq_getElem_cons hi, List.take_append_drop]
  refine ⟨e2, fun q hq => ⟨List.mem_of_mem_take hq, ?_⟩⟩
  have ht := h.tags
  rw [e2, tagsF_append] at ht
  simp only [tagsF, Bool.and_eq_true, decide_eq_true_eq] at ht
  have hlast : ∀ (A : List Fld) (a : Int), tagsF a A = true → ∀ q ∈ A, q.1 ≤ lastT a A := by
    intro A
    induction A with
    | nil => intro a _ q hq; simp at hq
    | cons p A ih =>
      intro a h q hq
      simp only [tagsF, Bool.and_eq_true, decide_eq_true_eq] at h
      rcases List.mem_cons.1 hq with rfl | hq
      · rw [lastT]
        by_cases hA : A.length = 0
        · have : A = [] := List.eq_nil_of_length_eq_zero hA
          subst this; exact Int.le_refl _
        · rw [lastT_get A _ hA]
          have := (tagsF_mem A _ h.2 _ (fld_mem (show A.length - 1 < A.length by omega))).1
          dsimp only at this
          omega
      · exact ih _ h.2 q hq
  have := hlast _ _ ht.1 q hq
  omega
theorem suit_less {mu : Bool} {c d : Nat} {m : List Fld} (h : SmallF m) (hd : d ≤ 255) {i : Nat} (hi : i < m.length) : suitF m (lessW (ft m i) (wantsF mu c d 0 m)) = some (ft m i, 23) := by
  have hW := tagsW_less (ft m i) _ 0 (tagsW_wants mu c d m 0 h.tags)
  have hr : rightW (lessW (ft m i) (wantsF mu c d 0 m)) = true := wfits_eq _ _ _ (by
    have := wantsF_length mu c d m 0; have := h.2.1; have := List.length_filter_le (fun x : Wnt => decide (x.tag ≠ ft m i)) (wantsF mu c d 0 m); unfold lessW; omega) hW (fun q hq => wants_lim h hd q (List.mem_filter.1 hq).1)
  obtain ⟨e, hs⟩ := split_at h hi
  unfold suitF
  rw [if_neg (by rw [h.1]; simp), if_neg (by rw [hr]; simp)]
  have hu : unsF (lessW (ft m i) (wantsF mu c d 0 m)) m = some (ft m i, 23) := by
    generalize hWd : lessW (ft m i) (wantsF mu c d 0 m) = W at *
    rw [show unsF W m = unsF W (m.take i ++ (ft m i, fb m i) :: m.drop (i + 1)) by rw [← e], unsF_skip]
    · rw [unsF, if_pos]
      exact findW_none _ _ fun p hp => by rw [← hWd] at hp; simpa using (List.mem_filter.1 hp).2
    · intro q hq
      obtain ⟨q1, q2⟩ := hs q hq
      have hm : ownW mu c d q ∈ W := by rw [← hWd]; exact List.mem_filter.2 ⟨own_mem mu c d m 0 q q1, decide_eq_true (by simpa [ownW] using q2)⟩
      have hf := findW_mem _ 0 hW _ hm
      have ht := (tagsF_mem m 0 h.tags q q1).1
      have := Nat.min_le_right c q.2.length
      exact suitsOne_of (q := ownW mu c d q) hf (by unfold ownW; dsimp only; omega) (by unfold ownW; dsimp only; omega) (by unfold ownW; dsimp only; omega)
  rw [hu]
theorem suit_tight {mu : Bool} {c d : Nat} {m : List Fld} (h : SmallF m) (hd : d ≤ 255) {i : Nat} (hi : i < m.length) (b : Int) (hb0 : 0 ≤ b) (hb : b ≤ 255) : suitF m (tightW (ft m i) ((fb m i).length + 1) ((fb m i).length + 1 + b) (wantsF mu c d 0 m)) = some (ft m i, 24) := by
  have hlen := h.2.2 _ (ft_mem hi)
  dsimp only at hlen
  have hW := tagsW_map (fun x => if x.tag ≠ ft m i then x else ⟨x.tag, x.must, ((fb m i).length : Int) + 1, ((fb m i).length : Int) + 1 + b⟩) (fun x => by split <;> rfl) _ 0 (tagsW_wants mu c d m 0 h.tags)
  have hr : rightW (tightW (ft m i) ((fb m i).length + 1) ((fb m i).length + 1 + b) (wantsF mu c d 0 m)) = true := wfits_eq _ _ _ (by
    have := wantsF_length mu c d m 0; have := h.2.1; unfold tightW; rw [List.length_map]; omega) hW (fun q hq => by
      obtain ⟨x, hx, rfl⟩ := List.mem_map.1 hq
      split
      · exact wants_lim h hd x hx
      · unfold limOk; exact decide_eq_true ⟨by (try dsimp only); omega, by (try dsimp only); omega, by (try dsimp only); omega⟩)
  obtain ⟨e, hs⟩ := split_at h hi
  unfold suitF
  rw [if_neg (by rw [h.1]; simp), if_neg (by rw [hr]; simp)]
  have hmem : ∀ x ∈ wantsF mu c d 0 m, (if x.tag ≠ ft m i then x else ⟨x.tag, x.must, ((fb m i).length : Int) + 1, ((fb m i).length : Int) + 1 + b⟩ : Wnt) ∈ tightW (ft m i) ((fb m i).length + 1) ((fb m i).length + 1 + b) (wantsF mu c d 0 m) := fun x hx => List.mem_map.2 ⟨x, hx, rfl⟩
  have hu : unsF (tightW (ft m i) ((fb m i).length + 1) ((fb m i).length + 1 + b) (wantsF mu c d 0 m)) m = some (ft m i, 24) := by
    have hW' : tagsW 0 (tightW (ft m i) ((fb m i).length + 1) ((fb m i).length + 1 + b) (wantsF mu c d 0 m)) = true := hW
    generalize tightW (ft m i) ((fb m i).length + 1) ((fb m i).length + 1 + b) (wantsF mu c d 0 m) = W at *
    rw [show unsF W m = unsF W (m.take i ++ (ft m i, fb m i) :: m.drop (i + 1)) by rw [← e], unsF_skip]
    · have hm := hmem _ (own_mem mu c d m 0 _ (ft_mem hi))
      rw [if_neg (by simp [ownW])] at hm
      have hf := findW_mem _ 0 hW' _ hm
      have ht := (tagsF_mem m 0 h.tags _ (ft_mem hi)).1
      dsimp only [ownW] at hf ht
      rw [unsF]
      dsimp only
      rw [hf, if_neg (fun e => by have := congrArg Wnt.tag e; dsimp only [wz] at this; omega), if_pos (by dsimp only; omega)]
    · intro q hq
      obtain ⟨q1, q2⟩ := hs q hq
      have hm := hmem _ (own_mem mu c d m 0 q q1)
      rw [if_pos (by simpa [ownW] using q2)] at hm
      have hf := findW_mem _ 0 hW' _ hm
      have ht := (tagsF_mem m 0 h.tags q q1).1
      have := Nat.min_le_right c q.2.length
      exact suitsOne_of (q := ownW mu c d q) hf (by unfold ownW; dsimp only; omega) (by unfold ownW; dsimp only; omega) (by unfold ownW; dsimp only; omega)
  rw [hu]
theorem mem_split {W : List Wnt} {q : Wnt} (h : q ∈ W) : ∃ A B, W = A ++ q :: B := List.append_of_mem h
theorem suit_without {mu : Bool} {c d : Nat} {m : List Fld} (h : SmallF m) (hd : d ≤ 255) {i : Nat} (hi : i < m.length) (b : Int) (hb0 : 0 ≤ b) (hb : b ≤ 255) : suitF (restF (ft m i) m) (withoutW (ft m i) ((fb m i).length + 1) ((fb m i).length + 1 + b) (wantsF mu c d 0 m)) = some (ft m i, 25) := by
  have hlen := h.2.2 _ (ft_mem hi)
  dsimp only at hlen
  have hT0 := tagsW_wants mu c d m 0 h.tags
  have hW := tagsW_map (fun x => if x.tag ≠ ft m i then x else ⟨x.tag, true, ((fb m i).length : Int) + 1, ((fb m i).length : Int) + 1 + b⟩) (fun x => by split <;> rfl) _ 0 hT0
  have hr : rightW (withoutW (ft m i) ((fb m i).length + 1) ((fb m i).length + 1 + b) (wantsF mu c d 0 m)) = true := wfits_eq _ _ _ (by
    have := wantsF_length mu c d m 0; have := h.2.1; unfold withoutW; rw [List.length_map]; omega) hW (fun q hq => by
      obtain ⟨x, hx, rfl⟩ := List.mem_map.1 hq
      split
      · exact wants_lim h hd x hx
      · unfold limOk; exact decide_eq_true ⟨by (try dsimp only); omega, by (try dsimp only); omega, by (try dsimp only); omega⟩)
  have hrr := rest_right h (ft m i)
  unfold suitF
  rw [if_neg (by rw [hrr]; simp), if_neg (by rw [hr]; simp)]
  have hmem : ∀ x ∈ wantsF mu c d 0 m, (if x.tag ≠ ft m i then x else ⟨x.tag, true, ((fb m i).length : Int) + 1, ((fb m i).length : Int) + 1 + b⟩ : Wnt) ∈ withoutW (ft m i) ((fb m i).length + 1) ((fb m i).length + 1 + b) (wantsF mu c d 0 m) := fun x hx => List.mem_map.2 ⟨x, hx, rfl⟩
  have hW' : tagsW 0 (withoutW (ft m i) ((fb m i).length + 1) ((fb m i).length + 1 + b) (wantsF mu c d 0 m)) = true := hW
  have hrest : ∀ q, q ∈ restF (ft m i) m ↔ q ∈ m ∧ q.1 ≠ ft m i := fun q => by unfold restF; rw [List.mem_filter]; simp
  rw [unsF_ok]
  · dsimp only
    obtain ⟨A, B, hAB⟩ := mem_split (own_mem mu c d m 0 _ (ft_mem hi))
    have hA : ∀ x ∈ A, x.tag ≠ ft m i := fun x hx e => by
      have h1 := findW_mem _ 0 hT0 x (by rw [hAB]; simp [hx])
      have hlt : ∀ (A : List Wnt) (a : Int) (q : Wnt) (B : List Wnt), tagsW a (A ++ q :: B) = true → ∀ x ∈ A, x.tag < q.tag := by
        intro A
        induction A with
        | nil => intro a q B _ x hx; simp at hx
        | cons y A ih =>
          intro a q B h x hx
          simp only [List.cons_append, tagsW, Bool.and_eq_true, decide_eq_true_eq] at h
          rcases List.mem_cons.1 hx with rfl | hx
          · exact (tagsW_mem _ _ h.2 q (by simp)).1
          · exact ih _ _ _ h.2 x hx
      have h2 := hlt A 0 _ B (by rw [← hAB]; exact hT0) x hx
      dsimp only [ownW] at h2
      omega
    unfold withoutW
    rw [hAB, List.map_append, misF_skip, List.map_cons, misF]
    · rw [if_neg (show ¬ (ownW mu c d (ft m i, fb m i)).tag ≠ ft m i by simp [ownW])]
      rw [if_pos ⟨rfl, place_not fun p hp => ((hrest p).1 hp).2⟩]
      rfl
    · intro q hq hm
      obtain ⟨x, hx, rfl⟩ := List.mem_map.1 hq
      rw [if_pos (hA x hx)] at hm ⊢
      rcases wants_cases mu c d m 0 x (by rw [hAB]; simp [hx]) with ⟨p, hp, rfl⟩ | ⟨h1, _⟩
      · exact place_there ((rightF_iff _).1 hrr).2.1 (p := p) ((hrest p).2 ⟨hp, by simpa [ownW] using hA _ hx⟩)
      · rw [h1] at hm; cases hm
  · intro q hq
    obtain ⟨q1, q2⟩ := (hrest q).1 hq
    have hm := hmem _ (own_mem mu c d m 0 q q1)
    rw [if_pos (by simpa [ownW] using q2)] at hm
    have hf := findW_mem _ 0 hW' _ hm
    have ht := (tagsF_mem m 0 h.tags q q1).1
    have := Nat.min_le_right c q.2.length
    exact suitsOne_of (q := ownW mu c d q) hf (by unfold ownW; dsimp only; omega) (by unfold ownW; dsimp only; omega) (by unfold ownW; dsimp only; omega)
theorem suit_empty (x : Int) (hx : 0 ≤ x) (hx2 : x ≤ 255) : suitF [] [⟨1 + x, decide (x < 200), 0, 0⟩] = if x < 200 then some (1 + x, 25) else some (0, 22) := by
  by_cases h : x < 200
  · rw [if_pos h]
    have hr : rightW [⟨1 + x, decide (x < 200), 0, 0⟩] = true := by
      refine wfits_eq _ _ _ (by simp) ?_ ?_
      · simp only [tagsW, Bool.and_true, decide_eq_true_eq]; omega
      · intro p hp; simp only [List.mem_singleton] at hp; subst hp; rfl
    unfold suitF
    rw [if_neg (by simp [rightF, fits]), if_neg (by rw [hr]; simp)]
    simp only [unsF, misF]
    rw [if_pos ⟨decide_eq_true h, place_not (by simp)⟩]
  · rw [if_neg h]
    have hr : rightW [⟨1 + x, decide (x < 200), 0, 0⟩] = false := by
      simp only [rightW, wfits, takeOk]
      simp; omega
    unfold suitF
    rw [if_neg (by simp [rightF, fits]), if_pos hr]
end Go.Proofs.Ytlohggdabpfkhaa
