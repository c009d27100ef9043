/-
  TABLES OF PLACES, in plain numbers: the life of each place, which are taken, the free ones in their order.
-/
namespace Go.Proofs.YtecbpohkbniadaaGreat

/-- The numbers below n with f. -/
def pl (n : Nat) (f : Nat → Bool) : List Nat := (List.range n).filter f
def cnt (n : Nat) (f : Nat → Bool) : Nat := (pl n f).length
theorem pl_succ (n : Nat) (f : Nat → Bool) : pl (n + 1) f = if f n = true then pl n f ++ [n] else pl n f := by
  unfold pl
  rw [List.range_succ, List.filter_append]
  by_cases h : f n = true <;> simp [h]
theorem cnt_succ (n : Nat) (f : Nat → Bool) : cnt (n + 1) f = cnt n f + if f n = true then 1 else 0 := by
  unfold cnt
  rw [pl_succ]
  by_cases h : f n = true <;> simp [h]
theorem cnt_zero (f : Nat → Bool) : cnt 0 f = 0 := rfl
theorem pl_mem {n : Nat} {f : Nat → Bool} {p : Nat} : p ∈ pl n f ↔ p < n ∧ f p = true := by unfold pl; simp
theorem cnt_congr {n : Nat} {f g : Nat → Bool} (h : ∀ p, p < n → f p = g p) : cnt n f = cnt n g := by
  induction n with
  | zero => rfl
  | succ n ih => rw [cnt_succ, cnt_succ, ih (fun p hp => h p (by omega)), h n (by omega)]
theorem pl_congr {n : Nat} {f g : Nat → Bool} (h : ∀ p, p < n → f p = g p) : pl n f = pl n g := by
  induction n with
  | zero => rfl
  | succ n ih => rw [pl_succ, pl_succ, ih (fun p hp => h p (by omega)), h n (by omega)]
theorem cnt_set (n : Nat) (f : Nat → Bool) (p : Nat) (b : Bool) (hp : p < n) :
    cnt n (fun q => if q = p then b else f q) + (if f p = true then 1 else 0) = cnt n f + (if b = true then 1 else 0) := by
  induction n with
  | zero => omega
  | succ n ih =>
    rw [cnt_succ, cnt_succ]
    by_cases e : p = n
    · subst e
      have : cnt p (fun q => if q = p then b else f q) = cnt p f := cnt_congr fun q hq => by rw [if_neg (by omega)]
      rw [this]
      simp only [if_true]
      omega
    · have := ih (by omega)
      have e2 : ¬ n = p := fun h => e h.symm
      simp only [if_neg e2]
      omega
theorem cnt_le (n : Nat) (f : Nat → Bool) : cnt n f ≤ n := by
  induction n with
  | zero => exact Nat.le_refl _
  | succ n ih => rw [cnt_succ]; split <;> omega
theorem cnt_mono {m n : Nat} (h : m ≤ n) (f : Nat → Bool) : cnt m f ≤ cnt n f := by
  induction n with
  | zero => have : m = 0 := by omega
            rw [this]; exact Nat.le_refl _
  | succ n ih =>
    rw [cnt_succ]
    by_cases e : m = n + 1
    · rw [e, cnt_succ]; exact Nat.le_refl _
    · have := ih (by omega); omega
theorem pl_full {m n : Nat} (h : m ≤ n) (f : Nat → Bool) (e : cnt m f = cnt n f) : pl m f = pl n f := by
  induction n with
  | zero => have : m = 0 := by omega
            rw [this]
  | succ n ih =>
    by_cases c : m = n + 1
    · rw [c]
    · have h1 := cnt_mono (m := m) (n := n) (by omega) f
      rw [cnt_succ] at e
      by_cases k : f n = true
      · rw [if_pos k] at e; omega
      · rw [if_neg k] at e
        rw [pl_succ, if_neg k]
        exact ih (by omega) (by omega)
theorem pl_nodup (n : Nat) (f : Nat → Bool) : (pl n f).Nodup := List.Pairwise.filter _ (List.nodup_range)

structure Tb where
  life : Nat → Nat
  tk : Nat → Bool
  free : List Nat
def wornF (k : Nat) (S : Tb) : Nat → Bool := fun p => !S.tk p && decide (S.life p = k)
/-- WHAT IS ALWAYS SO of a table of n places with k lives. -/
structure TOk (n k : Nat) (S : Tb) : Prop where
  nodup : S.free.Nodup
  mem : ∀ p, p ∈ S.free ↔ p < n ∧ S.tk p = false ∧ S.life p < k
  le : ∀ p, p < n → S.life p ≤ k
  pos : ∀ p, p < n → S.tk p = true → 1 ≤ S.life p
  sum : cnt n S.tk + S.free.length + cnt n (wornF k S) = n
def newT (n : Nat) : Tb := ⟨fun _ => 0, fun _ => false, List.range n⟩
def takeT (S : Tb) (p : Nat) (r : List Nat) : Tb := ⟨fun q => if q = p then S.life p + 1 else S.life q, fun q => if q = p then true else S.tk q, r⟩
def giveT (k : Nat) (S : Tb) (p : Nat) : Tb := ⟨S.life, fun q => if q = p then false else S.tk q, if S.life p = k then S.free else p :: S.free⟩
/-- The live references. -/
def refsT (n : Nat) (S : Tb) : List (Nat × Nat) := (pl n S.tk).map fun p => (p, S.life p)
theorem refs_len (n : Nat) (S : Tb) : (refsT n S).length = cnt n S.tk := by unfold refsT cnt; simp
theorem cnt_none (n : Nat) (f : Nat → Bool) (h : ∀ p, p < n → f p = false) : cnt n f = 0 := by
  induction n with
  | zero => rfl
  | succ n ih => rw [cnt_succ, ih (fun p hp => h p (by omega)), h n (by omega)]; rfl
theorem TOk.new (n : Nat) {k : Nat} (hk : 1 ≤ k) : TOk n k (newT n) := by
  refine ⟨List.nodup_range, fun p => ?_, fun p _ => Nat.zero_le _, fun p _ h => (by cases h), ?_⟩
  · show p ∈ List.range n ↔ p < n ∧ false = false ∧ 0 < k
    simp
    omega
  · show cnt n (fun _ => false) + (List.range n).length + cnt n (wornF k (newT n)) = n
    rw [cnt_none n _ (fun _ _ => rfl), cnt_none n (wornF k (newT n)) (fun p _ => by
      show (!false && decide (0 = k)) = false
      have : ¬ 0 = k := by omega
      simp [this])]
    simp
theorem TOk.head {n k : Nat} {S : Tb} {p : Nat} {r : List Nat} (h : TOk n k S) (e : S.free = p :: r) : p < n ∧ S.tk p = false ∧ S.life p < k ∧ p ∉ r := by
  have h1 := (h.mem p).1 (by rw [e]; exact List.mem_cons_self)
  have h2 := h.nodup
  rw [e] at h2
  exact ⟨h1.1, h1.2.1, h1.2.2, (List.nodup_cons.1 h2).1⟩
theorem TOk.cnt_take {n k : Nat} {S : Tb} {p : Nat} {r : List Nat} (h : TOk n k S) (e : S.free = p :: r) : cnt n (takeT S p r).tk = cnt n S.tk + 1 := by
  obtain ⟨p1, p2, p3, p4⟩ := h.head e
  have h1 := cnt_set n S.tk p true p1
  rw [p2] at h1
  simp only [if_true, Bool.false_eq_true, if_false] at h1
  exact h1
theorem TOk.worn_take {n k : Nat} {S : Tb} {p : Nat} {r : List Nat} (h : TOk n k S) (e : S.free = p :: r) : cnt n (wornF k (takeT S p r)) = cnt n (wornF k S) := by
  obtain ⟨p1, p2, p3, p4⟩ := h.head e
  refine cnt_congr fun q hq => ?_
  show (!(if q = p then true else S.tk q) && decide ((if q = p then S.life p + 1 else S.life q) = k)) = (!S.tk q && decide (S.life q = k))
  by_cases c : q = p
  · subst c
    have : ¬ S.life q = k := by omega
    simp [this]
  · rw [if_neg c, if_neg c]
theorem cnt_give {n k : Nat} {S : Tb} {p : Nat} (hp : p < n) (ht : S.tk p = true) : cnt n (giveT k S p).tk + 1 = cnt n S.tk := by
  have h1 := cnt_set n S.tk p false hp
  rw [ht] at h1
  simp only [if_true, Bool.false_eq_true, if_false] at h1
  exact h1
theorem worn_give {n k : Nat} {S : Tb} {p : Nat} (hp : p < n) (ht : S.tk p = true) : cnt n (wornF k (giveT k S p)) = cnt n (wornF k S) + if S.life p = k then 1 else 0 := by
  have h4 := cnt_set n (wornF k S) p (decide (S.life p = k)) hp
  have h5 : wornF k S p = false := by unfold wornF; rw [ht]; rfl
  rw [h5] at h4
  have h6 : cnt n (wornF k (giveT k S p)) = cnt n (fun q => if q = p then decide (S.life p = k) else wornF k S q) := by
    refine cnt_congr fun q hq => ?_
    show (!(if q = p then false else S.tk q) && decide (S.life q = k)) = if q = p then decide (S.life p = k) else (!S.tk q && decide (S.life q = k))
    by_cases c : q = p
    · subst c; simp
    · rw [if_neg c, if_neg c]
  rw [h6]
  by_cases c : S.life p = k
  · simp [c] at h4 ⊢; omega
  · simp [c] at h4 ⊢; omega
theorem TOk.take {n k : Nat} {S : Tb} {p : Nat} {r : List Nat} (h : TOk n k S) (e : S.free = p :: r) : TOk n k (takeT S p r) := by
  obtain ⟨p1, p2, p3, p4⟩ := h.head e
  have hn := h.nodup
  rw [e] at hn
  refine ⟨(List.nodup_cons.1 hn).2, fun q => ?_, fun q hq => ?_, fun q hq ht => ?_, ?_⟩
  · show q ∈ r ↔ q < n ∧ (if q = p then true else S.tk q) = false ∧ (if q = p then S.life p + 1 else S.life q) < k
    by_cases c : q = p
    · subst c
      simp [p4]
    · rw [if_neg c, if_neg c]
      rw [← h.mem q, e]
      simp [c]
  · show (if q = p then S.life p + 1 else S.life q) ≤ k
    split
    · omega
    · exact h.le q hq
  · show 1 ≤ if q = p then S.life p + 1 else S.life q
    split
    · omega
    · rename_i c
      have ht' : (if q = p then true else S.tk q) = true := ht
      rw [if_neg c] at ht'
      exact h.pos q hq ht'
  · have h1 := cnt_set n S.tk p true p1
    rw [p2] at h1
    have h2 := h.sum
    rw [e] at h2
    have h3 : cnt n (wornF k (takeT S p r)) = cnt n (wornF k S) := by
      refine cnt_congr fun q hq => ?_
      show (!(if q = p then true else S.tk q) && decide ((if q = p then S.life p + 1 else S.life q) = k)) = (!S.tk q && decide (S.life q = k))
      by_cases c : q = p
      · subst c
        have : ¬ S.life q = k := by omega
        simp [this]
      · rw [if_neg c, if_neg c]
    show cnt n (fun q => if q = p then true else S.tk q) + r.length + cnt n (wornF k (takeT S p r)) = n
    rw [h3]
    simp only [List.length_cons, if_true, Bool.false_eq_true, if_false] at h1 h2
    omega
theorem TOk.notfree {n k : Nat} {S : Tb} {p : Nat} (h : TOk n k S) (ht : S.tk p = true) : p ∉ S.free := fun hm => by
  have := ((h.mem p).1 hm).2.1
  rw [ht] at this
  cases this
theorem TOk.give {n k : Nat} {S : Tb} {p : Nat} (h : TOk n k S) (hp : p < n) (ht : S.tk p = true) : TOk n k (giveT k S p) := by
  have hnf := h.notfree ht
  have hle := h.le p hp
  have h1 := cnt_set n S.tk p false hp
  rw [ht] at h1
  have h2 := h.sum
  have h3 : cnt n (wornF k (giveT k S p)) = cnt n (wornF k S) + if S.life p = k then 1 else 0 := by
    have h4 := cnt_set n (wornF k S) p (decide (S.life p = k)) hp
    have h5 : wornF k S p = false := by unfold wornF; rw [ht]; rfl
    rw [h5] at h4
    have h6 : cnt n (wornF k (giveT k S p)) = cnt n (fun q => if q = p then decide (S.life p = k) else wornF k S q) := by
      refine cnt_congr fun q hq => ?_
      show (!(if q = p then false else S.tk q) && decide (S.life q = k)) = if q = p then decide (S.life p = k) else (!S.tk q && decide (S.life q = k))
      by_cases c : q = p
      · subst c; simp
      · rw [if_neg c, if_neg c]
    rw [h6]
    by_cases c : S.life p = k
    · simp [c] at h4 ⊢; omega
    · simp [c] at h4 ⊢; omega
  refine ⟨?_, fun q => ?_, h.le, fun q hq hq2 => ?_, ?_⟩
  · show (if S.life p = k then S.free else p :: S.free).Nodup
    split
    · exact h.nodup
    · exact List.nodup_cons.2 ⟨hnf, h.nodup⟩
  · show q ∈ (if S.life p = k then S.free else p :: S.free) ↔ q < n ∧ (if q = p then false else S.tk q) = false ∧ S.life q < k
    by_cases c : q = p
    · subst c
      by_cases d : S.life q = k
      · rw [if_pos d]
        simp [hnf]
        omega
      · rw [if_neg d]
        simp
        omega
    · rw [if_neg c]
      by_cases d : S.life p = k
      · rw [if_pos d]; exact h.mem q
      · rw [if_neg d]
        rw [← h.mem q]
        simp [c]
  · refine h.pos q hq ?_
    have hq3 : (if q = p then false else S.tk q) = true := hq2
    by_cases c : q = p
    · rw [if_pos c] at hq3; cases hq3
    · rwa [if_neg c] at hq3
  · show cnt n (fun q => if q = p then false else S.tk q) + (if S.life p = k then S.free else p :: S.free).length + cnt n (wornF k (giveT k S p)) = n
    rw [h3]
    simp only [if_true, Bool.false_eq_true, if_false] at h1
    by_cases c : S.life p = k
    · rw [if_pos c, if_pos c]; omega
    · rw [if_neg c, if_neg c, List.length_cons]
      omega
/-- THE FREE PLACES ARE LINKED from f on. -/
def Links (nx : Nat → Int) : Int → List Nat → Prop
  | f, [] => f = -1
  | f, p :: l => f = (p : Int) ∧ Links nx (nx p) l
theorem Links.congr {nx ny : Nat → Int} : ∀ {l : List Nat} {f : Int}, Links nx f l → (∀ p ∈ l, ny p = nx p) → Links ny f l
  | [], _, h, _ => h
  | p :: _, _, h, e => ⟨h.1, by rw [e p List.mem_cons_self]; exact h.2.congr fun q hq => e q (List.mem_cons_of_mem _ hq)⟩
theorem Links.put {nx : Nat → Int} {l : List Nat} {f : Int} (h : Links nx f l) {p : Nat} (hp : p ∉ l) : Links (fun q => if q = p then f else nx q) (p : Int) (p :: l) :=
  ⟨rfl, by
    show Links _ (if p = p then f else nx p) l
    rw [if_pos rfl]
    exact h.congr fun q hq => by
      show (if q = p then f else nx q) = nx q
      rw [if_neg (fun e : q = p => hp (by rw [← e]; exact hq))]⟩
theorem Links.drop {nx : Nat → Int} : ∀ {l : List Nat} {f : Int} (j : Nat), Links nx f l → ∃ g, Links nx g (l.drop j)
  | _, f, 0, h => ⟨f, h⟩
  | [], f, _ + 1, h => ⟨f, h⟩
  | _ :: _, _, j + 1, h => h.2.drop j
/-- The last places, linked. -/
theorem links_range (n : Nat) : ∀ j, j ≤ n → ∀ nx : Nat → Int, (∀ p, p < n → n - j ≤ p → nx p = if p + 1 < n then ((p + 1 : Nat) : Int) else -1) → Links nx (if j = 0 then -1 else ((n - j : Nat) : Int)) ((List.range n).drop (n - j)) := by
  intro j
  induction j with
  | zero => intro _ nx _; rw [List.drop_of_length_le (by simp)]; rfl
  | succ j ih =>
    intro hj nx hnx
    have e : (List.range n).drop (n - (j + 1)) = (n - (j + 1)) :: (List.range n).drop (n - j) := by
      rw [List.drop_eq_getElem_cons (by simp; omega)]
      simp
      omega
    rw [e, if_neg (by omega)]
    refine ⟨rfl, ?_⟩
    rw [hnx _ (by omega) (Nat.le_refl _)]
    have := ih (by omega) nx (fun p h1 h2 => hnx p h1 (by omega))
    by_cases c : j = 0
    · rw [if_neg (by omega)]; rw [if_pos c] at this; exact this
    · rw [if_pos (by omega)]; rw [if_neg c] at this
      rw [show n - (j + 1) + 1 = n - j by omega]; exact this
/-- How many places there are from i on. -/
def after (i : Int) : List Nat → Nat
  | [] => 0
  | p :: l => if i = (p : Int) then l.length + 1 else after i l
theorem after_none : ∀ l : List Nat, after (-1) l = 0
  | [] => rfl
  | p :: l => by
    unfold after
    rw [if_neg (by omega)]
    exact after_none l
theorem after_drop : ∀ (l : List Nat) (j p : Nat) (r : List Nat), l.Nodup → l.drop j = p :: r → after (p : Int) l = r.length + 1
  | [], j, p, r, _, e => by simp at e
  | a :: l, 0, p, r, _, e => by
    simp at e
    obtain ⟨rfl, rfl⟩ := e
    unfold after
    rw [if_pos rfl]
  | a :: l, j + 1, p, r, hn, e => by
    simp at e
    have hm : p ∈ l := List.mem_of_mem_drop (i := j) (by rw [e]; exact List.mem_cons_self)
    have hne : a ≠ p := fun h => (List.nodup_cons.1 hn).1 (h ▸ hm)
    unfold after
    rw [if_neg (by omega)]
    exact after_drop l j p r (List.nodup_cons.1 hn).2 e
theorem after_links {nx : Nat → Int} {l : List Nat} {j : Nat} {i : Int} (hn : l.Nodup) (h : Links nx i (l.drop j)) : after i l = (l.drop j).length := by
  cases e : l.drop j with
  | nil => rw [e] at h; have h2 : i = -1 := h; rw [h2, after_none]; rfl
  | cons p r => rw [e] at h; rw [h.1, after_drop l j p r hn e]; rfl
theorem drop_get {l : List Nat} {j : Nat} (h : j < l.length) : l.drop j = l.getD j 0 :: l.drop (j + 1) := by
  rw [List.drop_eq_getElem_cons h, List.getD_eq_getElem?_getD, List.getElem?_eq_getElem h]; rfl
def fq (l : List Nat) (j : Nat) : Nat := l.getD j 0
end Go.Proofs.YtecbpohkbniadaaGreat
