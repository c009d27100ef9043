/-
  CONTRACT of num.Split, the caller's side: a slice of the call's own with the numbers of the forms, or nil and the first error; nothing that was there is written.
-/
import Derived.Test.YtlohggdabpfkhaaNumSplit
import Derived.Maps.AppendAt
namespace Go.Proofs.Ytlohggdabpfkhaa
open Go.RowKit Go.Shelf Pl

attribute [local go_sem] Oper.semAt_some

theorem info_u64 : (Try.prog.info? 66).map (fun i => (i.zero, i.size, i.bytes)) = some (some (.int .u64 0), 1, 8) := by kernel_rfl
def B64 (d : Nat) : Value := .int .u64 d

theorem sqF_end (n : Nat) : ∀ (l : List Nat) (a b : List (Nat × Nat)) (x : Nat × Nat), sqF n l = a ++ x :: b → x.2 ≠ 0 → b = [] := by
  induction n with
  | zero => intro l a b x h; simp [sqF] at h
  | succ n ih =>
    intro l a b x h hx
    unfold sqF at h
    split at h
    · simp at h
    split at h
    · cases a with
      | nil => simp at h; exact h.2
      | cons p a => simp at h
    · cases a with
      | nil => simp at h; obtain ⟨rfl, _⟩ := h; simp at hx
      | cons p a => simp at h; exact ih _ a b x h.2 hx
theorem sq_end {l : List Nat} {a : List (Nat × Nat)} {x : Nat × Nat} (h : a ++ [x] <+: sq l) (hx : x.2 ≠ 0) : sq l = a ++ [x] := by
  obtain ⟨b, hb⟩ := h
  have : sqF l.length l = a ++ x :: b := by show sq l = _; rw [← hb]; simp
  have := sqF_end _ _ _ _ _ this hx
  subst this
  rw [← hb]; simp

theorem boxed_other {W w1 : World} {n₀ B b : Nat} {t e : TypeId} {size k : Nat} {u v v' : Value} {xs : List Value} {tmp : Obj} (hb : Boxed W b t u) (hte : t ≠ e) (hrow : W.ownsRow n₀ e size v k xs)
    (hgrow : (W.alloc tmp).grownBy w1 v.ownBlock) (hne : b ≠ B) : Boxed (w1.setCell ⟨B, 0, none⟩ v') b t u :=
  ((hb.alloc tmp).kept hgrow (hb.not_row hte hrow)).other hne v'

theorem owns_shape {w : World} {base : Nat} {e : TypeId} {size : Nat} {v : Value} {n : Nat} {xs : List Value} (h : w.ownsRow base e size v n xs) : ∃ a c, v = .slice a n c := by
  rcases h.2 with ⟨rfl, rfl⟩ | ⟨g, cap, cur, rfl, _⟩
  · exact ⟨_, _, rfl⟩
  · exact ⟨_, _, rfl⟩

/-- What Split says: the error, and the numbers if there is none. -/
def splitE (l : List Nat) : Nat := ((sq l).getLast?.map (·.2)).getD 0
def splitV (l : List Nat) : List Nat := if splitE l = 0 then (sq l).map (·.1) else []

theorem sqF_length (n : Nat) : ∀ l : List Nat, (sqF n l).length ≤ l.length := by
  induction n with
  | zero => intro l; simp [sqF]
  | succ n ih =>
    intro l
    unfold sqF
    split
    · simp
    split
    · simp; omega
    · rename_i h0 h
      have h1 := ih (l.drop (rd l).2.1)
      have h2 := rd_size l (by simpa using h)
      rw [List.length_drop] at h1
      rw [List.length_cons]; omega
theorem sq_length (l : List Nat) : (sq l).length ≤ l.length := sqF_length _ _
theorem sqF_range (n : Nat) : ∀ l : List Nat, AllB l → ∀ p ∈ sqF n l, p.1 < 18446744073709551616 := by
  induction n with
  | zero => intro l _ p hp; simp [sqF] at hp
  | succ n ih =>
    intro l hb p hp
    unfold sqF at hp
    split at hp
    · simp at hp
    split at hp
    · simp at hp; subst hp; simp
    · rcases List.mem_cons.1 hp with h | h
      · subst h; exact (rd_range l hb).1
      · exact ih _ (hb.drop _) p h
theorem splitV_range (l : List Nat) (hb : AllB l) : ∀ x ∈ splitV l, x < 18446744073709551616 := by
  intro x hx
  unfold splitV at hx
  split at hx
  · simp only [List.mem_map] at hx
    obtain ⟨p, hp, rfl⟩ := hx
    exact sqF_range _ l hb p hp
  · simp at hx

abbrev Own64 (w : World) (base : Nat) (v : Value) (l : List Nat) : Prop := w.ownsRow base 66 1 v l.length (l.map B64)
theorem NRow.of_own {w : World} {base : Nat} {v : Value} {l : List Nat} (h : Own64 w base v l) (hb : ∀ x ∈ l, x < 18446744073709551616) : NRow w v l := by
  refine ⟨hb, ?_⟩
  obtain ⟨hlen, ⟨rfl, hn⟩ | ⟨g, cap, cur, rfl, h1, h2, h3, h4, h5, h6⟩⟩ := h
  · exact .inl ⟨none, 0, rfl, List.eq_nil_of_length_eq_zero hn, Nat.zero_le _⟩
  · refine .inr ⟨g, 0, cap, rfl, h3, h4, fun i hi => ?_⟩
    rw [Nat.zero_add, cell_of_row w g i cur _ (0, 0) h2]
    have e : (cur.toList.take (l.length * 1))[i]? = (l.map B64)[i]? := by rw [h6]
    rw [List.getElem?_take, if_pos (by omega)] at e
    simp only [Array.getElem?_toList] at e
    rw [e]
    simp [gt, hi, B64]

/-- What was written is split again. -/
theorem form_ne (x : Nat) : form x ≠ [] := by have := (form_length x).1; intro h; rw [h] at this; simp at this
theorem sq_all : ∀ l : List Nat, (∀ x ∈ l, x < 18446744073709551616) → sq (allF l) = l.map fun x => (x, 0) := by
  intro l
  induction l with
  | nil => intro _; rfl
  | cons x l ih =>
    intro h
    have hr := rd_form x (h x (by simp)) (allF l)
    have e : allF (x :: l) = form x ++ allF l := by simp [allF]
    have hne : (allF (x :: l)).length ≠ 0 := by rw [e, List.length_append]; have := (form_length x).1; omega
    rw [sq_ok hne (by rw [e, hr]), e, hr]
    dsimp only
    rw [List.drop_left, ih (fun y hy => h y (by simp [hy]))]
    rfl
theorem split_all (l : List Nat) (h : ∀ x ∈ l, x < 18446744073709551616) : splitE (allF l) = 0 ∧ splitV (allF l) = l := by
  have hs := sq_all l h
  have he : splitE (allF l) = 0 := by
    unfold splitE
    rw [hs]
    cases hl : (l.map fun x => (x, 0)).getLast? with
    | none => rfl
    | some p =>
      have := List.mem_of_getLast? hl
      simp only [List.mem_map] at this
      obtain ⟨x, _, rfl⟩ := this
      rfl
  refine ⟨he, ?_⟩
  unfold splitV
  rw [if_pos he, hs, List.map_map]
  simp [Function.comp_def]
end Go.Proofs.Ytlohggdabpfkhaa
