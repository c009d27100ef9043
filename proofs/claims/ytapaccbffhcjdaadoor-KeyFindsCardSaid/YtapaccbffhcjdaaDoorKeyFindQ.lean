/-
  PLAIN FACTS on where a key stands in a list that increases; and slices.Reverse at any slice of the call's own.
-/
import Derived.Test.YtapaccbffhcjdaaDoorKeyRev
namespace Go.Proofs.YtapaccbffhcjdaaDoor
open Go.RowKit Go.Shelf Go.Sort

theorem setK_inc (l : List Ky) : IncK (setK cfK l) := by
  intro i hi
  have h := setK_asc cfK_good l
  unfold Asc at h
  have := List.pairwise_iff_getElem.1 h i (i + 1) (by omega) hi (by omega)
  simpa only [kq, List.getD_eq_getElem?_getD, List.getElem?_eq_getElem (show i < (setK cfK l).length by omega), List.getElem?_eq_getElem hi, Option.getD_some] using this
theorem ins_len (g : Ky → Ky → Int) (x : Ky) : ∀ l : List Ky, (insG g x l).length ≤ l.length + 1
  | [] => by simp [insG]
  | y :: ys => by
    unfold insG
    split
    · simp
    · split
      · simp
      · have := ins_len g x ys; simp; omega
theorem setK_len (l : List Ky) : (setK cfK l).length ≤ l.length := by
  induction l with
  | nil => simp [setK]
  | cons x l ih => have := ins_len cfK x (setK cfK l); show (insG cfK x (setK cfK l)).length ≤ _; simp; omega
theorem find_ex {l : List Ky} (h : IncK l) (x : Ky) : ∃ i, i ≤ l.length ∧ (∀ t, t < i → cfK (kq l t) x < 0) ∧ ∀ t, i ≤ t → t < l.length → 0 ≤ cfK (kq l t) x := by
  have key : ∀ n, n ≤ l.length → ∃ i, i ≤ n ∧ (∀ t, t < i → cfK (kq l t) x < 0) ∧ ∀ t, i ≤ t → t < n → 0 ≤ cfK (kq l t) x := by
    intro n
    induction n with
    | zero => intro _; exact ⟨0, Nat.le_refl _, fun t ht => absurd ht (Nat.not_lt_zero t), fun t _ ht => absurd ht (Nat.not_lt_zero t)⟩
    | succ n ih =>
      intro hn
      obtain ⟨i, hi, h1, h2⟩ := ih (by omega)
      by_cases e : i = n
      · subst e
        by_cases c : cfK (kq l i) x < 0
        · exact ⟨i + 1, Nat.le_refl _, fun t ht => by
            by_cases e : t = i
            · rw [e]; exact c
            · exact h1 t (by omega), fun t a b => by omega⟩
        · exact ⟨i, by omega, h1, fun t a b => by
            obtain rfl : t = i := by omega
            omega⟩
      · refine ⟨i, by omega, h1, fun t a b => ?_⟩
        by_cases e2 : t = n
        · subst e2
          have hlt := inc_lt h i t (by omega) (by omega)
          have h3 := h2 i (Nat.le_refl _) (by omega)
          refine Int.not_lt.1 (fun hc => ?_)
          have := cfK_good.lt_le hlt (Int.le_of_lt hc)
          omega
        · exact h2 t a (by omega)
  exact key l.length (Nat.le_refl _)
theorem find_spec {l : List Ky} (h : IncK l) (x : Ky) : findI l x ≤ l.length ∧ (∀ t, t < findI l x → cfK (kq l t) x < 0) ∧ ∀ t, findI l x ≤ t → t < l.length → 0 ≤ cfK (kq l t) x := by
  obtain ⟨i, h0, h1, h2⟩ := find_ex h x
  rw [findI_eq l x i h0 h1 h2]
  exact ⟨h0, h1, h2⟩
theorem find_self {l : List Ky} (h : IncK l) (j : Nat) (hj : j < l.length) : findI l (kq l j) = j :=
  findI_eq l _ j (by omega) (fun t ht => inc_lt h t j ht hj) (fun t a b => by
    by_cases e : t = j
    · rw [e, cfK_self]; exact Int.le_refl _
    · have := inc_lt h j t (by omega) b
      have h2 := cfK_anti (kq l t) (kq l j)
      omega)
theorem twice_not (l : List Ky) (x : Ky) : ¬ IncK (l ++ [x, x]) := by
  intro h
  have := h l.length (by simp)
  have e1 : kq (l ++ [x, x]) l.length = x := by simp [kq, List.getD_eq_getElem?_getD]
  have e2 : kq (l ++ [x, x]) (l.length + 1) = x := by simp [kq, List.getD_eq_getElem?_getD]
  rw [e1, e2, cfK_self] at this
  omega
set_option maxRecDepth 100000 in
set_option maxHeartbeats 1000000 in
/-- slices.Reverse of any slice of the call's own. -/
theorem reverseK_calls (a : Option Addr) (c base : Nat) (l : List Ky) (w : World) (hO : OwnK w base (.slice a l.length c) l) (hsz : l.length ≤ 1000000) (hbase : base ≤ w.heap.size) :
    Calls Tryd.prog 36 #[.slice a l.length c] w fun e w' => e = .returned (.tuple #[]) ∧ KRow w' (.slice a l.length c) (revF l l.length) ∧ Below base w w' := by
  by_cases h0 : 0 < l.length
  · obtain ⟨hl, ⟨e, hz⟩ | ⟨g, cap, cur, e, h⟩⟩ := id hO
    · omega
    · cases e
      refine (reverseK_own g c base l w hO hsz h0).mono fun e w' ⟨he, ho, hg⟩ => ⟨he, ?_, (Below.refl base w).grown hg hbase (fun j hj => ?_)⟩
      · have := OwnK.row ho
        rwa [revF_length] at this
      · cases hj; exact h.1
  · have hl : l = [] := List.eq_nil_of_length_eq_zero (by omega)
    subst hl
    have HR := Lib.hid hO.row
    clear hO
    go_enter Tryd.func36, Tryd.ntmps36
    go_wp2_with fail
    go_loopw [2, 3] (fun s2 s3 wr => s2 = .int .i64 0 ∧ s3 = .int .i64 (-1) ∧ wr = w) (fun _ _ _ => 0)
    case atStart => exact ⟨rfl, rfl, rfl⟩
    case round =>
      obtain ⟨rfl, rfl, rfl⟩ := hrel
      go_wp2
      go_end0
      exact ⟨rfl, HR.out, Below.refl _ _⟩
theorem own_ge {w : World} {base : Nat} {v : Value} {l : List Ky} (h : OwnK w base v l) : ∀ q, v.ownBlock = some q → base ≤ q := by
  obtain ⟨-, ⟨rfl, -⟩ | ⟨g, cap, cur, rfl, h⟩⟩ := h
  · intro q hq; cases hq
  · intro q hq; cases hq; exact h.1
theorem own_lt {w : World} {base : Nat} {a : Option Addr} {n c : Nat} {l : List Ky} (h : OwnK w base (.slice a n c) l) : ∀ g, a = some ⟨g, 0, none⟩ → g < w.heap.size := by
  intro g hg
  subst hg
  obtain ⟨-, ⟨e, -⟩ | ⟨g', cap, cur, e, h⟩⟩ := h
  · cases e
  · cases e; exact (Array.getElem?_eq_some_iff.1 h.2.1).1
set_option maxRecDepth 100000 in
set_option maxHeartbeats 1000000 in
/-- slices.Reverse of any slice of the call's own: a younger key stays. -/
theorem reverseK_keep (a : Option Addr) (c base : Nat) (l : List Ky) (w : World) (b : Nat) (X : Ky) (hO : OwnK w base (.slice a l.length c) l) (hsz : l.length ≤ 1000000) (hbase : base ≤ w.heap.size) (hK : KAt w b X) (hlt : ∀ g, a = some ⟨g, 0, none⟩ → g < b) :
    Calls Tryd.prog 36 #[.slice a l.length c] w fun e w' => e = .returned (.tuple #[]) ∧ KRow w' (.slice a l.length c) (revF l l.length) ∧ Below base w w' ∧ KAt w' b X := by
  by_cases h0 : 0 < l.length
  · obtain ⟨hl, ⟨e, hz⟩ | ⟨g, cap, cur, e, h⟩⟩ := id hO
    · omega
    · cases e
      have hgb := hlt g rfl
      refine (reverseK_own g c base l w hO hsz h0).mono fun e w' ⟨he, ho, hg⟩ => ⟨he, ?_, (Below.refl base w).grown hg hbase (fun j hj => ?_), (hg.block b hK.lt (fun e => ?_)).trans hK⟩
      · have := OwnK.row ho
        rwa [revF_length] at this
      · cases hj; exact h.1
      · cases e; omega
  · have hl : l = [] := List.eq_nil_of_length_eq_zero (by omega)
    subst hl
    have HR := Lib.hid hO.row
    have HK := Lib.hid hK
    clear hO hlt hK
    go_enter Tryd.func36, Tryd.ntmps36
    go_wp2_with fail
    go_loopw [2, 3] (fun s2 s3 wr => s2 = .int .i64 0 ∧ s3 = .int .i64 (-1) ∧ wr = w) (fun _ _ _ => 0)
    case atStart => exact ⟨rfl, rfl, rfl⟩
    case round =>
      obtain ⟨rfl, rfl, rfl⟩ := hrel
      go_wp2
      go_end0
      exact ⟨rfl, HR.out, Below.refl _ _, HK.out⟩
end Go.Proofs.YtapaccbffhcjdaaDoor
