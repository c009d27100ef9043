/-
  PLAIN: bytes of no frame, as the laws make them of a number; and rows of bytes made by literals.
-/
import Derived.Test.YteaeedhhdnkldaaLeast03
import Derived.Test.YteaeedhhdnkldaaPlayed2
namespace Go.Proofs.Yteaeedhhdnkldaa
open Go.RowKit Go.Shelf Pl

theorem hownW_sat {w w' : World} {base k st fr : Nat} {h v : Value} {L : List (List Nat)} (hr : HOwn w base v L) (s : SAt w k st fr h) (hg : w.grownBy w' (some k)) : HOwn w' base v L := by
  obtain ⟨V, h1, h2⟩ := hr
  refine ⟨V, h1.kept hg ?_, h2.keep hg fun r c t e hh => by cases e; rw [show w.heap[k]? = _ from s] at hh; cases hh; decide⟩
  rcases h1.2 with ⟨rfl, _⟩ | ⟨g, cap, cur, rfl, _, q, _⟩
  · exact .inl rfl
  · refine .inr fun e => ?_
    have e2 : g = k := by simpa [Value.ownBlock] using e
    rw [e2, show w.heap[k]? = _ from s] at q
    simp at q
theorem feedW_joined {L : List (List Nat)} (hL : ∀ l ∈ L, l.length ≤ 16384) : feedE (joinF L) = 0 ∧ feedH (joinF L) = [] := by
  obtain ⟨_, h2, h3⟩ := spl_joined L hL
  refine ⟨by unfold feedE; rw [h3]; rfl, ?_⟩
  unfold feedH
  rw [h3, h2, if_neg (by decide), List.drop_length]
/-- Bytes of no frame. -/
def wrongL (way r : Nat) : List Nat := match r with | 0 => [249 + way % 7] | 1 => [247, way % 247] | 2 => [248, 0] | 3 => [248, 65 + way % 191] | _ => [248, 64, 1 + way % 255]
theorem wrongL_bnd (way r : Nat) : bnd (wrongL way r) = none := by
  unfold wrongL
  split
  · have : ¬ 249 + way % 7 ≤ 246 := by omega
    simp only [bnd]
    rw [if_neg this, if_neg (by omega), if_neg (by omega)]
  · simp only [bnd]
    rw [if_neg (by decide), if_pos (by trivial), if_pos (by omega)]
  · rfl
  · simp only [bnd]
    rw [if_neg (by decide), if_neg (by decide), if_pos (by trivial), if_pos (by omega)]
  · simp only [bnd]
    rw [if_neg (by decide), if_neg (by decide), if_pos (by trivial), if_pos (by omega)]
theorem wrongL_AllB (way r : Nat) : AllB (wrongL way r) := by
  unfold wrongL
  split
  · exact AllB.cons (by omega) AllB.nil
  · exact AllB.cons (by omega) (AllB.cons (by omega) AllB.nil)
  · exact AllB.cons (by omega) (AllB.cons (by omega) AllB.nil)
  · exact AllB.cons (by omega) (AllB.cons (by omega) AllB.nil)
  · exact AllB.cons (by omega) (AllB.cons (by omega) (AllB.cons (by omega) AllB.nil))
theorem wrongL_length (way r : Nat) : 1 ≤ (wrongL way r).length ∧ (wrongL way r).length ≤ 3 := by
  unfold wrongL
  split <;> simp
theorem wrongL_ferr (way r : Nat) (q : List Nat) : ferr (wrongL way r ++ q) = 31 := by
  unfold ferr
  rw [bnd_none (wrongL_AllB way r) (wrongL_bnd way r)]
/-- Before its last byte it is a beginning. -/
theorem wrongL_init (way r : Nat) : ferr ((wrongL way r).take ((wrongL way r).length - 1)) = 30 := by
  unfold wrongL
  split <;> rfl
/-- What a stream holds that got whole frames and a beginning. -/
theorem join_begin {L : List (List Nat)} (hL : ∀ l ∈ L, l.length ≤ 16384) {r : List Nat} (hr : ferr r = 30) : splB (joinF L ++ r) = L ∧ splE (joinF L ++ r) ≠ 31 ∧ feedE (joinF L ++ r) = 0 ∧ feedH (joinF L ++ r) = r := by
  obtain ⟨h1, h2, h3⟩ := spl_join L hL r (by omega)
  have h4 : splE (joinF L ++ r) ≠ 31 := by rw [h3, hr]; split <;> decide
  refine ⟨h1, h4, feedE_0 h4, ?_⟩
  unfold feedH
  rw [if_neg h4, h2, List.drop_left]
theorem join_wrong {L : List (List Nat)} (hL : ∀ l ∈ L, l.length ≤ 16384) {r : List Nat} (hr : ferr r = 31) : splB (joinF L ++ r) = L ∧ splS (joinF L ++ r) = (joinF L).length ∧ splE (joinF L ++ r) = 31 := by
  obtain ⟨h1, h2, h3⟩ := spl_join L hL r (by omega)
  have h0 : r.length ≠ 0 := by
    intro h
    rw [List.eq_nil_of_length_eq_zero h, ferr_nil] at hr
    cases hr
  exact ⟨h1, h2, by rw [h3, if_neg h0, hr]⟩
/-- A block of bytes, read. -/
theorem brow_block {W : World} {g n : Nat} {cs : Array Value} {l : List Nat} (h : W.heap[g]? = some (.cells cs 5 (0, 0))) (hcs : cs = (l.map fun d : Nat => Value.int .u8 d).toArray) (hn : n = l.length) (hb : AllB l) (hl : l.length ≤ 1000) : BRow W (.slice (some ⟨g, 0, none⟩) n n) l := by
  subst hcs hn
  refine ⟨hb, .inr ⟨g, 0, l.length, rfl, Nat.le_refl _, by unfold maxLen; omega, fun i hi => ?_⟩⟩
  rw [Nat.zero_add, cell_of_row _ _ i _ _ (0, 0) h]
  simp [gt, hi]
/-- Six blocks made one behind the other. -/
theorem alloc6 (w : World) (o0 o1 o2 o3 o4 o5 : Obj) : let W := (((((w.alloc o0).alloc o1).alloc o2).alloc o3).alloc o4).alloc o5
    W.heap[w.heap.size]? = some o0 ∧ W.heap[w.heap.size + 1]? = some o1 ∧ W.heap[w.heap.size + 2]? = some o2 ∧ W.heap[w.heap.size + 3]? = some o3 ∧ W.heap[w.heap.size + 4]? = some o4 ∧ W.heap[w.heap.size + 5]? = some o5 := by
  have hs : ∀ (W : World) (o : Obj), (W.alloc o).heap.size = W.heap.size + 1 := World.size_alloc
  have ho : ∀ (W : World) (o : Obj) (i : Nat) (x : Option Obj), W.heap[i]? = x → i < W.heap.size → (W.alloc o).heap[i]? = x := fun W o i x h hi => (heap_alloc_old W o hi).trans h
  have hn : ∀ (W : World) (o : Obj) (i : Nat), i = W.heap.size → (W.alloc o).heap[i]? = some o := fun W o i h => by rw [h]; exact heap_alloc_new W o
  have t1 := hs w o0
  have t2 := hs (w.alloc o0) o1
  have t3 := hs ((w.alloc o0).alloc o1) o2
  have t4 := hs (((w.alloc o0).alloc o1).alloc o2) o3
  have t5 := hs ((((w.alloc o0).alloc o1).alloc o2).alloc o3) o4
  exact ⟨ho _ _ _ _ (ho _ _ _ _ (ho _ _ _ _ (ho _ _ _ _ (ho _ _ _ _ (hn _ _ _ rfl) (by omega)) (by omega)) (by omega)) (by omega)) (by omega),
    ho _ _ _ _ (ho _ _ _ _ (ho _ _ _ _ (ho _ _ _ _ (hn _ _ _ (by omega)) (by omega)) (by omega)) (by omega)) (by omega),
    ho _ _ _ _ (ho _ _ _ _ (ho _ _ _ _ (hn _ _ _ (by omega)) (by omega)) (by omega)) (by omega),
    ho _ _ _ _ (ho _ _ _ _ (hn _ _ _ (by omega)) (by omega)) (by omega),
    ho _ _ _ _ (hn _ _ _ (by omega)) (by omega),
    hn _ _ _ (by omega)⟩
/-- The rows of bytes of no frame, as the laws' literal makes them. -/
theorem wrong_rows (w : World) (way q7 q2 q1 q5 : Nat) (hq : way % 7 = q7 ∧ way % 247 = q2 ∧ way % 191 = q1 ∧ way % 255 = q5) (o5 : Obj) :
    let W := (((((w.alloc (.cells #[.int .u8 (249 + (q7 : Int))] 5)).alloc (.cells #[.int .u8 247, .int .u8 q2] 5)).alloc (.cells #[.int .u8 248, .int .u8 0] 5)).alloc (.cells #[.int .u8 248, .int .u8 (65 + (q1 : Int))] 5)).alloc (.cells #[.int .u8 248, .int .u8 64, .int .u8 (1 + (q5 : Int))] 5)).alloc o5
    (BRow W (.slice (some ⟨w.heap.size, 0, none⟩) 1 1) (wrongL way 0) ∧ BRow W (.slice (some ⟨w.heap.size + 1, 0, none⟩) 2 2) (wrongL way 1) ∧ BRow W (.slice (some ⟨w.heap.size + 2, 0, none⟩) 2 2) (wrongL way 2) ∧ BRow W (.slice (some ⟨w.heap.size + 3, 0, none⟩) 2 2) (wrongL way 3) ∧ BRow W (.slice (some ⟨w.heap.size + 4, 0, none⟩) 3 3) (wrongL way 4)) ∧ Below w.heap.size w W := by
  obtain ⟨e7, e2, e1, e5⟩ := hq
  obtain ⟨h0, h1, h2, h3, h4, _⟩ := alloc6 w (.cells #[.int .u8 (249 + (q7 : Int))] 5) (.cells #[.int .u8 247, .int .u8 q2] 5) (.cells #[.int .u8 248, .int .u8 0] 5) (.cells #[.int .u8 248, .int .u8 (65 + (q1 : Int))] 5) (.cells #[.int .u8 248, .int .u8 64, .int .u8 (1 + (q5 : Int))] 5) o5
  refine ⟨⟨brow_block h0 ?_ rfl (wrongL_AllB way 0) (by have := (wrongL_length way 0).2; omega), brow_block h1 ?_ rfl (wrongL_AllB way 1) (by have := (wrongL_length way 1).2; omega), brow_block h2 ?_ rfl (wrongL_AllB way 2) (by have := (wrongL_length way 2).2; omega), brow_block h3 ?_ rfl (wrongL_AllB way 3) (by have := (wrongL_length way 3).2; omega), brow_block h4 ?_ rfl (wrongL_AllB way 4) (by have := (wrongL_length way 4).2; omega)⟩, ?_⟩
  · simp [wrongL, e7]
  · simp [wrongL, e2]
  · simp [wrongL]
  · simp [wrongL, e1]
  · simp [wrongL, e5]
  · have a0 := (Below.refl w.heap.size w).alloc (Nat.le_refl _) (.cells #[.int .u8 (249 + (q7 : Int))] 5)
    have a1 := a0.alloc a0.size (.cells #[.int .u8 247, .int .u8 q2] 5)
    have a2 := a1.alloc a1.size (.cells #[.int .u8 248, .int .u8 0] 5)
    have a3 := a2.alloc a2.size (.cells #[.int .u8 248, .int .u8 (65 + (q1 : Int))] 5)
    have a4 := a3.alloc a3.size (.cells #[.int .u8 248, .int .u8 64, .int .u8 (1 + (q5 : Int))] 5)
    exact a4.alloc a4.size o5
end Go.Proofs.Yteaeedhhdnkldaa
