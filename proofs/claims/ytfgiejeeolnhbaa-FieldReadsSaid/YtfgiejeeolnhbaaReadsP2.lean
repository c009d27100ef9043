/-
  PLAIN: what the reference of layer 2 has read so far, and what it says then. CONTRACT of fermataref02.copied.
-/
import Derived.Test.YtfgiejeeolnhbaaRefRight
import Derived.Test.YtfgiejeeolnhbaaFieldPlain
import Derived.Test.YtfgiejeeolnhbaaTheirs02
namespace Go.Proofs.Ytfgiejeeolnhbaa
open Go.RowKit Pl

/-- The fields L were read of the bytes before the place k. -/
def RdSt (bs : List Nat) (k : Nat) (L : List Fld) : Prop :=
  k ≤ bs.length ∧ sumB L ≤ 16384 ∧ L.length ≤ 64 ∧ ∃ (pre : List Yl) (n m : Nat) (a : Int), L = pre.map ylF ∧ fsq bs = pre ++ fsqA k (bs.drop k) ∧ 0 ≤ a ∧ (∀ rest, rdRes 64 16384 0 (pre ++ rest) = rdRes n m a rest) ∧ ∀ X, fits 64 16384 0 (L ++ X) = fits n m a X

theorem rdSt_nil (bs : List Nat) : RdSt bs 0 [] :=
  ⟨Nat.zero_le _, Nat.zero_le _, Nat.zero_le _, [], 64, 16384, 0, rfl, rfl, Int.le_refl _, fun _ => rfl, fun _ => rfl⟩
theorem rdSt_end {bs : List Nat} {L : List Fld} (h : RdSt bs bs.length L) : readE bs = none ∧ readV bs = L := by
  obtain ⟨-, -, -, pre, n, m, a, rfl, h2, -, h4, -⟩ := h
  rw [List.drop_length, fsqA_nil, List.append_nil] at h2
  refine ⟨?_, by unfold readV; rw [h2]⟩
  have := h4 []
  rw [List.append_nil] at this
  unfold readE
  rw [h2, this]
  rfl
/-- No field begins here. -/
theorem rdSt_none {bs : List Nat} {k : Nat} {L : List Fld} (h : RdSt bs k L) (hk : k < bs.length) (hz : (firstN (bs.drop k)).2.2 = 0) : readE bs = some k := by
  obtain ⟨-, -, -, pre, n, m, a, rfl, h2, h3, h4, -⟩ := h
  rw [fsqA_zero k (by simp; omega) hz] at h2
  unfold readE
  rw [h2, h4]
  unfold rdRes
  have : takeOk n m a ((0 : Nat) : Int) ([] : List Nat).length = false := by
    simp only [takeOk, decide_eq_false_iff_not]
    omega
  dsimp only
  rw [this]
  rfl
theorem rdSt_bad {bs : List Nat} {k x n er : Nat} {L : List Fld} (h : RdSt bs k L) (hk : k < bs.length) (hr : rd (bs.drop (k + 1)) = (x, n, er)) (hb : er ≠ 0 ∨ bs.length < k + 1 + n + x) : readE bs = some k := by
  refine rdSt_none h hk ?_
  have : firstN (bs.drop k) = (0, [], 0) := by
    unfold firstN
    rw [List.drop_drop, hr]
    refine if_pos ?_
    dsimp only
    rw [List.length_drop]
    omega
  rw [this]
theorem rdSt_next {bs : List Nat} {k x n : Nat} {L : List Fld} (h : RdSt bs k L) (hk : k < bs.length) (hr : rd (bs.drop (k + 1)) = (x, n, 0)) (hb : k + 1 + n + x ≤ bs.length) :
    (rightF (L ++ [(((gt bs k : Nat) : Int), (bs.drop (k + 1 + n)).take x)]) = true → RdSt bs (k + 1 + n + x) (L ++ [(((gt bs k : Nat) : Int), (bs.drop (k + 1 + n)).take x)])) ∧ (rightF (L ++ [(((gt bs k : Nat) : Int), (bs.drop (k + 1 + n)).take x)]) = false → readE bs = some k) := by
  have hlx : ((bs.drop (k + 1 + n)).take x).length = x := by simp; omega
  by_cases hx : 16384 < x
  · have hz : (firstN (bs.drop k)).2.2 = 0 := by
      have : firstN (bs.drop k) = (0, [], 0) := by
        unfold firstN
        rw [List.drop_drop, hr]
        exact if_pos (.inr (.inl hx))
      rw [this]
    refine ⟨fun ht => ?_, fun _ => rdSt_none h hk hz⟩
    have := ((rightF_iff _).1 ht).2.2
    rw [sumB_append] at this
    dsimp only at this
    omega
  · have hf : firstN (bs.drop k) = (gt bs k, (bs.drop (k + 1 + n)).take x, 1 + n + x) := by
      unfold firstN
      rw [List.drop_drop, hr]
      dsimp only
      rw [if_neg (by rw [List.length_drop]; omega), List.drop_drop, ← Nat.add_assoc]
      have hg : gt (bs.drop k) 0 = gt bs k := by simp [gt, List.getD_eq_getElem?_getD]
      rw [hg]
    obtain ⟨h0, h1, h1', pre, n1, m1, a1, rfl, h2, h3, h4, h5⟩ := h
    have hs := fsqA_step k (l := bs.drop k) (by simp; omega) (by rw [hf]; dsimp only; omega)
    rw [hf] at hs
    dsimp only at hs
    rw [List.drop_drop, show k + (1 + n + x) = k + 1 + n + x by omega] at hs
    have hR : rightF (pre.map ylF ++ [(((gt bs k : Nat) : Int), (bs.drop (k + 1 + n)).take x)]) = takeOk n1 m1 a1 (gt bs k : Nat) ((bs.drop (k + 1 + n)).take x).length := by
      unfold rightF
      rw [h5]
      simp [fits]
    constructor
    · intro ht
      have hi := (rightF_iff _).1 ht
      rw [hR] at ht
      refine ⟨hb, hi.2.2, hi.1, pre ++ [(k, gt bs k, (bs.drop (k + 1 + n)).take x)], n1 - 1, m1 - ((bs.drop (k + 1 + n)).take x).length, (gt bs k : Nat), by simp [ylF], ?_, by omega, fun rest => ?_, fun X => ?_⟩
      · rw [h2, hs, List.append_assoc]; rfl
      · rw [List.append_assoc, h4]
        simp only [List.cons_append, List.nil_append]
        exact if_pos ht
      · rw [List.append_assoc, h5]
        simp only [List.cons_append, List.nil_append, fits, ht, Bool.true_and]
    · intro ht
      rw [hR] at ht
      unfold readE
      rw [h2, hs, h4]
      unfold rdRes
      dsimp only
      rw [ht]
      rfl

set_option maxRecDepth 100000 in
set_option maxHeartbeats 1000000 in
theorem copied_calls (v : Value) (l : List Nat) (w : World) (h : BRow w v l) (hl : l.length ≤ 140737488355000) :
    Calls Try.prog 83 #[v] w fun e w' => ∃ v', e = .returned v' ∧ Own8 w' w.heap.size v' l ∧ Below w.heap.size w w' := by
  have HR := Lib.hid h
  obtain ⟨a, c, rfl⟩ := h.shape
  clear h
  have HL := Lib.hid (own8_lit w [] #[] w.heap.size 0 0 rfl rfl rfl rfl (by simp) w.heap.size (Nat.le_refl _))
  have HA := Lib.hid ((Below.refl w.heap.size w).alloc (Nat.le_refl _) (.cells #[] 5))
  go_enter Try.func83, Try.ntmps83
  go_wp2_with (at_builtin; refine wpList_append8 rfl (.tmp 3) (.tmp 4) rfl w.heap.size _ _ rfl HL.out _ l rfl (HR.out.below HA.out) (by simp; omega) HA.out.size ?_; intro v5 w5 hown5 hg5; have HO5 := Lib.hid hown5; have HB5 := Lib.hid (HA.out.grown hg5 HA.out.size (fun j hj => (HL.out.lt j hj).1)); clear hown5 hg5)
  go_ret
  exact ⟨_, rfl, HO5.out, HB5.out⟩

theorem wpList_appendR {ops : Array Oper} {rest : List Oper} {o : Oper} {a : Act} {w : World} {Q : Exit → Act → World → Prop} (hgd : o.guard = none) (s x : Operand)
    (ho : o.op = .call { callee := .builtin .append, args := #[s, x], argTypes := #[42, 42] })
    (base : Nat) (v : Value) (k : Nat) (xs : List Value) (hs : a.eval s = v) (hown : w.ownsRow base 97 2 v k xs) (ad : Addr) (m c : Nat) (news : List Value) (hx : a.eval x = .slice (some ad) m c) (hl : news.length = m * 2) (hnews : ∀ j u, news[j]? = some u → w.cell? (ad.add j) = some u) (h1 : ∀ u ∈ news, u.oneCell' = true)
    (hk : k + m ≤ 100000) (hbase : base ≤ w.heap.size)
    (h : ∀ v' w', w'.ownsRow base 97 2 v' (k + m) (xs ++ news) → w.grownBy w' v.ownBlock → wpList Try.prog ops Q rest (a.put o.dst v') w') : wpList Try.prog ops Q (o :: rest) a w := by
  obtain ⟨i0, hi, hz0, hz1, hz2⟩ := info_parts info_fieldR
  exact wpList_append_own_at w hgd s x 42 ho base 97 i0 (.agg #[.int .i64 0, .slice none 0 0]) 2 32 Try.underlying42 hi hz0 hz1 hz2 rfl (by decide) v k xs hs hown ad m c news hx hl hnews h1 (by unfold maxLen; omega) (by omega) hbase (fun v' w' h2 h3 _ _ => h v' w' h2 h3)

theorem allB_take {l : List Nat} (h : AllB l) (n : Nat) : AllB (l.take n) := fun x hx => h x (List.mem_of_mem_take hx)
end Go.Proofs.Ytfgiejeeolnhbaa
