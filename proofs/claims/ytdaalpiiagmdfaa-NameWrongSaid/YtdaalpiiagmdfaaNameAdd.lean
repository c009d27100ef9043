/-
  CONTRACTS of name.Add and name.Drop.
-/
import Derived.Test.YtdaalpiiagmdfaaNameConcat
import Derived.Test.YtdaalpiiagmdfaaNameRange
import Derived.Deep.RegionLaw
import Derived.Deep.RegionWith
import Derived.Handy
import Derived.WalkMore
import Derived.Deep.CutBlock
import Derived.Deep.DeepCutAuto
import Derived.Test.YtdaalpiiagmdfaaNameSortC
namespace Go.Proofs.Ytdaalpiiagmdfaa
open Go.RowKit Go.Shelf

/-- Three lists, one behind the other: the middle one has one element. -/
theorem concat3 (W W2 : World) (g g1 : Nat) (x y : Value) (s : List UInt8) (l1 l2 : List (List UInt8)) (hx : TRow W x l1) (hy : TRow W y l2) (hb : Below W.heap.size W W2) (hg : g < W2.heap.size) (hg1 : g1 < W2.heap.size)
    (c0 : W2.cell? ⟨g, 0, none⟩ = some x) (c1 : W2.cell? ⟨g, 1, none⟩ = some (.slice (some ⟨g1, 0, none⟩) 1 1)) (c2 : W2.cell? ⟨g, 2, none⟩ = some y) (cs : W2.cell? ⟨g1, 0, none⟩ = some (str s)) (hl : l1.length + l2.length ≤ 1000) :
    Calls Try.prog 53 #[.slice (some ⟨g, 0, none⟩) 3 3] W2 fun e w' => ∃ v, e = .returned v ∧ OwnS w' W.heap.size v (l1 ++ s :: l2) ∧ Below W.heap.size W w' := by
  have h := concat_calls g 3 3 (fun i => if i = 0 then x else if i = 1 then .slice (some ⟨g1, 0, none⟩) 1 1 else y) (fun i => if i = 0 then l1 else if i = 1 then [s] else l2) W2 (Nat.le_refl _) (by omega) hg
    (fun i hi => by
      rcases (show i = 0 ∨ i = 1 ∨ i = 2 by omega) with rfl | rfl | rfl
      · exact c0
      · exact c1
      · exact c2)
    (fun i hi => by
      rcases (show i = 0 ∨ i = 1 ∨ i = 2 by omega) with rfl | rfl | rfl
      · exact hx.below hb
      · refine .inr ⟨g1, 0, 1, rfl, hg1, Nat.le_refl _, fun j z hz => ?_⟩
        cases j with
        | zero => simp at hz; subst hz; exact cs
        | succ j => simp at hz
      · exact hy.below hb)
    (by simp [catN]; omega)
  refine h.mono ?_
  rintro e w' ⟨v, rfl, ho, hbw⟩
  refine ⟨v, rfl, own_lower (by simpa [catN] using ho) hb.size, hb.trans (hbw.mono hb.size)⟩
theorem concat2 (W W2 : World) (g : Nat) (x y : Value) (l1 l2 : List (List UInt8)) (hx : TRow W x l1) (hy : TRow W y l2) (hb : Below W.heap.size W W2) (hg : g < W2.heap.size)
    (c0 : W2.cell? ⟨g, 0, none⟩ = some x) (c1 : W2.cell? ⟨g, 1, none⟩ = some y) (hl : l1.length + l2.length ≤ 1000) :
    Calls Try.prog 53 #[.slice (some ⟨g, 0, none⟩) 2 2] W2 fun e w' => ∃ v, e = .returned v ∧ OwnS w' W.heap.size v (l1 ++ l2) ∧ Below W.heap.size W w' := by
  have h := concat_calls g 2 2 (fun i => if i = 0 then x else y) (fun i => if i = 0 then l1 else l2) W2 (Nat.le_refl _) (by omega) hg
    (fun i hi => by
      rcases (show i = 0 ∨ i = 1 by omega) with rfl | rfl
      · exact c0
      · exact c1)
    (fun i hi => by
      rcases (show i = 0 ∨ i = 1 by omega) with rfl | rfl
      · exact hx.below hb
      · exact hy.below hb)
    (by simp [catN]; omega)
  refine h.mono ?_
  rintro e w' ⟨v, rfl, ho, hbw⟩
  refine ⟨v, rfl, own_lower (by simpa [catN] using ho) hb.size, hb.trans (hbw.mono hb.size)⟩
/-- The same, in the world as the walk has it. -/
theorem concat3' (W : World) (x y : Value) (s : List UInt8) (l1 l2 : List (List UInt8)) (tA tB : TypeId) (hx : TRow W x l1) (hy : TRow W y l2) (hl : l1.length + l2.length ≤ 1000) :
    Calls Try.prog 53 #[.slice (some ⟨W.heap.size + 1, 0, none⟩) 3 3] ((W.alloc (.cells #[.string ⟨s.toArray⟩] tA)).alloc (.cells #[x, .slice (some ⟨W.heap.size, 0, none⟩) 1 1, y] tB)).drew fun e w' => ∃ v, e = .returned v ∧ OwnS w' W.heap.size v (l1 ++ s :: l2) ∧ Below W.heap.size W w' := by
  obtain ⟨A, hA⟩ : ∃ A, A = W.alloc (.cells #[.string ⟨s.toArray⟩] tA) := ⟨_, rfl⟩
  have hs : A.heap.size = W.heap.size + 1 := by rw [hA]; simp
  have hc : A.cell? ⟨W.heap.size, 0, none⟩ = some (str s) := by rw [hA]; exact cell_one_new W (.string ⟨s.toArray⟩) tA 0 _ rfl
  have hb : Below W.heap.size W A := by rw [hA]; exact (Below.refl _ _).alloc (Nat.le_refl _) _
  rw [← hA, ← hs]
  obtain ⟨B, hB⟩ : ∃ B, B = A.alloc (.cells #[x, .slice (some ⟨W.heap.size, 0, none⟩) 1 1, y] tB) := ⟨_, rfl⟩
  have hb2 : Below A.heap.size A B := by rw [hB]; exact (Below.refl _ _).alloc (Nat.le_refl _) _
  have hn : B.heap[A.heap.size]? = some (.cells #[x, .slice (some ⟨W.heap.size, 0, none⟩) 1 1, y] tB (0, 0)) := by rw [hB]; exact World.alloc_heap_new A _
  have hs2 : A.heap.size < B.heap.size := (Array.getElem?_eq_some_iff.1 hn).1
  rw [← hB]
  refine concat3 W B.drew A.heap.size W.heap.size x y s l1 l2 hx hy ((hb.trans (hb2.mono hb.size)).drew) hs2 (by show W.heap.size < B.heap.size; omega) ?_ ?_ ?_ ?_ hl
  · show B.cell? _ = _; simp [World.cell?, hn]
  · show B.cell? _ = _; simp [World.cell?, hn]
  · show B.cell? _ = _; simp [World.cell?, hn]
  · show B.cell? _ = _; exact (hb2.cell (p := ⟨W.heap.size, 0, none⟩) (by show W.heap.size < A.heap.size; omega)).trans hc
theorem concat2' (W : World) (x y : Value) (l1 l2 : List (List UInt8)) (tB : TypeId) (hx : TRow W x l1) (hy : TRow W y l2) (hl : l1.length + l2.length ≤ 1000) :
    Calls Try.prog 53 #[.slice (some ⟨W.heap.size, 0, none⟩) 2 2] (W.alloc (.cells #[x, y] tB)).drew fun e w' => ∃ v, e = .returned v ∧ OwnS w' W.heap.size v (l1 ++ l2) ∧ Below W.heap.size W w' := by
  obtain ⟨B, hB⟩ : ∃ B, B = W.alloc (.cells #[x, y] tB) := ⟨_, rfl⟩
  have hb2 : Below W.heap.size W B := by rw [hB]; exact (Below.refl _ _).alloc (Nat.le_refl _) _
  have hn : B.heap[W.heap.size]? = some (.cells #[x, y] tB (0, 0)) := by rw [hB]; exact World.alloc_heap_new W _
  have hs2 : W.heap.size < B.heap.size := (Array.getElem?_eq_some_iff.1 hn).1
  rw [← hB]
  refine concat2 W B.drew W.heap.size x y l1 l2 hx hy hb2.drew hs2 ?_ ?_ hl
  · show B.cell? _ = _; simp [World.cell?, hn]
  · show B.cell? _ = _; simp [World.cell?, hn]
theorem TRow.take {w : World} {a : Option Addr} {n c : Nat} {l : List (List UInt8)} (h : TRow w (.slice a n c) l) (k : Nat) (hk : k ≤ l.length) : TRow w (.slice a k c) (l.take k) := by
  rcases h with ⟨rfl, a2, c2, e⟩ | ⟨b, o, c2, e, h2, h3, h4⟩
  · cases e
    obtain rfl : k = 0 := by simpa using hk
    exact .inl ⟨by simp, a, c, rfl⟩
  · cases e
    refine .inr ⟨b, o, c, by rw [List.length_take_of_le hk], h2, by rw [List.length_take_of_le hk]; omega, fun i x hx => ?_⟩
    rw [List.getElem?_take] at hx
    split at hx
    · exact h4 i x hx
    · cases hx

/-- What Add answers. -/
def addE (l : List (List UInt8)) (s : List UInt8) : Int := if lookE l s = 0 then if lookH l s = true then 0 else if l.length = 256 then 5 else 0 else lookE l s
def addV (l : List (List UInt8)) (s : List UInt8) : List (List UInt8) := if lookE l s = 0 then if lookH l s = true then l else if l.length = 256 then [] else l.take (lookI l s) ++ s :: l.drop (lookI l s) else []

theorem lookI_le (l : List (List UInt8)) (s : List UInt8) : lookI l s ≤ l.length := by
  unfold lookI
  split
  · split
    · unfold lookAt firstN
      refine Nat.le_trans List.countP_le_length ?_
      rw [List.length_range]
      exact Nat.le_refl _
    · exact Nat.zero_le _
  · exact Nat.zero_le _

set_option maxRecDepth 100000 in
set_option maxHeartbeats 2000000 in
theorem add_calls (v : Value) (l : List (List UInt8)) (s : List UInt8) (w : World) (hrow : TRow w v l) (hlen : l.length ≤ 1000000) (hl : ∀ x ∈ l, x.length ≤ 1000000) (hs : s.length ≤ 1000000) :
    Calls Try.prog 21 #[v, str s] w fun e w' => ∃ v', e = .returned (.tuple #[v', .int .i64 (addE l s)]) ∧ OwnS w' w.heap.size v' (addV l s) ∧ Below w.heap.size w w' := by
  have HLk := Lib.hid (look_calls v l s w hrow hlen hl hs)
  have HRow := Lib.hid hrow
  have HCl := Lib.hid (fun W h => cloneS_calls v l W h hlen)
  have hIle := lookI_le l s
  have h256 : lookE l s = 0 → l.length ≤ 256 := by
    intro h
    unfold lookE at h
    split at h
    · rename_i hset
      unfold setN at hset
      simp at hset
      exact hset.1
    · cases h
  unfold addE addV
  obtain ⟨a, c, rfl, hsh⟩ := trow_shape hrow
  by_cases hE : lookE l s = 0
  · rw [if_pos hE, if_pos hE]
    have hll := h256 hE
    rw [hE] at HLk
    by_cases hH : lookH l s = true
    · rw [if_pos hH, if_pos hH]
      rw [hH] at HLk
      generalize lookI l s = i at *
      clear hrow hl hs hH hE h256 hsh hll
      unfold str at *
      go_enter Try.func21, Try.ntmps21
      go_wp2_with fail
      refine HLk.out.mono ?_
      rintro e w1 ⟨rfl, hb⟩
      have HB1 := Lib.hid hb
      clear hb
      go_wp2_with fail
      refine (HCl.out _ (HRow.out.below HB1.out)).mono ?_
      rintro e w2 ⟨v2, rfl, ho, hb⟩
      have HB2 := Lib.hid (HB1.out.trans (hb.mono HB1.out.size))
      have HO2 := Lib.hid (own_lower ho HB1.out.size)
      clear hb ho
      go_wp2
      go_ret2
      exact ⟨_, rfl, HO2.out, HB2.out⟩
    · rw [if_neg hH, if_neg hH]
      have hH2 : lookH l s = false := by simpa using hH
      rw [hH2] at HLk
      by_cases hn : l.length = 256
      · rw [if_pos hn, if_pos hn]
        generalize lookI l s = i at *
        have hn2 : ((l.length : Int) == 256) = true := by rw [beq_iff_eq]; omega
        have hn3 : (l.length : Int) = 256 := by omega
        clear hrow hl hs hH hE h256 hsh hll hIle hn hlen
        unfold str at *
        go_enter Try.func21, Try.ntmps21
        go_wp2_with fail
        refine HLk.out.mono ?_
        rintro e w1 ⟨rfl, hb⟩
        have HB1 := Lib.hid hb
        clear hb
        go_wp2
        go_ret2
        exact ⟨_, rfl, World.ownsRow_nil _ _ _ _, HB1.out⟩
      · rw [if_neg hn, if_neg hn]
        have hn2 : ((l.length : Int) == 256) = false := by rw [beq_eq_false_iff_ne]; omega
        generalize hi : lookI l s = i at *
        have hnc2 : l.length ≤ c := by
          by_cases h : 0 < l.length
          · exact (hsh h).1
          · omega
        have q1 : (0 : Int) ≤ (i : Int) := by omega
        have q3 : (i : Int) ≤ (l.length : Int) := by omega
        have q4 : (l.length : Int) ≤ (c : Int) := by omega
        have q5 : (i : Int) ≤ (c : Int) := by omega
        have H256 := Lib.hid hll
        have HIle := Lib.hid hIle
        clear hrow hl hs hH hE h256 hsh hn hlen hi
        simp only [str] at *
        go_enter Try.func21, Try.ntmps21
        go_wp2_with fail
        refine HLk.out.mono ?_
        rintro e w1 ⟨rfl, hb⟩
        have HB1 := Lib.hid hb
        clear hb
        have hT := Lib.hid ((HRow.out.below HB1.out).take i HIle.out)
        go_upto_region 8 with fail
        have hlen1 : (l.take i).length + (l.drop i).length ≤ 1000 := by
          rw [← List.length_append, List.take_append_drop]; have := H256.out; omega
        have HLen := Lib.hid hlen1
        have q2 : (i : Int).toNat = i := by omega
        have q6 : i ≤ c := by omega
        clear hlen1 hll hn2 hH2 hIle hnc2
        by_cases hca : c = i
        · have hil : i = l.length := by omega
          have hD := Lib.hid (show ∀ a', TRow w1 (.slice a' 0 0) (l.drop i) from fun a' => .inl ⟨by rw [hil]; simp, a', 0, rfl⟩)
          subst hil
          subst hca
          go_region_law (first
            | (go_simp; go_at_call 53; (refine (concat3' w1 _ _ s _ _ _ _ hT.out (hD.out _) HLen.out).mono ?_); rintro e w2 ⟨v2, rfl, ho, hb⟩; have HO2 := Lib.hid (own_lower ho HB1.out.size); have HB2 := Lib.hid (HB1.out.trans (hb.mono HB1.out.size)); clear ho hb)
            | fail)
          all_goals
            go_wp2
            go_ret2
            exact ⟨_, rfl, HO2.out, HB2.out⟩
        · have hD := Lib.hid ((HRow.out.below HB1.out).drop i HIle.out (Option.map (fun x => x.add i) a) (fun _ b o e => by rw [e]; simp [Addr.add]))
          go_region_law (first
            | (go_simp; go_at_call 53; (refine (concat3' w1 _ _ s _ _ _ _ hT.out (hD.out) HLen.out).mono ?_); rintro e w2 ⟨v2, rfl, ho, hb⟩; have HO2 := Lib.hid (own_lower ho HB1.out.size); have HB2 := Lib.hid (HB1.out.trans (hb.mono HB1.out.size)); clear ho hb)
            | fail)
          all_goals
            go_wp2
            go_ret2
            exact ⟨_, rfl, HO2.out, HB2.out⟩
  · rw [if_neg hE, if_neg hE]
    generalize lookE l s = k at *
    generalize lookI l s = i at *
    generalize lookH l s = h at *
    have hk : (k == 0) = false := by rw [beq_eq_false_iff_ne]; exact hE
    clear hrow hl hs h256 hsh hIle hlen hE
    unfold str at *
    go_enter Try.func21, Try.ntmps21
    go_wp2_with fail
    refine HLk.out.mono ?_
    rintro e w1 ⟨rfl, hb⟩
    have HB1 := Lib.hid hb
    clear hb
    go_wp2
    go_ret2
    exact ⟨_, rfl, World.ownsRow_nil _ _ _ _, HB1.out⟩
end Go.Proofs.Ytdaalpiiagmdfaa
