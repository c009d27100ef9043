/-
  CONTRACT of fermatalaw03.Made: bodies made of small numbers; nothing that was there is written.
-/
import Derived.Test.YteaeedhhdnkldaaRep03
import Derived.Test.YteaeedhhdnkldaaMat
namespace Go.Proofs.Yteaeedhhdnkldaa
open Go.RowKit Go.Shelf Pl

def sz (S : List (Nat × Nat)) (i : Nat) : Nat := (S.getD i (0, 0)).1
def sb (S : List (Nat × Nat)) (i : Nat) : Nat := (S.getD i (0, 0)).2
/-- THE VALUE v READS AS THE SMALL BODIES S. -/
def SRow (w : World) (v : Value) (S : List (Nat × Nat)) : Prop :=
  (∀ p ∈ S, p.1 < 65536 ∧ p.2 < 256) ∧ ((∃ a c, v = .slice a 0 c ∧ S = [] ∧ c ≤ maxLen) ∨ ∃ b off cap, v = .slice (some ⟨b, off, none⟩) S.length cap ∧ S.length ≤ cap ∧ cap ≤ maxLen ∧
    ∀ i, i < S.length → w.cell? ⟨b, off + i * 2, none⟩ = some (.int .u16 (sz S i : Nat)) ∧ w.cell? ⟨b, off + i * 2 + 1, none⟩ = some (.int .u8 (sb S i : Nat)))
theorem SRow.shape {w : World} {v : Value} {S : List (Nat × Nat)} (h : SRow w v S) : ∃ a c, v = .slice a S.length c := by
  obtain ⟨_, ⟨a, c, rfl, rfl, _⟩ | ⟨b, off, cap, rfl, _⟩⟩ := h
  · exact ⟨a, c, rfl⟩
  · exact ⟨_, _, rfl⟩
theorem SRow.below {w w' : World} {v : Value} {S : List (Nat × Nat)} (h : SRow w v S) (hb : Below w.heap.size w w') : SRow w' v S := by
  obtain ⟨ha, hn | ⟨b, off, cap, rfl, h1, h2, h3⟩⟩ := h
  · exact ⟨ha, .inl hn⟩
  · exact ⟨ha, .inr ⟨b, off, cap, rfl, h1, h2, fun i hi => ⟨(hb.cell (p := ⟨b, off + i * 2, none⟩) (block_lt_of_cell (h3 i hi).1)).trans (h3 i hi).1, (hb.cell (p := ⟨b, off + i * 2 + 1, none⟩) (block_lt_of_cell (h3 i hi).2)).trans (h3 i hi).2⟩⟩⟩
theorem sz_lt {w : World} {v : Value} {S : List (Nat × Nat)} (h : SRow w v S) (i : Nat) : sz S i < 65536 ∧ sb S i < 256 := by
  unfold sz sb
  rw [List.getD_eq_getElem?_getD]
  by_cases hi : i < S.length
  · rw [List.getElem?_eq_getElem hi]
    exact h.1 _ (List.getElem_mem hi)
  · rw [List.getElem?_eq_none (by omega)]
    exact ⟨by decide, by decide⟩
/-- The bodies that Made makes. -/
def madeB (S : List (Nat × Nat)) (k : Nat) : List (List Nat) := (List.range k).map fun i => List.replicate (sz S i % 600) (sb S i)
theorem madeB_succ (S : List (Nat × Nat)) (k : Nat) : madeB S (k + 1) = madeB S k ++ [List.replicate (sz S k % 600) (sb S k)] := by simp [madeB, List.range_succ]
theorem madeB_length (S : List (Nat × Nat)) (k : Nat) : (madeB S k).length = k := by simp [madeB]
def madeS (S : List (Nat × Nat)) : List (List Nat) := madeB S (min S.length 30)
theorem madeS_length (S : List (Nat × Nat)) : (madeS S).length ≤ 30 := by unfold madeS; rw [madeB_length]; omega
theorem madeS_len (S : List (Nat × Nat)) : ∀ l ∈ madeS S, l.length ≤ 599 := by
  intro l hl
  simp only [madeS, madeB, List.mem_map] at hl
  obtain ⟨i, _, rfl⟩ := hl
  rw [List.length_replicate]
  omega
theorem madeS_allB {w : World} {v : Value} {S : List (Nat × Nat)} (h : SRow w v S) : ∀ l ∈ madeS S, AllB l := by
  intro l hl
  simp only [madeS, madeB, List.mem_map] at hl
  obtain ⟨i, _, rfl⟩ := hl
  intro d hd
  rw [List.eq_of_mem_replicate hd]
  exact (sz_lt h i).2
theorem Half8.kept {w w' : World} {base : Nat} {v : Value} {l : List Nat} {row : Option Nat} (h : Half8 w base v l) (hg : w.grownBy w' row) (hr : ∀ r c t, row = some r → w.heap[r]? = some (.cells c t (0, 0)) → t ≠ 5) : Half8 w' base v l := by
  obtain ⟨h1, h2⟩ := h
  have hne : ∀ k, v.ownBlock = some k → some k ≠ row := fun k hk e => by
    obtain ⟨_, c, hc⟩ := h2 k hk
    exact hr k c _ e.symm hc rfl
  refine ⟨h1.grown hg fun b off cap e => hne b (by rw [e]; rfl), fun k hk => ?_⟩
  obtain ⟨q, c, hc⟩ := h2 k hk
  exact ⟨q, c, (hg.block k (Array.getElem?_eq_some_iff.1 hc).1 (hne k hk)).trans hc⟩
theorem Half8.base {w : World} {base base' : Nat} {v : Value} {l : List Nat} (h : Half8 w base v l) (hb : base' ≤ base) : Half8 w base' v l := ⟨h.1, fun k hk => ⟨Nat.le_trans hb (h.2 k hk).1, (h.2 k hk).2⟩⟩
theorem Half8.shape {w : World} {base : Nat} {v : Value} {l : List Nat} (h : Half8 w base v l) : ∃ a c, v = .slice a l.length c := h.1.shape
/-- THE VALUES V ARE ROWS OF BYTES IN THE CALL's OWN BLOCKS. -/
def HVal (w : World) (base : Nat) (V : List Value) (L : List (List Nat)) : Prop := V.length = L.length ∧ ∀ i < L.length, Half8 w base (V.getD i undef) (mt L i)
theorem hval_nil (w : World) (base : Nat) : HVal w base [] [] := ⟨rfl, fun _ hi => absurd hi (Nat.not_lt_zero _)⟩
theorem HVal.keep {w w' : World} {base : Nat} {V : List Value} {L : List (List Nat)} {row : Option Nat} (h : HVal w base V L) (hg : w.grownBy w' row) (hr : ∀ r c t, row = some r → w.heap[r]? = some (.cells c t (0, 0)) → t ≠ 5) : HVal w' base V L := ⟨h.1, fun i hi => (h.2 i hi).kept hg hr⟩
theorem HVal.below {w w' : World} {base : Nat} {V : List Value} {L : List (List Nat)} (h : HVal w base V L) (hb : Below w.heap.size w w') : HVal w' base V L := h.keep (grownBy_of_below hb none) fun r c t e => by cases e
theorem HVal.snoc {w : World} {base : Nat} {V : List Value} {L : List (List Nat)} {u : Value} {p : List Nat} (h : HVal w base V L) (hu : Half8 w base u p) : HVal w base (V ++ [u]) (L ++ [p]) := by
  refine ⟨by simp [h.1], fun i hi => ?_⟩
  simp only [List.length_append, List.length_cons, List.length_nil] at hi
  by_cases hlt : i < L.length
  · rw [getD_snoc _ _ _ (by have := h.1; omega), mt_snoc _ _ _ hlt]
    exact h.2 i hlt
  · obtain rfl : i = L.length := by omega
    have e1 : (V ++ [u]).getD L.length undef = u := by rw [← h.1]; exact getD_last _ _
    rw [e1, mt_last]
    exact hu
theorem row_type' {w : World} {base n r : Nat} {v : Value} {T : TypeId} {size : Nat} {V : List Value} {c : Array Value} {t : TypeId} (h : w.ownsRow base T size v n V) (e : v.ownBlock = some r) (hh : w.heap[r]? = some (.cells c t (0, 0))) : t = T := by
  rcases h.2 with ⟨rfl, _⟩ | ⟨g, cap, cur, rfl, _, q, _⟩
  · simp [Value.ownBlock] at e
  · simp only [Value.ownBlock, Option.some.injEq] at e
    subst e
    rw [q] at hh
    simp only [Option.some.injEq, Obj.cells.injEq] at hh
    exact hh.2.1.symm
/-- A ROW OF THE CALL's OWN OF ROWS OF BYTES IN ITS OWN BLOCKS. -/
def HOwn (w : World) (base : Nat) (v : Value) (L : List (List Nat)) : Prop := ∃ V : List Value, w.ownsRow base 22 1 v L.length V ∧ HVal w base V L
theorem hown_nil (w : World) (base : Nat) : HOwn w base (.slice none 0 0) [] := ⟨[], World.ownsRow_nil _ _ _ _, hval_nil _ _⟩
theorem HOwn.below {w w' : World} {base : Nat} {v : Value} {L : List (List Nat)} (h : HOwn w base v L) (hb : Below w.heap.size w w') : HOwn w' base v L := by
  obtain ⟨V, h1, h2⟩ := h
  exact ⟨V, ownsRow_below h1 hb, h2.below hb⟩
theorem HOwn.base {w : World} {base base' : Nat} {v : Value} {L : List (List Nat)} (h : HOwn w base v L) (hb : base' ≤ base) : HOwn w base' v L := by
  obtain ⟨V, h1, h2, h3⟩ := h
  exact ⟨V, ⟨h1.1, h1.2.imp id fun ⟨g, cap, cur, e, q1, q2⟩ => ⟨g, cap, cur, e, Nat.le_trans hb q1, q2⟩⟩, h2, fun i hi => (h3 i hi).base hb⟩
theorem HOwn.trow {w : World} {base : Nat} {v : Value} {L : List (List Nat)} (h : HOwn w base v L) : TRow w v L := by
  obtain ⟨V, hr, h1, h2⟩ := h
  obtain ⟨hlen, ⟨rfl, hn⟩ | ⟨g, cap, cur, rfl, q1, q2, q3, q4, q5, q6⟩⟩ := hr
  · have : L = [] := List.eq_nil_of_length_eq_zero hn
    subst this
    exact .inl ⟨none, 0, rfl, rfl, Nat.zero_le _⟩
  · have hsh : ∀ i, ∃ ac : Option Addr × Nat, i < L.length → V.getD i undef = .slice ac.1 (L.getD i []).length ac.2 := fun i => by
      by_cases hi : i < L.length
      · obtain ⟨a, c, e⟩ := (h2 i hi).shape
        exact ⟨(a, c), fun _ => e⟩
      · exact ⟨(none, 0), fun h => absurd h hi⟩
    obtain ⟨F, hF⟩ := Classical.axiomOfChoice hsh
    refine .inr ⟨g, 0, cap, fun i => (F i).1, fun i => (F i).2, rfl, q3, q4, fun i hi => ?_⟩
    have e := hF i hi
    have hc : w.cell? ⟨g, 0 + i, none⟩ = some (V.getD i undef) := by
      rw [Nat.zero_add, cell_of_row w g i cur _ (0, 0) q2]
      have e : (cur.toList.take (L.length * 1))[i]? = V[i]? := by rw [q6]
      rw [List.getElem?_take, if_pos (by omega)] at e
      simp only [Array.getElem?_toList] at e
      rw [e]
      simp [List.getD_eq_getElem?_getD, show i < V.length by omega]
    refine ⟨by rw [hc, e], ?_⟩
    have := (h2 i hi).1
    rw [e] at this
    exact this
theorem cell_one_new (W : World) (x : Value) (t : TypeId) : ∀ j u, [x][j]? = some u → (W.alloc (.cells #[x] t)).cell? ((⟨W.heap.size, 0, none⟩ : Addr).add j) = some u := by
  intro j u hu
  have hj : j = 0 := by
    rcases Nat.eq_zero_or_pos j with h | h
    · exact h
    · rw [List.getElem?_eq_none (by simp only [List.length_cons, List.length_nil]; omega)] at hu; cases hu
  subst hj
  simp only [List.getElem?_cons_zero, Option.some.injEq] at hu
  subst hu
  have hadd : (⟨W.heap.size, 0, none⟩ : Addr).add 0 = ⟨W.heap.size, 0, none⟩ := by unfold Addr.add; split <;> simp_all
  rw [hadd, cell_of_row _ _ _ _ _ (0, 0) (heap_alloc_new W _)]
  rfl

set_option maxRecDepth 100000 in
set_option maxHeartbeats 2000000 in
theorem made3_calls (v : Value) (S : List (Nat × Nat)) (w : World) (h : SRow w v S) :
    Calls Try.prog 30 #[v] w fun e w' => ∃ v', e = .returned v' ∧ HOwn w' w.heap.size v' (madeS S) ∧ Below w.heap.size w w' := by
  have HS0 := Lib.hid h
  obtain ⟨_, ⟨a, c, rfl, rfl, hac⟩ | ⟨b, off, cap, rfl, hc, hm, hcell⟩⟩ := h
  · clear hac
    go_enter Try.func30, Try.ntmps30
    go_wp2
    go_loopw [3, 12] (fun x i wr => x = .slice none 0 0 ∧ i = .int .i64 0 ∧ wr = w) (fun _ _ _ => 0)
    case atStart => exact ⟨rfl, rfl, rfl⟩
    case round =>
      obtain ⟨rfl, rfl, rfl⟩ := hrel
      go_wp2
      go_ret
      exact ⟨_, rfl, hown_nil _ _, Below.refl _ _⟩
  · have HC := Lib.hid hcell
    unfold maxLen at hm
    have hcut : ∃ K : Nat, K = min S.length 30 ∧ K ≤ 30 ∧ K ≤ S.length ∧ (if (30 : Int) < (S.length : Int) then (30 : Int) else (S.length : Int)) = (K : Int) := by
      by_cases h : S.length ≤ 30
      · exact ⟨S.length, by omega, h, Nat.le_refl _, by rw [if_neg (by omega)]⟩
      · exact ⟨30, by omega, Nat.le_refl _, by omega, by rw [if_pos (by omega)]; rfl⟩
    obtain ⟨K, hKe, hK30, hKl, hmin⟩ := hcut
    have hkc1 : (0 : Int) ≤ (K : Int) := by omega
    have hkc2 : (K : Int) ≤ (cap : Int) := by omega
    have HKe := Lib.hid hKe
    clear hcell hKe
    go_enter Try.func30, Try.ntmps30
    go_wp2
    go_loopw [3, 12] (fun x i wr => ∃ k : Nat, k ≤ K ∧ i = .int .i64 k ∧ HOwn wr w.heap.size x (madeB S k) ∧ Below w.heap.size w wr) (fun _ i _ => K - (intOf i).toNat)
    case atStart => exact ⟨0, Nat.zero_le _, rfl, hown_nil _ _, Below.refl _ _⟩
    case round =>
      obtain ⟨k, hk, rfl, hown, hbel⟩ := hrel
      have HO := Lib.hid hown
      have HB := Lib.hid hbel
      by_cases hlt : k < K
      · have c0 := (hbel.cell (p := ⟨b, off + k * 2, none⟩) (block_lt_of_cell (HC.out k (by omega)).1)).trans (HC.out k (by omega)).1
        have c1 := (hbel.cell (p := ⟨b, off + k * 2 + 1, none⟩) (block_lt_of_cell (HC.out k (by omega)).2)).trans (HC.out k (by omega)).2
        obtain ⟨hs1, hs2⟩ := sz_lt HS0.out k
        have hU := madeB_succ S k
        generalize sz S k = s at *
        generalize sb S k = d at *
        have HU := Lib.hid hU
        have hlen : (madeB S k).length = k := madeB_length S k
        have HLen := Lib.hid hlen
        obtain ⟨q, hq⟩ : ∃ q, s % 600 = q := ⟨_, rfl⟩
        have hq8 : q ≤ 8000 := by omega
        have hqi : (s : Int) % 600 = (q : Int) := by omega
        have hq64 : (q : Int) ≤ 9223372036854775807 := by omega
        rw [hq] at hU
        have HU := Lib.hid hU
        have hb1 : Below w.heap.size w (wr.alloc (.cells #[.int .u16 s, .int .u8 d] 71)) := hbel.alloc hbel.size _
        have hb2 : Below w.heap.size w ((wr.alloc (.cells #[.int .u16 s, .int .u8 d] 71)).alloc (.cells #[.int .u8 d] 5)) := hb1.alloc hb1.size _
        have hg2 : wr.grownBy ((wr.alloc (.cells #[.int .u16 s, .int .u8 d] 71)).alloc (.cells #[.int .u8 d] 5)) none := (World.grownBy_alloc _ _ none).trans (World.grownBy_alloc _ _ none)
        have HB2 := Lib.hid hb2
        have HG2 := Lib.hid hg2
        have HRp := Lib.hid (repeat_calls (.slice (some ⟨(wr.alloc (.cells #[.int .u16 s, .int .u8 d] 71)).heap.size, 0, none⟩) 1 1) d q ((wr.alloc (.cells #[.int .u16 s, .int .u8 d] 71)).alloc (.cells #[.int .u8 d] 5)) (BRow.litAt (wr.alloc (.cells #[.int .u16 s, .int .u8 d] 71)) [d] 5 _ _ _ rfl rfl rfl (by intro x hx; rw [List.mem_singleton.1 hx]; exact hs2) (by simp)) hq8)
        clear hU hown hbel hlen hq hb1 hb2 hg2
        rw [World.size_alloc] at HRp
        go_wp2_with fail
        refine HRp.out.mono ?_
        rintro e w3 ⟨v3, rfl, hv3, hb3⟩
        obtain ⟨a3, c3, e3⟩ := hv3.shape
        rw [List.length_replicate] at e3
        subst e3
        have hs3 : w.heap.size ≤ ((wr.alloc (.cells #[.int .u16 s, .int .u8 d] 71)).alloc (.cells #[.int .u8 d] 5)).heap.size := HB2.out.size
        have HB3 := Lib.hid (HB2.out.trans (hb3.mono hs3))
        have HG3 := Lib.hid (HG2.out.trans (grownBy_of_below hb3 none))
        have HV3 := Lib.hid (hv3.base hs3)
        obtain ⟨V, hV1, hV2⟩ := HO.out
        have HV1 := Lib.hid (hV1.kept HG3.out (by
          rcases hV1.2 with ⟨e, _⟩ | ⟨g, cap, cur, e, _⟩
          · rw [e]; exact .inl rfl
          · rw [e]; exact .inr fun e => by cases e))
        have HV2 := Lib.hid (hV2.keep HG3.out fun r c t e => by cases e)
        clear hv3 hb3 hs3 hV1 hV2 HO HRp
        rw [HLen.out] at HV1
        go_wp2_with (at_builtin; go_must (refine wpList_appendM rfl (.tmp 16) (.tmp 25) (by rfl) w.heap.size _ k V (by first | rfl | simp [Act.eval]) (HV1.out.alloc (.cells #[.slice a3 q c3] 22)) ⟨w3.heap.size, 0, none⟩ 1 1 [.slice a3 q c3] (by first | rfl | simp [Act.eval]) rfl (cell_one_new w3 (.slice a3 q c3) 22) (by intro u hu; rw [List.mem_singleton.1 hu]; rfl) (by omega) (by have := HB3.out.size; rw [World.size_alloc]; omega) ?_; intro v5 w5 hr5 hg5 hat5; have HR5 := Lib.hid hr5; have HG5 := Lib.hid hg5; clear hr5 hg5 hat5))
        have hty : ∀ r c t, u3.ownBlock = some r → (w3.alloc (.cells #[.slice a3 q c3] 22)).heap[r]? = some (.cells c t (0, 0)) → t ≠ 5 := fun r c t e hh => by
          rw [row_type' (HV1.out.alloc _) e hh]; decide
        have hv5 := (HV2.out.snoc HV3.out).keep (World.grownBy_alloc w3 (.cells #[.slice a3 q c3] 22) none) (fun r c t e => by cases e)
        have HV5 := Lib.hid (hv5.keep HG5.out hty)
        have hba := HB3.out.alloc HB3.out.size (.cells #[.slice a3 q c3] 22)
        have HB5 := Lib.hid (hba.grown HG5.out hba.size (fun j hj => (HV1.out.lt j hj).1))
        clear hty hv5 hba
        go_roundw
        case rel =>
          have hfin : ∃ k' : Nat, k' ≤ K ∧ Value.int .i64 ((k : Int) + 1) = .int .i64 k' ∧ HOwn w5 w.heap.size v5 (madeB S k') ∧ Below w.heap.size w w5 := ⟨k + 1, by omega, by go_num, ⟨_, by rw [madeB_length]; exact HR5.out, by rw [HU.out]; exact HV5.out⟩, HB5.out⟩
          first | exact hfin | ((repeat apply Exists.intro); exact ⟨hfin, rfl⟩)
        case measure => simp [intOf]; omega
      · obtain rfl : k = K := by omega
        have HKe2 := HKe
        clear hown hbel
        go_wp2
        go_ret
        exact ⟨_, rfl, by unfold madeS; rw [← HKe2.out]; exact HO.out, HB.out⟩
end Go.Proofs.Yteaeedhhdnkldaa
