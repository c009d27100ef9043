/-
  CONTRACT of fermatalaw03.reads: it returns true; nothing that was there is written.
-/
import Derived.Test.YtlohggdabpfkhaaSpoil03
import Derived.Test.YtlohggdabpfkhaaPlayed
import Derived.Deep.QuietTactic
import Derived.BigQuiet
namespace Go.Proofs.Ytlohggdabpfkhaa
open Go.RowKit Go.Shelf Pl

theorem own8_gr {w w' : World} {b : Nat} {v : Value} {l : List Nat} {r : Option Nat} (h : Own8 w b v l) (hg : w.grownBy w' r) (hne : ∀ k, v.ownBlock = some k → r ≠ some k) : Own8 w' b v l := by
  refine h.kept hg ?_
  rcases h.2 with ⟨e, _⟩ | ⟨g, cap, cur, e, _⟩
  · exact .inl (by rw [e]; rfl)
  · exact .inr fun e2 => hne g (by rw [e]; rfl) (by rw [← e2, e]; rfl)
theorem rowM_gr {w w' : World} {b base n : Nat} {v x : Value} {V : List Value} {l : List Nat} (h : w.ownsRow b 23 1 v n V) (ho : Own8 w base x l) (hg : w.grownBy w' x.ownBlock) : w'.ownsRow b 23 1 v n V := by
  refine h.kept hg ?_
  rcases h.2 with ⟨rfl, _⟩ | ⟨g, cap, cur, rfl, _, q, _⟩
  · exact .inl rfl
  · exact .inr fun e => absurd (row_type ho e.symm q) (by decide)
theorem trow_tail {w : World} {base g n c k : Nat} {V : List Value} {L : List (List Nat)} (hr : w.ownsRow base 23 1 (.slice (some ⟨g, 0, none⟩) n c) n V) (hn : n = L.length) (hV : ∀ i, k ≤ i → i < n → Own8 w base (V.getD i undef) (mt L i)) (hb : ∀ l ∈ L, AllB l) (hk : k < n) : TRow w (.slice (some ⟨g, k, none⟩) (n - k) (c - k)) (L.drop k) := by
  subst hn
  obtain ⟨hlen, ⟨e, _⟩ | ⟨g2, cap, cur, e, q1, q2, q3, q4, q5, q6⟩⟩ := hr
  · simp at e
  simp only [Value.slice.injEq, Option.some.injEq, Addr.mk.injEq, true_and, and_true] at e
  obtain ⟨rfl, rfl⟩ := e
  have hsh : ∀ i, ∃ ac : Option Addr × Nat, i + k < L.length → V.getD (i + k) undef = .slice ac.1 (L.getD (i + k) []).length ac.2 := fun i => by
    by_cases hi : i + k < L.length
    · obtain ⟨a, c, e⟩ := owns_shape (hV (i + k) (by omega) hi)
      exact ⟨(a, c), fun _ => e⟩
    · exact ⟨(none, 0), fun h => absurd h hi⟩
  obtain ⟨F, hF⟩ := Classical.axiomOfChoice hsh
  refine .inr ⟨g, k, c - k, fun i => (F i).1, fun i => (F i).2, by rw [List.length_drop], by rw [List.length_drop]; omega, by omega, fun i hi => ?_⟩
  rw [List.length_drop] at hi
  have e0 : (L.drop k).getD i [] = L.getD (i + k) [] := by simp [List.getD_eq_getElem?_getD, List.getElem?_drop, Nat.add_comm]
  rw [e0]
  have e := hF i (by omega)
  have hc : w.cell? ⟨g, k + i, none⟩ = some (V.getD (i + k) undef) := by
    rw [Nat.add_comm k i, cell_of_row w g (i + k) cur _ (0, 0) q2]
    have e : (cur.toList.take (L.length * 1))[i + k]? = V[i + k]? := by rw [q6]
    rw [List.getElem?_take, if_pos (by omega)] at e
    simp only [Array.getElem?_toList] at e
    rw [e]
    simp [List.getD_eq_getElem?_getD, show i + k < V.length by omega]
  refine ⟨by rw [hc, e], ?_⟩
  have := BRow.of_own (hV (i + k) (by omega) (by omega)) (by
    refine hb _ ?_
    simp only [mt, List.getD_eq_getElem?_getD, show i + k < L.length by omega, List.getElem?_eq_getElem, Option.getD_some]
    exact List.getElem_mem _)
  rw [e] at this
  exact this
theorem trow_nil (w : World) (a : Option Addr) (c : Nat) (hc : c ≤ maxLen) : TRow w (.slice a 0 c) [] := .inl ⟨a, c, rfl, rfl, hc⟩
theorem equalM_same (v u : Value) (L M : List (List Nat)) (w : World) (h : TRow w v L) (h2 : TRow w u M) (hLM : L = M) :
    Calls Try.prog 35 #[v, u] w fun e w' => e = .returned (.bool true) ∧ w' = w :=
  (equalM_calls v u L M w h h2).mono fun e w' ⟨h1, h2⟩ => ⟨by rw [h1, hLM]; simp, h2.symm⟩

set_option maxRecDepth 100000 in
set_option maxHeartbeats 4000000 in
theorem reads3_calls (v : Value) (b : List Nat) (w : World) (h : BRow w v b) (hlen : b.length ≤ 100000) :
    Calls Try.prog 22 #[v] w fun e w' => e = .returned (.bool true) ∧ Below w.heap.size w w' := by
  have HR0 := Lib.hid h
  have hab := h.1
  have hab2 : ∀ l ∈ splB b, AllB l := splB_allB hab
  have HAb := Lib.hid hab; have HAb2 := Lib.hid hab2
  have HFb := Lib.hid (fbody_allB hab)
  have hsl := splB_length b
  have hlen2 : b.length ≤ 1000000 := by omega
  clear h hab hab2
  go_enter Try.func22, Try.ntmps22
  go_wp2_with fail
  refine (sclone_calls v b w HR0.out (by omega)).mono ?_
  rintro e w1 ⟨v1, rfl, ho1, hb1⟩
  have HO1 := Lib.hid ho1; have HB1 := Lib.hid hb1; have HR1 := Lib.hid (HR0.out.below hb1); have HW1 := Lib.hid (BRow.of_own ho1 HAb.out)
  clear ho1 hb1
  go_wp2_with fail
  refine (readB_calls v1 b w1 HW1.out).mono ?_
  rintro e w2 ⟨v2, rfl, ho2, hb2⟩
  obtain ⟨a2, n2, c2, rfl⟩ : ∃ a n c, v2 = .slice a n c := by obtain ⟨a, c, e⟩ := owns_shape ho2; exact ⟨a, _, c, e⟩
  have HX2 := Lib.hid ho2; have HB2 := Lib.hid (HB1.out.trans (hb2.mono HB1.out.size)); have HR2 := Lib.hid (HR1.out.below hb2); have HO2 := Lib.hid (ownsRow_below HO1.out hb2); have HZ2 := Lib.hid hb2.size
  clear ho2 hb2
  go_wp2_with fail
  refine (refRead3_calls v b w2 HR2.out).mono ?_
  rintro e w3 ⟨v3, rfl, ho3, hb3⟩
  have HY3 := Lib.hid (BRow.of_own ho3 HFb.out); have HB3 := Lib.hid (HB2.out.trans (hb3.mono HB2.out.size)); have HR3 := Lib.hid (HR2.out.below hb3); have HO3 := Lib.hid (ownsRow_below HO2.out hb3); have HX3 := Lib.hid (ownsRow_below HX2.out hb3); have HZ3 := Lib.hid hb3.size
  clear ho3 hb3
  go_wp2_with fail
  refine (need_calls v1 b w3 (BRow.of_own HO3.out HAb.out)).mono ?_
  rintro e w4 ⟨rfl, hb4⟩
  have HB4 := Lib.hid (HB3.out.trans (hb4.mono HB3.out.size)); have HR4 := Lib.hid (HR3.out.below hb4); have HO4 := Lib.hid (ownsRow_below HO3.out hb4); have HX4 := Lib.hid (ownsRow_below HX3.out hb4); have HY4 := Lib.hid (HY3.out.below hb4); have HZ4 := Lib.hid hb4.size
  clear hb4
  go_wp2_with fail
  refine (refNeed3_calls v b w4 HR4.out).mono ?_
  rintro e w5 ⟨rfl, hb5⟩
  have HB5 := Lib.hid (HB4.out.trans (hb5.mono HB4.out.size)); have HR5 := Lib.hid (HR4.out.below hb5); have HO5 := Lib.hid (ownsRow_below HO4.out hb5); have HX5 := Lib.hid (ownsRow_below HX4.out hb5); have HY5 := Lib.hid (HY4.out.below hb5); have HZ5 := Lib.hid hb5.size
  clear hb5
  go_wp2_with fail
  refine (split3_calls v1 b w5 (BRow.of_own HO5.out HAb.out) hlen2).mono ?_
  rintro e w6 ⟨v6, rfl, ⟨V6, hr6, hm6⟩, hb6⟩
  obtain ⟨a6, c6, rfl⟩ := owns_shape hr6
  have HB6 := Lib.hid (HB5.out.trans (hb6.mono HB5.out.size)); have HR6 := Lib.hid (HR5.out.below hb6); have HO6 := Lib.hid (ownsRow_below HO5.out hb6); have HX6 := Lib.hid (ownsRow_below HX5.out hb6); have HY6 := Lib.hid (HY5.out.below hb6); have HZ6 := Lib.hid hb6.size
  have HRow6 := Lib.hid hr6; have HM6 := Lib.hid hm6
  clear hr6 hm6 hb6
  go_wp2_with fail
  refine (refSplit3_calls v b w6 HR6.out hlen2).mono ?_
  rintro e w7 ⟨v7, rfl, ⟨V7, hr7, hm7⟩, hb7⟩
  obtain ⟨a7, c7, rfl⟩ := owns_shape hr7
  have HB7 := Lib.hid (HB6.out.trans (hb7.mono HB6.out.size)); have HR7 := Lib.hid (HR6.out.below hb7); have HO7 := Lib.hid (ownsRow_below HO6.out hb7); have HX7 := Lib.hid (ownsRow_below HX6.out hb7); have HY7 := Lib.hid (HY6.out.below hb7)
  have HRow7 := Lib.hid (ownsRow_below HRow6.out hb7); have HM7 := Lib.hid (HM6.out.below hb7)
  have HRw := Lib.hid hr7; have HMw := Lib.hid hm7
  clear hr7 hm7 hb7
  go_wp2_with fail
  refine (bytesEqual_b _ _ (fbody b) (fbody b) w7 (BRow.of_own HX7.out HFb.out) HY7.out true (decide_eq_true rfl)).mono ?_
  rintro e w8 ⟨rfl, hb8⟩
  have HB8 := Lib.hid (HB7.out.trans (hb8.mono HB7.out.size)); have HR8 := Lib.hid (HR7.out.below hb8); have HO8 := Lib.hid (ownsRow_below HO7.out hb8); have HX8 := Lib.hid (ownsRow_below HX7.out hb8)
  have HRow8 := Lib.hid (ownsRow_below HRow7.out hb8); have HM8 := Lib.hid (HM7.out.below hb8); have HRw8 := Lib.hid (ownsRow_below HRw.out hb8); have HMw8 := Lib.hid (HMw.out.below hb8)
  clear hb8
  go_wp2_with fail
  refine (equalM_b _ _ (splB b) (splB b) w8 (trow_of HRow8.out HM8.out HAb2.out) (trow_of HRw8.out HMw8.out HAb2.out) true (decide_eq_true rfl)).mono ?_
  rintro e w9 ⟨rfl, hb9⟩
  have HB9 := Lib.hid (HB8.out.trans (hb9.mono HB8.out.size)); have HR9 := Lib.hid (HR8.out.below hb9); have HO9 := Lib.hid (ownsRow_below HO8.out hb9); have HX9 := Lib.hid (ownsRow_below HX8.out hb9)
  have HRow9 := Lib.hid (ownsRow_below HRow8.out hb9); have HM9 := Lib.hid (HM8.out.below hb9); have HRw9 := Lib.hid (ownsRow_below HRw8.out hb9); have HMw9 := Lib.hid (HMw8.out.below hb9)
  clear hb9
  go_wp2_with fail
  have hA := (Below.refl w9.heap.size w9).alloc (Nat.le_refl _) (.cells #[.slice a2 n2 c2] 23)
  refine (spoil1_calls _ (fbody b) w1.heap.size w9.heap.size _ (ownsRow_below HX9.out hA) HFb.out (World.alloc_heap_new w9 _)).mono ?_
  rintro e w10 ⟨⟨r, rfl⟩, hg10⟩
  have hxl : ∀ k, (Value.slice a2 n2 c2).ownBlock = some k → w1.heap.size ≤ k ∧ k < w2.heap.size := HX2.out.lt
  have hBA := HB9.out.alloc HB9.out.size (.cells #[.slice a2 n2 c2] 23)
  have HB10 := Lib.hid (hBA.grown hg10 hBA.size (fun k hk => Nat.le_trans HB1.out.size (hxl k hk).1))
  have hX9' := ownsRow_below HX9.out hA
  have HO10 := Lib.hid (own8_gr (ownsRow_below HO9.out hA) hg10 (fun k hk e => by have := (HO1.out.lt k hk).2; have := (hxl k e).1; omega))
  have HRow10 := Lib.hid (rowM_gr (ownsRow_below HRow9.out hA) hX9' hg10)
  have HRw10 := Lib.hid (rowM_gr (ownsRow_below HRw9.out hA) hX9' hg10)
  have HM10 := Lib.hid (show MVal w10 w5.heap.size V6 (splB b) from ⟨HM9.out.1, fun i hi => own8_gr ((HM9.out.below hA).2.1 i hi) hg10 (fun k hk e => by have := ((HM9.out.2.1 i hi).lt k hk).1; have := (hxl k e).2; have := HZ3.out; have := HZ4.out; have := HZ5.out; omega), HM9.out.2.2⟩)
  have HMw10 := Lib.hid (show MVal w10 w6.heap.size V7 (splB b) from ⟨HMw9.out.1, fun i hi => own8_gr ((HMw9.out.below hA).2.1 i hi) hg10 (fun k hk e => by have := ((HMw9.out.2.1 i hi).lt k hk).1; have := (hxl k e).2; have := HZ3.out; have := HZ4.out; have := HZ5.out; have := HZ6.out; omega), HMw9.out.2.2⟩)
  clear hA hg10 hxl hBA hX9' HX9 HRow9 HM9 HRw9 HMw9 HO9 HB9 HRow8 HM8 HRw8 HMw8 HO8 HB8 HX8 HR8 HRw HMw HRow7 HM7 HO7 HX7 HY7 HB7 HR7 HO6 HX6 HY6 HB6 HR6 HRow6 HO5 HX5 HY5 HB5 HR5 HR9
  have HM6lt := Lib.hid HM6.out.lt
  have HM6ne := Lib.hid HM6.out.2.2
  have HV6l := Lib.hid HM6.out.1
  have HZ56 := Lib.hid (show w1.heap.size ≤ w5.heap.size by have := HZ2.out; have := HZ3.out; have := HZ4.out; have := HZ5.out; omega)
  have HW56 := Lib.hid (show w.heap.size ≤ w5.heap.size by have := HB1.out.size; have := HZ2.out; have := HZ3.out; have := HZ4.out; have := HZ5.out; omega)
  clear HM6 HZ2 HZ3 HZ4 HZ5
  obtain ⟨n, hn⟩ : ∃ n, (splB b).length = n := ⟨_, rfl⟩
  rw [hn] at HRow10 HRw10 HM6lt HM6ne hsl ⊢
  have HN := Lib.hid hn
  clear hn
  go_wp2_with fail
  go_loopw [20, 102] (fun _ i wr => ∃ k : Nat, k ≤ n ∧ i = .int .i64 k ∧ wr.ownsRow w5.heap.size 23 1 (.slice a6 n c6) n V6 ∧ (∀ i, k ≤ i → i < n → Own8 wr w5.heap.size (V6.getD i undef) (mt (splB b) i)) ∧ wr.ownsRow w6.heap.size 23 1 (.slice a7 n c7) n V7 ∧ MVal wr w6.heap.size V7 (splB b) ∧ Own8 wr w.heap.size v1 b ∧ Below w.heap.size w wr) (fun _ i _ => n - (intOf i).toNat)
  case atStart => exact ⟨0, Nat.zero_le _, rfl, HRow10.out, fun i _ hi => HM10.out.2.1 i (by rw [HN.out]; exact hi), HRw10.out, HMw10.out, HO10.out, HB10.out⟩
  case round =>
    obtain ⟨k, hk, rfl, hr, hv, hrw, hmw, ho, hbel⟩ := hrel
    by_cases hlt : k < n
    · obtain ⟨g6, rfl⟩ : ∃ g6, a6 = some ⟨g6, 0, none⟩ := by
        rcases hr.2 with ⟨e, h0⟩ | ⟨g2, cap, cur, e, _⟩
        · omega
        · simp only [Value.slice.injEq, true_and] at e; exact ⟨g2, e.1⟩
      obtain ⟨g7, rfl⟩ : ∃ g7, a7 = some ⟨g7, 0, none⟩ := by
        rcases hrw.2 with ⟨e, h0⟩ | ⟨g2, cap, cur, e, _⟩
        · omega
        · simp only [Value.slice.injEq, true_and] at e; exact ⟨g2, e.1⟩
      have hc6 : n ≤ c6 ∧ c6 ≤ maxLen := by
        rcases hr.2 with ⟨e, h0⟩ | ⟨g2, cap, cur, e, _, _, h1, h2, _⟩
        · simp at e
        · simp only [Value.slice.injEq, true_and] at e; obtain ⟨_, rfl⟩ := e; exact ⟨h1, h2⟩
      have hc7 : n ≤ c7 ∧ c7 ≤ maxLen := by
        rcases hrw.2 with ⟨e, h0⟩ | ⟨g2, cap, cur, e, _, _, h1, h2, _⟩
        · simp at e
        · simp only [Value.slice.injEq, true_and] at e; obtain ⟨_, rfl⟩ := e; exact ⟨h1, h2⟩
      obtain ⟨hc61, hc62⟩ := hc6
      obtain ⟨hc71, hc72⟩ := hc7
      unfold maxLen at hc62 hc72
      have hvk := hv k (Nat.le_refl _) hlt
      obtain ⟨ax, nx, cx, hvx⟩ : ∃ a n c, V6.getD k undef = .slice a n c := by obtain ⟨a, c, e⟩ := owns_shape hvk; exact ⟨a, _, c, e⟩
      have hcell : wr.cell? ⟨g6, k, none⟩ = some (.slice ax nx cx) := by
        have hV : V6.length = n := by have := hr.1; omega
        have := rowM_cells hr k (V6.getD k undef) (by simp [List.getD_eq_getElem?_getD, hV, hlt])
        have hadd : (⟨g6, 0, none⟩ : Addr).add k = ⟨g6, k, none⟩ := by unfold Addr.add; split <;> simp_all
        rw [hadd, hvx] at this
        exact this
      rw [hvx] at hvk
      have HHr := Lib.hid hr; have HHv := Lib.hid hv; have HHrw := Lib.hid hrw; have HHmw := Lib.hid hmw; have HHo := Lib.hid ho; have HHb := Lib.hid hbel; have HHk := Lib.hid hvk; have HVx := Lib.hid hvx
      have hdk : decide ((k : Int) < (n : Int)) = true := decide_eq_true (by omega)
      have hn9 : (n : Int) ≤ 100000 := by omega
      clear hr hv hrw hmw ho hbel hvk hvx
      go_wp2_with fail
      have hA := (Below.refl wr.heap.size wr).alloc (Nat.le_refl _) (.cells #[.slice ax nx cx] 23)
      refine (spoil1_calls _ (mt (splB b) k) w5.heap.size wr.heap.size _ (ownsRow_below HHk.out hA) (by
        refine HAb2.out _ ?_
        have := HN.out
        simp only [mt, List.getD_eq_getElem?_getD, show k < (splB b).length by omega, List.getElem?_eq_getElem, Option.getD_some]
        exact List.getElem_mem _) (World.alloc_heap_new wr _)).mono ?_
      rintro e w11 ⟨⟨r1, rfl⟩, hg11⟩
      have hkb : ∀ q, (Value.slice ax nx cx).ownBlock = some q → w5.heap.size ≤ q ∧ q < w6.heap.size := fun q hq => ⟨(HHk.out.lt q hq).1, HM6lt.out k hlt q (by rw [HVx.out]; exact hq)⟩
      have hBA := HHb.out.alloc HHb.out.size (.cells #[.slice ax nx cx] 23)
      have hXk := ownsRow_below HHk.out hA
      have HB11 := Lib.hid (hBA.grown hg11 hBA.size (fun q hq => Nat.le_trans HW56.out (hkb q hq).1))
      have HO11 := Lib.hid (own8_gr (ownsRow_below HHo.out hA) hg11 (fun q hq e => by have := (HO1.out.lt q hq).2; have := (hkb q e).1; have := HZ56.out; omega))
      have HR11 := Lib.hid (rowM_gr (ownsRow_below HHr.out hA) hXk hg11)
      have HRw11 := Lib.hid (rowM_gr (ownsRow_below HHrw.out hA) hXk hg11)
      have HV11 := Lib.hid (show ∀ i, k + 1 ≤ i → i < n → Own8 w11 w5.heap.size (V6.getD i undef) (mt (splB b) i) from fun i hi hin => own8_gr (ownsRow_below (HHv.out i (by omega) hin) hA) hg11 (fun q hq e => HM6ne.out k i (by omega) hin q (by rw [HVx.out]; exact e) hq))
      have HMw11 := Lib.hid (show MVal w11 w6.heap.size V7 (splB b) from ⟨HHmw.out.1, fun i hi => own8_gr ((HHmw.out.below hA).2.1 i hi) hg11 (fun q hq e => by have := ((HHmw.out.2.1 i hi).lt q hq).1; have := (hkb q e).2; omega), HHmw.out.2.2⟩)
      clear hA hg11 hkb hBA hXk HHr HHv HHrw HHmw HHo HHb HHk
      have hk1 : IntKind.i64.wrap ((k : Int) + 1) = (k : Int) + 1 := IntWalk.i64_in _ (by omega)
      have hk2 : 0 ≤ (k : Int) + 1 := by omega
      have hk3 : ((k : Int) + 1).toNat = k + 1 := by omega
      have hk4 : (k : Int) + 1 ≤ (n : Int) := by omega
      have hk5 : (k : Int) + 1 ≤ (c6 : Int) := by omega
      have hk6 : (k : Int) + 1 ≤ (c7 : Int) := by omega
      by_cases hlast : k + 1 = n
      · have hQ : ∀ (W : World) (a a' : Option Addr) (c c' m m' : Nat), m = 0 → m' = 0 → c ≤ c6 → c' ≤ c7 → Calls Try.prog 35 #[.slice a m c, .slice a' m' c'] W fun e w' => e = .returned (.bool true) ∧ w' = W := fun W a a' c c' m m' h h' h2 h3 => by
          subst h h'
          exact equalM_same _ _ [] [] W (trow_nil W a c (by unfold maxLen; omega)) (trow_nil W a' c' (by unfold maxLen; omega)) rfl
        have HQ := Lib.hid hQ
        clear hQ
        go_wp2_with fail
        go_quiet ((go_at_call 35; exact (HQ.out _ _ _ _ _ _ _ (by omega) (by omega) (by omega) (by omega)).mono fun e w' h => ⟨h.1, _, h.2⟩))
        all_goals
          go_wp2_with fail
          go_roundw
          case rel => first | exact ⟨k + 1, by omega, by go_num, HR11.out, HV11.out, HRw11.out, HMw11.out, HO11.out, by first | exact HB11.out | exact below_drewN HB11.out _⟩ | ((repeat apply Exists.intro); exact ⟨⟨k + 1, by omega, by go_num, HR11.out, HV11.out, HRw11.out, HMw11.out, HO11.out, by first | exact HB11.out | exact below_drewN HB11.out _⟩, rfl⟩)
          case measure => simp [intOf]; omega
      · have hc6n : ¬ c6 = k + 1 := by omega
        have hc7n : ¬ c7 = k + 1 := by omega
        have hln := HN.out
        have HT6 := Lib.hid (trow_tail (L := splB b) HR11.out hln.symm HV11.out HAb2.out (show k + 1 < n by omega))
        have HT7 := Lib.hid (trow_tail (L := splB b) HRw11.out hln.symm (fun i _ hi => HMw11.out.2.1 i (by omega)) HAb2.out (show k + 1 < n by omega))
        have hQ : ∀ (W : World), Below w11.heap.size w11 W → Calls Try.prog 35 #[.slice (some ⟨g6, k + 1, none⟩) (n - (k + 1)) (c6 - (k + 1)), .slice (some ⟨g7, k + 1, none⟩) (n - (k + 1)) (c7 - (k + 1))] W fun e w' => e = .returned (.bool true) ∧ w' = W := fun W hb => equalM_same _ _ _ _ W (HT6.out.below hb) (HT7.out.below hb) rfl
        have HQ := Lib.hid hQ
        clear hQ hln
        go_wp2_with fail
        go_quiet ((go_at_call 35; exact (HQ.out _ (by first | exact Below.refl _ _ | exact (Below.refl _ _).drew | exact below_drewN (Below.refl _ _) _)).mono fun e w' h => ⟨h.1, _, h.2⟩))
        all_goals
          go_wp2_with fail
          go_roundw
          case rel => first | exact ⟨k + 1, by omega, by go_num, HR11.out, HV11.out, HRw11.out, HMw11.out, HO11.out, by first | exact HB11.out | exact below_drewN HB11.out _⟩ | ((repeat apply Exists.intro); exact ⟨⟨k + 1, by omega, by go_num, HR11.out, HV11.out, HRw11.out, HMw11.out, HO11.out, by first | exact HB11.out | exact below_drewN HB11.out _⟩, rfl⟩)
          case measure => simp [intOf]; omega
    · obtain rfl : k = n := by omega
      have hdk : decide ((k : Int) < (k : Int)) = false := by simp
      have HBe := Lib.hid (bytesEqual_b _ _ b b wr (BRow.of_own ho HAb.out) (HR0.out.below hbel) true (decide_eq_true rfl))
      have HB := Lib.hid hbel
      clear hr hv hrw hmw ho hbel
      go_wp2_with fail
      refine HBe.out.mono ?_
      rintro e w12 ⟨rfl, hb12⟩
      have HB12 := Lib.hid (HB.out.trans (hb12.mono HB.out.size))
      clear hb12
      go_wp2
      go_ret
      exact ⟨rfl, HB12.out⟩
end Go.Proofs.Ytlohggdabpfkhaa
