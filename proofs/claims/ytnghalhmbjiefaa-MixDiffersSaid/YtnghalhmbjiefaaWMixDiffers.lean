/-
  THE WALK of fermatalaw05.MixDiffers: it returns true, and writes nothing that was there.
-/
import Derived.Test.YtnghalhmbjiefaaWMixJoins
import Derived.Deep.RegionHeld3
namespace Go.Proofs.Ytnghalhmbjiefaa
open Go.RowKit Pl

/-! Joining, element by element. -/
theorem gold_inj {j i : BitVec 64} (h : j * goldB = i * goldB) : j = i := by
  have g : goldB * 0xf1de83e19937733d#64 = 1#64 := by decide +kernel
  have := congrArg (· * 0xf1de83e19937733d#64) h
  simpa only [BitVec.mul_assoc, g, BitVec.mul_one] using this
theorem join_step_j {x j i : BitVec 64} (h : mixB (goldB + x + j * goldB) = mixB (goldB + x + i * goldB)) : j = i := by
  have h1 := mixB_inj h
  exact gold_inj ((BitVec.add_right_inj _).1 h1)
theorem join_step_x {x y j : BitVec 64} (h : mixB (goldB + x + j * goldB) = mixB (goldB + y + j * goldB)) : x = y := by
  have h1 := mixB_inj h
  exact (BitVec.add_right_inj _).1 ((BitVec.add_left_inj _).1 h1)
theorem fold_differs (l : List (BitVec 64)) : ∀ j i : BitVec 64, j ≠ i → l.foldl (fun j x => mixB (goldB + x + j * goldB)) j ≠ l.foldl (fun j x => mixB (goldB + x + j * goldB)) i := by
  induction l with
  | nil => intro j i h; exact h
  | cons x l ih => intro j i h; exact ih _ _ (fun e => h (join_step_j e))
theorem joinB_differs (p r : List (BitVec 64)) (x y : BitVec 64) (h : x ≠ y) : joinB (p ++ x :: r) ≠ joinB (p ++ y :: r) := by
  unfold joinB
  rw [List.foldl_append, List.foldl_append]
  exact fold_differs r _ _ (fun e => h (join_step_x e))
theorem joinN_differs (l : List Nat) (k y : Nat) (hk : k < l.length) (hl : ∀ x ∈ l, x < 18446744073709551616) (hy : y < 18446744073709551616) (hne : gt l k ≠ y) : joinN l ≠ joinN (l.set k y) := by
  have e1 : l = l.take k ++ gt l k :: l.drop (k + 1) := by
    have : gt l k = l[k] := by simp [gt, hk]
    rw [this, List.getElem_cons_drop, List.take_append_drop]
  have e2 : l.set k y = l.take k ++ y :: l.drop (k + 1) := List.set_eq_take_append_cons_drop.trans (by rw [if_pos hk])
  rw [e2]
  conv => lhs; rw [e1]
  unfold joinN bvL
  simp only [List.map_append, List.map_cons]
  refine joinB_differs _ _ _ _ (fun e => hne ?_)
  have h1 := congrArg BitVec.toNat e
  rw [BitVec.toNat_ofNat, BitVec.toNat_ofNat, Nat.mod_eq_of_lt (hl _ (gt_mem hk)), Nat.mod_eq_of_lt (by omega)] at h1
  exact h1

/-- A row with one number written anew. -/
theorem NRow.set {w : World} {b off n c : Nat} {l : List Nat} (h : NRow w (.slice (some ⟨b, off, none⟩) n c) l) (k y : Nat) (hk : k < l.length) (hy : y < 18446744073709551616) :
    NRow (w.setCell ⟨b, off + k, none⟩ (.int .u64 (y : Int))) (.slice (some ⟨b, off, none⟩) n c) (l.set k y) := by
  obtain ⟨hb, ⟨_, _, _, rfl, _⟩ | ⟨b', off', cap, hv, h1, h2, h3⟩⟩ := h
  · simp at hk
  · simp only [Value.slice.injEq, Option.some.injEq, Addr.mk.injEq] at hv
    obtain ⟨⟨rfl, rfl, _⟩, rfl, rfl⟩ := hv
    refine ⟨fun x hx => ?_, .inr ⟨b, off, c, by rw [List.length_set], by rw [List.length_set]; exact h1, h2, fun i hi => ?_⟩⟩
    · rcases List.mem_or_eq_of_mem_set hx with h | h
      · exact hb x h
      · rw [h]; exact hy
    · rw [List.length_set] at hi
      by_cases hik : i = k
      · subst hik
        have e := World.cell?_setCell_same' w ⟨b, off + i, none⟩ (.int .u64 (y : Int)) (by rw [h3 i hk]; rfl)
        rw [e]
        simp [gt, hk]
      · have hne : (⟨b, off + k, none⟩ : Addr) ≠ ⟨b, off + i, none⟩ := by intro e; simp only [Addr.mk.injEq] at e; omega
        have e := h3 i hi
        rw [← World.cell?_setCell_other w _ _ (.int .u64 (y : Int)) hne] at e
        rw [e]
        simp [gt, Ne.symm hik]
theorem row_lt {w : World} {b off n c : Nat} {l : List Nat} (h : NRow w (.slice (some ⟨b, off, none⟩) n c) l) (h0 : 0 < l.length) : b < w.heap.size := by
  obtain ⟨b', off', hv, hc⟩ := nrow_at h 0 h0
  simp only [Option.some.injEq, Addr.mk.injEq] at hv
  obtain ⟨rfl, rfl, _⟩ := hv
  exact block_lt_of_cell hc
theorem ownN_block {w : World} {base b off n c : Nat} {l : List Nat} (_ : OwnN w base (.slice (some ⟨b, off, none⟩) n c) l) : (Value.slice (some ⟨b, off, none⟩) n c).ownBlock = some b := rfl
theorem ownN_free {w : World} {base b off n c : Nat} {l : List Nat} (h : OwnN w base (.slice (some ⟨b, off, none⟩) n c) l) (k : Nat) : w.frozen? ⟨b, off + k, none⟩ = false := by
  obtain ⟨_, ⟨hv, _⟩ | ⟨g, cap, cur, hv, h1, h2, _⟩⟩ := h
  · cases hv
  · simp only [Value.slice.injEq, Option.some.injEq, Addr.mk.injEq] at hv
    obtain ⟨⟨rfl, rfl, _⟩, rfl, rfl⟩ := hv
    simp [World.frozen?, h2]
/-- A cell, and what lay below, are kept by whatever writes nothing that was there. -/
theorem held_on {W3 W : World} {b o : Nat} {v r : Value} {f : FuncId} {args : Array Value} (hb : b < W3.heap.size) (h : W.cell? ⟨b, o, none⟩ = some v ∧ Below W3.heap.size W3 W)
    (hc : Calls Try.prog f args W fun e w' => e = .returned r ∧ Below W.heap.size W w') :
    Calls Try.prog f args W fun e w' => e = .returned r ∧ w'.cell? ⟨b, o, none⟩ = some v ∧ Below W3.heap.size W3 w' :=
  hc.mono fun _ _ ⟨he, hw⟩ => ⟨he, (hw.cell (p := ⟨b, o, none⟩) (Nat.lt_of_lt_of_le hb h.2.size)).trans h.1, h.2.trans (hw.mono h.2.size)⟩
theorem NRow.setOther {w : World} {v : Value} {l : List Nat} (h : NRow w v l) (b off : Nat) (x : Value) (hne : ∀ b' off' c, v = .slice (some ⟨b', off', none⟩) l.length c → b' ≠ b) : NRow (w.setCell ⟨b, off, none⟩ x) v l := by
  obtain ⟨hb, hn | ⟨b', off', cap, rfl, h1, h2, h3⟩⟩ := h
  · exact ⟨hb, .inl hn⟩
  · refine ⟨hb, .inr ⟨b', off', cap, rfl, h1, h2, fun i hi => ?_⟩⟩
    have hd := hne b' off' cap rfl
    have hne : (⟨b, off, none⟩ : Addr) ≠ ⟨b', off' + i, none⟩ := by intro e; simp only [Addr.mk.injEq] at e; omega
    have e := h3 i hi
    rw [← World.cell?_setCell_other w _ _ x hne] at e
    exact e

set_option maxRecDepth 100000 in
set_option maxHeartbeats 4000000 in
theorem mixDiffers_walk (a : Option Addr) (n c : Nat) (l0 : List Nat) (at' : Nat) (hat : at' < 256) (by' : Nat) (hby : by' < 18446744073709551616) (w : World) (hl : NRow w (.slice a n c) l0) (hn0 : l0.length = n) :
    Calls Try.prog 9 #[.slice a n c, .int .u8 (at' : Int), .int .u64 (by' : Int)] w fun e w' => e = .returned (.bool true) ∧ Below w.heap.size w w' := by
  have AW := Lib.hid (fun W => awake5_calls W)
  have hsh := nrow_slice hl
  obtain ⟨a', c', hv, hc1, hc2⟩ := hsh
  simp only [Value.slice.injEq] at hv
  obtain ⟨-, -, rfl⟩ := hv
  rw [hn0] at hc1
  unfold maxLen at hc2
  obtain ⟨m, hm, hmn, hm40⟩ : ∃ m : Nat, min (n : Int) 40 = (m : Int) ∧ m ≤ n ∧ m ≤ 40 := ⟨min n 40, by omega, by omega, by omega⟩
  have HL := Lib.hid (hl.head5 m (by omega))
  have hlm : (l0.take m).length = m := by rw [List.length_take]; omega
  have hbnd := Lib.hid HL.out.1
  generalize l0.take m = l at *
  clear hl hn0
  subst hlm
  by_cases h0 : l.length = 0
  · obtain rfl : l = [] := List.eq_nil_of_length_eq_zero h0
    have hm0 : min (n : Int) 40 = 0 := by rw [hm]; rfl
    have HL0 := Lib.hid (show NRow w (.slice a 0 c) [] from HL.out)
    have HJ := Lib.hid (fun v W (h : NRow W v []) => show Calls Try.prog 14 #[v] W fun e w' => e = .returned (.int .u64 0) ∧ W = w' from join_calls v [] W h)
    clear hm HL hmn hm40 h0
    go_enter Try.func9, Try.ntmps9
    go_wp2_with (first
      | (at_builtin; refine wpList_appendN rfl (.tmp 10) _ rfl w.heap.size _ [] rfl (ownN_lit w [] _ _ _ _ rfl rfl rfl rfl (by simp) _ (Nat.le_refl _)) _ [] rfl (HL0.out.below ((Below.refl _ _).alloc (Nat.le_refl _) _)) (by simp) (by simp) ?_; intro v1 w1 hown hgrow; have HB1 := Lib.hid (((Below.refl _ _).alloc (Nat.le_refl _) _).trans (below_appendN (ownN_lit w [] _ _ _ _ rfl rfl rfl rfl (by simp) _ (Nat.le_refl _)) hgrow (by simp))); have HO := Lib.hid (show OwnN w1 w.heap.size v1 [] from hown); clear hown hgrow; obtain ⟨a1, c1, rfl, hc1, hm1⟩ := ownN_shape HO.out; unfold maxLen at hm1; have HR1 := Lib.hid (NRow.of_ownN HO.out hbnd.out))
      | fail)
    refine (HJ.out _ _ HR1.out).mono ?_
    rintro e w' ⟨rfl, rfl⟩
    go_wp2_with fail
    refine (AW.out _).mono ?_
    rintro e w2 ⟨rfl, hb2⟩
    have HB2 := Lib.hid (HB1.out.trans (hb2.mono HB1.out.size))
    clear hb2
    go_wp2
    go_ret
    exact ⟨rfl, HB2.out⟩
  · obtain ⟨k, hk, hkl⟩ : ∃ k : Nat, (at' : Int) % (l.length : Int) = (k : Int) ∧ k < l.length := ⟨at' % l.length, by simp, Nat.mod_lt _ (by omega)⟩
    obtain ⟨p, hp, hp1, hp2⟩ : ∃ p : Nat, max (by' : Int) 1 = (p : Int) ∧ 1 ≤ p ∧ p < 18446744073709551616 := ⟨max by' 1, by omega, by omega, by omega⟩
    have hgl := hbnd.out _ (gt_mem hkl)
    obtain ⟨y, hy, hyl, hyne⟩ : ∃ y : Nat, IntKind.u64.wrap ((gt l k : Int) + (p : Int)) = (y : Int) ∧ y < 18446744073709551616 ∧ gt l k ≠ y := ⟨(gt l k + p) % 18446744073709551616, by rw [IntKind.wrap_u64]; omega, Nat.mod_lt _ (by omega), by omega⟩
    have hdiff := Lib.hid (joinN_differs l k y hkl hbnd.out hyl hyne)
    have hl0 : ((l.length : Int) == 0) = false := beq_eq_false_iff_ne.2 (by omega)
    have hl00 : ¬ (l.length : Int) = 0 := by omega
    go_enter Try.func9, Try.ntmps9
    go_wp2_with (first
      | (at_builtin; refine wpList_appendN rfl (.tmp 10) _ rfl w.heap.size _ [] rfl (ownN_lit w [] _ _ _ _ rfl rfl rfl rfl (by simp) _ (Nat.le_refl _)) _ l rfl (HL.out.below ((Below.refl _ _).alloc (Nat.le_refl _) _)) (by simp; omega) (by simp) ?_; intro v1 w1 hown hgrow; have HB1 := Lib.hid (((Below.refl _ _).alloc (Nat.le_refl _) _).trans (below_appendN (ownN_lit w [] _ _ _ _ rfl rfl rfl rfl (by simp) _ (Nat.le_refl _)) hgrow (by simp))); have HO := Lib.hid (show OwnN w1 w.heap.size v1 l from hown); clear hown hgrow; obtain ⟨a1, c1, rfl, hc1, hm1⟩ := ownN_shape HO.out; unfold maxLen at hm1; have HR1 := Lib.hid (NRow.of_ownN HO.out hbnd.out))
      | (at_builtin; refine wpList_appendN rfl (.tmp 31) _ rfl w1.heap.size _ [] rfl (ownN_lit w1 [] _ _ _ _ rfl rfl rfl rfl (by simp) _ (Nat.le_refl _)) _ l rfl (HR1.out.below ((Below.refl _ _).alloc (Nat.le_refl _) _)) (by simp; omega) (by simp) ?_; intro v2 w2 hown hgrow; have hb2 := Lib.hid (((Below.refl _ _).alloc (Nat.le_refl _) _).trans (below_appendN (ownN_lit w1 [] _ _ _ _ rfl rfl rfl rfl (by simp) _ (Nat.le_refl _)) hgrow (by simp))); have HO2 := Lib.hid (show OwnN w2 w1.heap.size v2 l from hown); clear hown hgrow; obtain ⟨a2, c2, rfl, hc2', hm2⟩ := ownN_shape HO2.out; unfold maxLen at hm2; have HR2 := Lib.hid (NRow.of_ownN HO2.out hbnd.out); have HR1b := Lib.hid (HR1.out.below hb2.out); have HB2 := Lib.hid (HB1.out.trans (hb2.out.mono HB1.out.size)); obtain ⟨b2, o2, rfl, hcell2⟩ := nrow_at HR2.out k hkl; obtain ⟨b1, o1, rfl, hcell1⟩ := nrow_at HR1b.out k hkl; have hfar := Lib.hid (show b1 < w1.heap.size ∧ w1.heap.size ≤ b2 from ⟨row_lt HR1.out (by omega), (HO2.out.lt b2 (ownN_block HO2.out)).1⟩); have f2 : w2.frozen? ⟨b2, o2 + k, none⟩ = false := ownN_free HO2.out k; rw [hk])
      | fail)
    have hS1 := HR1b.out.setOther b2 (o2 + k) (.int .u64 (y : Int)) (by intro b' off' c' e; simp only [Value.slice.injEq, Option.some.injEq, Addr.mk.injEq] at e; have := hfar.out; omega)
    have hS2 := HR2.out.set k y hkl hyl
    have hB3 := HB2.out.setCell (p := ⟨b2, o2 + k, none⟩) (by have := hfar.out; have := HB1.out.size; show w.heap.size ≤ b2; omega) (.int .u64 (y : Int))
    obtain ⟨W3, hW3⟩ : ∃ W3, W3 = w2.setCell ⟨b2, o2 + k, none⟩ (.int .u64 (y : Int)) := ⟨_, rfl⟩
    rw [← hW3] at hS1 hS2 hB3 ⊢
    obtain ⟨q, hq⟩ : ∃ q : Nat, l.length = q + 1 := ⟨l.length - 1, by omega⟩
    have hq1 : (l.length : Int) - 1 = (q : Int) := by omega
    rw [hq1]
    obtain ⟨b1', o1', hv, hcq⟩ := nrow_at hS1 q (by omega)
    simp only [Option.some.injEq, Addr.mk.injEq] at hv
    obtain ⟨rfl, rfl, -⟩ := hv
    have hlq : lastB (joinN l) (bvL (l.take q)) = BitVec.ofNat 64 (gt l q) := by
      have e : l = l.take q ++ [gt l q] := by rw [← take_snoc_gt q (by omega), List.take_of_length_le (by omega)]
      have e2 : joinN l = joinB (bvL (l.take q) ++ [BitVec.ofNat 64 (gt l q)]) := by
        conv => lhs; rw [e]
        unfold joinN bvL
        rw [List.map_append, List.map_singleton]
      rw [e2, lastB_join]
    have hgq : (gt l q : Int) = ((BitVec.ofNat 64 (gt l q)).toNat : Int) := uvn (hbnd.out _ (gt_mem (by omega)))
    have hb1q := block_lt_of_cell hcq
    have HJ1 := Lib.hid (fun W (hb : W.cell? ⟨b1, o1 + q, none⟩ = some (.int .u64 (gt l q : Int)) ∧ Below W3.heap.size W3 W) => join_calls _ l W (hS1.below hb.2))
    have HJ2 := Lib.hid (fun W (hb : W.cell? ⟨b1, o1 + q, none⟩ = some (.int .u64 (gt l q : Int)) ∧ Below W3.heap.size W3 W) => join_calls _ (l.set k y) W (hS2.below hb.2))
    have HLa := Lib.hid (fun W (hb : W.cell? ⟨b1, o1 + q, none⟩ = some (.int .u64 (gt l q : Int)) ∧ Below W3.heap.size W3 W) => by
      have h := last_calls (joinN l) _ (l.take q) W ((hS1.head5 q (by omega)).below hb.2)
      rw [hlq, ← hgq] at h
      exact held_on hb1q hb h)
    have HAW := Lib.hid (fun W (hb : W.cell? ⟨b1, o1 + q, none⟩ = some (.int .u64 (gt l q : Int)) ∧ Below W3.heap.size W3 W) =>
      held_on hb1q hb (AW.out W))
    have hjne : (((joinN l).toNat : Int) != ((joinN (l.set k y)).toNat : Int)) = true := by rw [uv_ne]; simpa using hdiff.out
    have hqq : ((gt l q : Int) == (gt l q : Int)) = true := by simp
    have HCQ := Lib.hid hcq
    have HB3 := Lib.hid hB3
    have HD := Lib.hid (show W3.drew.cell? ⟨b1, o1 + q, none⟩ = some (.int .u64 (gt l q : Int)) ∧ Below W3.heap.size W3 W3.drew from ⟨hcq, (Below.refl _ _).drew⟩)
    have hqc : (q : Int) ≤ (c1 : Int) := by omega
    have hql : (q : Int) < (l.length : Int) := by omega
    have hlc : (l.length : Int) ≤ (c1 : Int) := by omega
    clear hS1 hS2 hB3 hW3 hlq hgq hcell1 hcell2 f2 hy hyl hyne hk hkl hp hp1 hp2 hgl hl0 hl00 hm hmn hm40 hat hby hc1
    clear hq hq1 hb1q hcq AW
    clear HO HR1 HB1 HO2 HR2 HR1b HB2 hfar hb2 hdiff HL
    generalize joinN (l.set k y) = j2 at *
    generalize joinN l = j1 at *
    generalize gt l q = gq at *
    generalize l.length = ll at *
    go_region_held3 (fun W' => W'.cell? ⟨b1, o1 + q, none⟩ = some (.int .u64 (gq : Int)) ∧ Below W3.heap.size W3 W') (first | exact HD.out | assumption)
      (first
        | (go_at_call 14; (first | (with_reducible refine (HJ1.out _ (by assumption)).mono ?_) | (with_reducible refine (HJ2.out _ (by assumption)).mono ?_)); rintro e w' ⟨rfl, rfl⟩)
        | (go_at_call 15; with_reducible refine (HLa.out _ (by assumption)).mono ?_; rintro e w4 ⟨rfl, hs4⟩)
        | (go_at_call 13; with_reducible refine (HAW.out _ (by assumption)).mono ?_; rintro e w5 ⟨rfl, hs5⟩))
    all_goals
      have HB5 := Lib.hid (HB3.out.trans (hs5.2.mono HB3.out.size))
      clear hs5
      go_wp2
      go_ret
      exact ⟨rfl, HB5.out⟩
end Go.Proofs.Ytnghalhmbjiefaa
