/-
  CONTRACT of field.Write: the form of right fields, the error of others; nothing that was there is written.
-/
import Derived.Test.YteaeedhhdnkldaaField1
import Derived.Test.YteaeedhhdnkldaaNumAppendG
import Derived.Test.YteaeedhhdnkldaaAwake01
import Derived.Test.YteaeedhhdnkldaaNumPlain2
namespace Go.Proofs.Yteaeedhhdnkldaa
open Go.RowKit Pl

/-- How many bytes fields have together. -/
def sumB : List Fld → Nat
  | [] => 0
  | p :: L => p.2.length + sumB L
/-- Whether tags are above a number, at most 200, and increase. -/
def tagsF : Int → List Fld → Bool
  | _, [] => true
  | a, p :: L => decide (a < p.1 ∧ p.1 ≤ 200) && tagsF p.1 L
theorem fits_eq (L : List Fld) : ∀ (n m : Nat) (a : Int), fits n m a L = (decide (L.length ≤ n) && tagsF a L && decide (sumB L ≤ m)) := by
  induction L with
  | nil => intro n m a; simp [fits, tagsF, sumB]
  | cons p L ih =>
    intro n m a
    rw [Bool.eq_iff_iff]
    simp only [fits, ih, takeOk, tagsF, sumB, Bool.and_eq_true, decide_eq_true_eq, List.length_cons]
    constructor
    · rintro ⟨⟨h1, h2, h3, h4⟩, ⟨h5, h6⟩, h7⟩
      have e1 : L.length + 1 ≤ n := by omega
      have e2 : p.2.length + sumB L ≤ m := by clear h1 h2 h3 h5 h6 e1; omega
      exact ⟨⟨e1, ⟨h2, h3⟩, h6⟩, decide_eq_true e2⟩
    · rintro ⟨⟨h1, ⟨h2, h3⟩, h4⟩, h5⟩
      have h5 := of_decide_eq_true h5
      have e1 : n ≠ 0 ∧ L.length ≤ n - 1 := by clear h2 h3 h4 h5; omega
      have e2 : p.2.length ≤ m ∧ sumB L ≤ m - p.2.length := by clear h1 h2 h3 h4 e1; omega
      exact ⟨⟨e1.1, h2, h3, e2.1⟩, ⟨e1.2, h4⟩, e2.2⟩
theorem rightF_eq (L : List Fld) : rightF L = (decide (L.length ≤ 64) && tagsF 0 L && decide (sumB L ≤ 16384)) := fits_eq L 64 16384 0
theorem rightF_iff (L : List Fld) : rightF L = true ↔ L.length ≤ 64 ∧ tagsF 0 L = true ∧ sumB L ≤ 16384 := by
  rw [rightF_eq]; simp [and_assoc]
theorem tagsF_mem (L : List Fld) : ∀ (a : Int), tagsF a L = true → ∀ p ∈ L, a < p.1 ∧ p.1 ≤ 200 := by
  induction L with
  | nil => intro a _ p hp; simp at hp
  | cons q L ih =>
    intro a h p hp
    simp only [tagsF, Bool.and_eq_true, decide_eq_true_eq] at h
    rcases List.mem_cons.1 hp with rfl | hp
    · exact h.1
    · have := ih q.1 h.2 p hp
      exact ⟨by omega, this.2⟩
theorem sumB_mem (L : List Fld) : ∀ p ∈ L, p.2.length ≤ sumB L := by
  induction L with
  | nil => intro p hp; simp at hp
  | cons q L ih =>
    intro p hp
    simp only [sumB]
    rcases List.mem_cons.1 hp with rfl | hp
    · omega
    · have := ih p hp; omega
theorem fld_mem {L : List Fld} {k : Nat} (hk : k < L.length) : (ft L k, fb L k) ∈ L := by
  have e : (ft L k, fb L k) = L[k] := by simp [ft, fb, List.getD_eq_getElem?_getD, hk]
  rw [e]
  exact List.getElem_mem hk

/-- The form of one field. -/
def recOne (p : Fld) : List Nat := p.1.toNat :: (form p.2.length ++ p.2)
/-- The form of fields. -/
def recF (L : List Fld) : List Nat := L.flatMap recOne
theorem recF_take (L : List Fld) (k : Nat) (hk : k < L.length) : recF (L.take (k + 1)) = recF (L.take k) ++ [(ft L k).toNat] ++ form (fb L k).length ++ fb L k := by
  have e1 : ft L k = L[k].1 := by simp [ft, List.getD_eq_getElem?_getD, hk]
  have e2 : fb L k = L[k].2 := by simp [fb, List.getD_eq_getElem?_getD, hk]
  have e3 : L.take (k + 1) = L.take k ++ [L[k]] := by simp
  rw [e3, e1, e2]
  simp only [recF, List.flatMap_append, List.flatMap_cons, List.flatMap_nil, recOne, List.append_nil, List.append_assoc, List.cons_append, List.nil_append]
theorem recF_cons (p : Fld) (L : List Fld) : recF (p :: L) = recOne p ++ recF L := by simp [recF]
theorem recF_length (L : List Fld) : (recF L).length ≤ L.length * 10 + sumB L := by
  induction L with
  | nil => simp [recF, sumB]
  | cons p L ih =>
    rw [recF_cons]
    have := form_length p.2.length
    simp only [List.length_append, List.length_cons, sumB, recOne] at *
    omega
theorem sumB_take (L : List Fld) : ∀ k, sumB (L.take k) ≤ sumB L := by
  induction L with
  | nil => intro k; simp [sumB]
  | cons p L ih =>
    intro k
    cases k with
    | zero => simp [sumB]
    | succ k => simp only [List.take_succ_cons, sumB]; have := ih k; omega

theorem cell_past {W0 w w' : World} {base : Nat} {v : Value} {l : List Nat} (hown : Own8 W0 base v l) (hg : w.grownBy w' v.ownBlock) {p : Addr} {u : Value} (hp : W0.heap.size ≤ p.block) (hc : w.cell? p = some u) : w'.cell? p = some u := by
  obtain ⟨b, o, s⟩ := p
  refine hg.cell hc fun e => ?_
  have := (hown.lt _ e.symm).2
  have hp' : W0.heap.size ≤ b := hp
  exact absurd this (Nat.not_lt.2 hp')

theorem cell_alloc' {w : World} {p : Addr} {u : Value} (h : w.cell? p = some u) (o : Obj) : (w.alloc o).cell? p = some u := (World.cell?_alloc_lt w o p (block_lt_of_cell h)).trans h

set_option maxRecDepth 100000 in
set_option maxHeartbeats 2000000 in
theorem write_calls (v : Value) (L : List Fld) (w : World) (h : FRow w v L) :
    Calls Try.prog 72 #[v] w fun e w' => ∃ v' er, e = .returned (.tuple #[v', .int .i64 er]) ∧ Below w.heap.size w w' ∧ ((rightF L = false ∧ v' = .slice none 0 0 ∧ er = 20) ∨ (rightF L = true ∧ er = 0 ∧ Own8 w' w.heap.size v' (recF L))) := by
  have HR := Lib.hid (right_calls v L w h)
  obtain ⟨r, hr⟩ : ∃ r, rightF L = r := ⟨_, rfl⟩
  rw [hr] at HR ⊢
  cases r with
  | false =>
    clear h
    go_enter Try.func72, Try.ntmps72
    go_wp2_with (go_at_call 75; refine HR.out.mono ?_; rintro e w1 ⟨rfl, hb1⟩)
    go_ret2
    exact ⟨_, _, rfl, hb1, .inl ⟨trivial, rfl, rfl⟩⟩
  | true =>
    obtain ⟨hl, htg, hsum⟩ := (rightF_iff L).1 hr
    have htm := tagsF_mem L 0 htg
    have hsm := sumB_mem L
    have hsz := fun k => recF_length (L.take k)
    have hst := sumB_take L
    have HP := Lib.hid (fun k => (And.intro (hsz k) (hst k)))
    have HM := Lib.hid (fun k (hk : k < L.length) => And.intro (htm _ (fld_mem hk)) (hsm _ (fld_mem hk)))
    have HTk := Lib.hid (recF_take L)
    clear htm hsm hsz hst htg hr
    obtain ⟨ht, ⟨a, c, rfl, rfl, -⟩ | ⟨b, off, cap, A, C, rfl, hc, hm, hcell⟩⟩ := h
    · clear HP HM HTk
      go_enter Try.func72, Try.ntmps72
      go_wp2_with (go_at_call 75; refine HR.out.mono ?_; rintro e w1 ⟨rfl, hb1⟩)
      go_loopw [4, 12] (fun u i wr => u = .slice none 0 0 ∧ i = .int .i64 0 ∧ Below w.heap.size w wr) (fun _ _ _ => 0)
      case atStart => exact ⟨rfl, rfl, hb1⟩
      case round =>
        obtain ⟨rfl, rfl, hbel⟩ := hrel
        go_wp2
        go_ret2
        exact ⟨_, _, rfl, hbel, .inr ⟨trivial, rfl, own8_nil _ _⟩⟩
    · have HC := Lib.hid hcell
      have hcs : (L.length : Int) ≤ 9223372036854775807 := by unfold maxLen at hm; omega
      clear hcell hm ht
      go_enter Try.func72, Try.ntmps72
      go_wp2_with (go_at_call 75; refine HR.out.mono ?_; rintro e w1 ⟨rfl, hb1⟩)
      have HB1 := Lib.hid hb1
      clear hb1
      go_loopw [4, 12] (fun v4 i wr => ∃ k : Nat, k ≤ L.length ∧ i = .int .i64 k ∧ Own8 wr w.heap.size v4 (recF (L.take k)) ∧ Below w.heap.size w wr) (fun _ i _ => L.length - (intOf i).toNat)
      case atStart => exact ⟨0, by omega, rfl, own8_nil _ _, HB1.out⟩
      case round =>
        obtain ⟨k, hk, rfl, hown, hbel⟩ := hrel
        have HO := Lib.hid hown; clear hown
        have HB := Lib.hid hbel
        by_cases hlt : k < L.length
        · obtain ⟨c1, c2, c3⟩ := HC.out k hlt
          obtain ⟨⟨t1, t2⟩, s1⟩ := HM.out k hlt
          obtain ⟨A1, hA1⟩ : ∃ x, A k = x := ⟨_, rfl⟩
          obtain ⟨C1, hC1⟩ : ∃ x, C k = x := ⟨_, rfl⟩
          rw [hA1, hC1] at c2 c3
          have c1' := (hbel.cell (p := ⟨b, off + k * 2, none⟩) (block_lt_of_cell c1)).trans c1
          have c2' := (hbel.cell (p := ⟨b, off + k * 2 + 1, none⟩) (block_lt_of_cell c2)).trans c2
          have HTk1 := Lib.hid (HTk.out k hlt)
          have HLn := Lib.hid (HP.out k)
          have hlk : (L.take k).length ≤ 64 := by simp; omega
          obtain ⟨tn, htn⟩ : ∃ tn : Nat, ft L k = tn := ⟨(ft L k).toNat, by omega⟩
          generalize ft L k = tg at *
          subst htn
          generalize fb L k = bs at *
          have HC3 := Lib.hid c3
          clear c1 c2 c3 hA1 hC1
          have hw : IntKind.u8.wrap (tn : Int) = tn := IntWalk.u8_in _ ⟨by omega, by omega⟩
          have hA := (HB.out.alloc HB.out.size (.cells #[.int .i64 tn, .slice A1 bs.length C1] 33))
          have hF0 : (wr.alloc (.cells #[.int .i64 tn, .slice A1 bs.length C1] 33)).cell? ⟨wr.heap.size, 1, none⟩ = some (.slice A1 bs.length C1) := by simp
          have hbl : bs.length < 18446744073709551616 := by omega
          have hOf := HO.out.alloc (.cells #[.int .i64 tn, .slice A1 bs.length C1] 33)
          have hne : u4.ownBlock ≠ some wr.heap.size := fun e => by have := (HO.out.lt _ e).2; omega
          have hT : AllB [tn] := by intro d hd; simp at hd; omega
          have HOf := Lib.hid hOf
          have HAf := Lib.hid hA
          have hsz : (wr.alloc (.cells #[.int .i64 tn, .slice A1 bs.length C1] 33)).heap.size = wr.heap.size + 1 := by simp
          have HF0 := Lib.hid hF0
          have HNe := Lib.hid hne
          have HT := Lib.hid hT
          have hln : (recF (L.take k)).length ≤ 17100 := by have := HLn.out; omega
          clear hA hOf hF0 hne hT HO HB
          go_wp2_with (first
            | (at_builtin; refine wpList_append8_at rfl (.tmp 16) (.tmp 20) rfl w.heap.size _ _ rfl (HOf.out.alloc _) _ [tn] rfl (BRow.litAt _ [tn] _ _ _ _ rfl (by simp) rfl HT.out (by simp)) (by simp; omega) (by have := HAf.out.size; simp at *; omega) ?_; intro v5 w5 hown5 hg5 hat5; have HO5 := Lib.hid hown5; have HB5 := Lib.hid ((HAf.out.alloc HAf.out.size _).grown hg5 (HAf.out.alloc HAf.out.size _).size (fun j hj => (HOf.out.lt j hj).1)); have hc5 := hg5.cell (cell_alloc' HF0.out _) (fun e => HNe.out e.symm); have HN5 := Lib.hid (at8_ne hat5 (by simp; omega) HNe.out); have hs5 := hg5.size; clear hown5 hg5 hat5)
            | (go_at_call 62; refine (append_calls_g bs.length hbl w5 w.heap.size HB5.out.size v5 _ HO5.out (by simp; omega)).mono ?_; rintro e w6 ⟨v6, rfl, hown6, hg6, hat6⟩; have HO6 := Lib.hid hown6; have HB6 := Lib.hid (HB5.out.grown hg6 HB5.out.size (fun j hj => (HO5.out.lt j hj).1)); have hc6 := hg6.cell hc5 (fun e => HN5.out e.symm); have hs6 := hg6.size; clear hown6 hg6 hat6)
            | (at_builtin; refine wpList_append8 rfl (.tmp 28) (.tmp 30) rfl w.heap.size _ _ rfl HO6.out _ bs rfl (HC3.out.below HB6.out) (by have := form_length bs.length; simp; omega) HB6.out.size ?_; intro v7 w7 hown7 hg7; have HO7 := Lib.hid hown7; have HB7 := Lib.hid (HB6.out.grown hg7 HB6.out.size (fun j hj => (HO6.out.lt j hj).1)); clear hown7 hg7))
          go_roundw
          case rel => exact ⟨k + 1, by omega, by go_num, by rw [HTk1.out]; exact HO7.out, HB7.out⟩
          case measure => simp [intOf]; omega
        · obtain rfl : k = L.length := by omega
          have hO' := HO.out
          rw [List.take_length] at hO'
          have HO2 := Lib.hid hO'
          clear hO' HO HTk HP HM
          go_wp2
          go_ret2
          exact ⟨_, _, rfl, hbel, .inr ⟨trivial, rfl, HO2.out⟩⟩
end Go.Proofs.Yteaeedhhdnkldaa
