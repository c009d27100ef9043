/-
  CONTRACTS of the document's own Right and Parts of layer 4.
-/
import Derived.Test.YtdaalpiiagmdfaaNameRefA
namespace Go.Proofs.Ytdaalpiiagmdfaa
open Go.RowKit Go.Shelf

attribute [-go_sem] run_index_string

theorem part_le (l : List UInt8) : ∀ p ∈ partsL l, p.length ≤ l.length := by
  induction l with
  | nil => intro p hp; simp [partsL] at hp; subst hp; simp
  | cons c l ih =>
    intro p hp
    have e : partsL (c :: l) = if c == 46 then [] :: partsL l else match partsL l with
      | [] => [[c]]
      | p :: ps => (c :: p) :: ps := rfl
    rw [e] at hp
    by_cases hc : (c == 46) = true
    · rw [if_pos hc] at hp
      rcases List.mem_cons.1 hp with h | h
      · subst h; simp
      · have := ih p h; simp; omega
    · rw [if_neg hc] at hp
      cases hq : partsL l with
      | nil => exact absurd hq (partsL_ne l)
      | cons q qs =>
        rw [hq] at hp ih
        rcases List.mem_cons.1 hp with h | h
        · subst h; have := ih q (by simp); simp; omega
        · have := ih p (by simp [h]); simp; omega
theorem own_lower {w : World} {base base' : Nat} {v : Value} {l : List (List UInt8)} (h : OwnS w base v l) (hb : base' ≤ base) : OwnS w base' v l := by
  obtain ⟨hlen, h | ⟨g, cap, cur, hv, h1, h2⟩⟩ := h
  · exact ⟨hlen, .inl h⟩
  · exact ⟨hlen, .inr ⟨g, cap, cur, hv, Nat.le_trans hb h1, h2⟩⟩
theorem owns_some {w : World} {base : Nat} {v : Value} {l : List (List UInt8)} (h : OwnS w base v l) (hl : l ≠ []) : ∃ g cap, v = .slice (some ⟨g, 0, none⟩) l.length cap ∧ base ≤ g ∧ l.length ≤ cap ∧ cap ≤ maxLen ∧ ∀ i x, l[i]? = some x → w.cell? ⟨g, i, none⟩ = some (.string ⟨x.toArray⟩) := by
  have ht := trow_own h
  obtain ⟨hlen, ⟨rfl, hn⟩ | ⟨g, cap, cur, rfl, h1, h2, h3, h4, h5, h6⟩⟩ := h
  · exact absurd (List.eq_nil_of_length_eq_zero hn) hl
  · refine ⟨g, cap, rfl, h1, h3, h4, fun i x hx => ?_⟩
    rcases ht with ⟨h0, _⟩ | ⟨b, o, c, hv, _, _, hc⟩
    · exact absurd h0 hl
    · simp only [Value.slice.injEq, Option.some.injEq, Addr.mk.injEq] at hv
      obtain ⟨⟨rfl, rfl, _⟩, _, _⟩ := hv
      have := hc i x hx
      rwa [Nat.zero_add] at this

set_option maxRecDepth 100000 in
set_option maxHeartbeats 2000000 in
theorem rright_tail (s : List UInt8) (hs : s.length ≤ 32) (h0 : 0 < s.length) (hl : ltr (s.getD 0 0) = true) (w : World) :
    Calls Try.prog 32 #[.string ⟨s.toArray⟩] w fun e w' => e = .returned (.bool (rightN s)) ∧ Below w.heap.size w w' := by
  have hsz : (⟨s.toArray⟩ : ByteArray).size = s.length := by simp [ByteArray.size]
  have hr : rightN s = (partsL s).all partOk := by
    unfold rightN
    rw [decide_eq_true h0, decide_eq_true hs, hl]
    rfl
  have hidx := fun W => sindex s 0 h0 W
  have hlt := hl
  unfold ltr at hlt
  simp only [decide_eq_true_eq] at hlt
  have e0 : ((0 : Nat) : Int) = 0 := rfl
  rw [e0] at hidx
  have e1 : ¬ ((s.getD 0 0).toNat : Int) < 97 := by omega
  have e2 : ¬ (122 : Int) < ((s.getD 0 0).toNat : Int) := by omega
  have e3 : ((s.length : Int) == 0) = false := beq_eq_false_iff_ne.2 (by omega)
  have e4 : ¬ (32 : Int) < (s.length : Int) := by omega
  have HC := Lib.hid (rcut_calls s (by omega) w)
  have HPn := Lib.hid (partsL_ne s)
  have HPl := Lib.hid (part_le s)
  have HLen := Lib.hid (partsL_length s)
  rw [hr]
  obtain ⟨R, hR⟩ : ∃ R, (partsL s).all partOk = R := ⟨_, rfl⟩
  rw [hR]
  have HRes := Lib.hid hR
  clear hR
  have hs32 := Lib.hid hs
  clear hr hl hlt h0 hs
  generalize (s.getD 0 0).toNat = b at *
  go_enter Try.func32, Try.ntmps32
  go_wp2_with fail
  refine HC.out.mono ?_
  rintro e w1 ⟨v, rfl, hown, hb1⟩
  obtain ⟨g, cap, rfl, hg, hcap, hmax, hcell⟩ := owns_some hown HPn.out
  have HCe := Lib.hid hcell
  have HB := Lib.hid hb1
  clear hown hb1 hcell
  have hparts : ∀ p ∈ partsL s, p.length ≤ 1000000 := fun p hp => by have := HPl.out p hp; have := hs32.out; omega
  have HPp := Lib.hid hparts
  have hll := HLen.out
  have hs3 := hs32.out
  clear hparts
  unfold maxLen at hmax
  generalize partsL s = l at *
  go_wp2
  go_loop [4] (fun iv => ∃ k : Nat, k ≤ l.length ∧ iv = .int .i64 (k : Int) ∧ ∀ p ∈ l.take k, partOk p = true) (fun iv => l.length - (intOf iv).toNat)
  case atStart => exact ⟨0, by omega, rfl, by simp⟩
  case round =>
    obtain ⟨k, hk, rfl, hall⟩ := hrel
    have HA := Lib.hid hall
    clear hall
    by_cases hkl : k < l.length
    · have hc := HCe.out k l[k] (List.getElem?_eq_getElem hkl)
      have HP := Lib.hid (fun W => rpart_calls l[k] (HPp.out _ (List.getElem_mem hkl)) W)
      have HTk := Lib.hid (List.take_succ_eq_append_getElem hkl)
      have HMem := Lib.hid (List.getElem_mem hkl)
      generalize l[k] = p at *
      obtain ⟨r, hr⟩ : ∃ r, partOk p = r := ⟨_, rfl⟩
      rw [hr] at HP
      have HR := Lib.hid hr
      clear hr
      cases r with
      | true =>
        go_wp2_with fail
        refine (HP.out _).mono ?_
        rintro e w' ⟨rfl, rfl⟩
        go_wp2
        go_round
        case rel =>
          refine ⟨k + 1, by omega, by go_num, fun q hq => ?_⟩
          rw [HTk.out] at hq
          rcases List.mem_append.1 hq with h | h
          · exact HA.out q h
          · rw [List.mem_singleton.1 h]; exact HR.out
        case measure => simp [intOf]; omega
      | false =>
        have HF := Lib.hid (show l.all partOk = false by
          rw [Bool.eq_false_iff]
          intro h
          have := List.all_eq_true.1 h p HMem.out
          rw [HR.out] at this
          cases this)
        go_wp2_with fail
        refine (HP.out _).mono ?_
        rintro e w' ⟨rfl, rfl⟩
        go_wp2
        go_ret
        exact ⟨by rw [← HRes.out, HF.out]; rfl, HB.out⟩
    · obtain rfl : k = l.length := by omega
      have HT := Lib.hid (show l.all partOk = true by
        rw [List.all_eq_true]
        intro p hp
        exact HA.out p (by rwa [List.take_length]))
      go_wp2
      go_ret
      exact ⟨by rw [← HRes.out, HT.out]; rfl, HB.out⟩

set_option maxRecDepth 100000 in
theorem rright_no (s : List UInt8) (hs : s.length ≤ 1000000) (h : s.length = 0 ∨ 32 < s.length ∨ ltr (s.getD 0 0) = false) (w : World) :
    Calls Try.prog 32 #[.string ⟨s.toArray⟩] w fun e w' => e = .returned (.bool false) ∧ w = w' := by
  have hsz : (⟨s.toArray⟩ : ByteArray).size = s.length := by simp [ByteArray.size]
  by_cases h0 : s.length = 0
  · have e3 : ((s.length : Int) == 0) = true := by rw [h0]; rfl
    clear h h0
    go_enter Try.func32, Try.ntmps32
    go_wp2
    go_ret
    exact ⟨rfl, rfl⟩
  · have e3 : ((s.length : Int) == 0) = false := beq_eq_false_iff_ne.2 (by omega)
    by_cases h32 : 32 < s.length
    · have e4 : (32 : Int) < (s.length : Int) := by omega
      clear h h0 h32
      go_enter Try.func32, Try.ntmps32
      go_wp2
      go_ret
      exact ⟨rfl, rfl⟩
    · have e4 : ¬ (32 : Int) < (s.length : Int) := by omega
      have hl : ltr (s.getD 0 0) = false := by rcases h with h | h | h; exact absurd h h0; exact absurd h h32; exact h
      have hidx := fun W => sindex s 0 (by omega) W
      have e0 : ((0 : Nat) : Int) = 0 := rfl
      rw [e0] at hidx
      unfold ltr at hl
      simp only [decide_eq_false_iff_not] at hl
      by_cases hb : (s.getD 0 0).toNat < 97
      · have e1 : ((s.getD 0 0).toNat : Int) < 97 := by omega
        clear hl h h0 h32 hb
        generalize (s.getD 0 0).toNat = b at *
        go_enter Try.func32, Try.ntmps32
        go_wp2
        go_ret
        exact ⟨rfl, rfl⟩
      · have e1 : ¬ ((s.getD 0 0).toNat : Int) < 97 := by omega
        have e2 : (122 : Int) < ((s.getD 0 0).toNat : Int) := by omega
        clear hl h h0 h32 hb
        generalize (s.getD 0 0).toNat = b at *
        go_enter Try.func32, Try.ntmps32
        go_wp2
        go_ret
        exact ⟨rfl, rfl⟩
theorem rright_calls (s : List UInt8) (hs : s.length ≤ 1000000) (w : World) :
    Calls Try.prog 32 #[.string ⟨s.toArray⟩] w fun e w' => e = .returned (.bool (rightN s)) ∧ Below w.heap.size w w' := by
  by_cases h0 : 0 < s.length
  · by_cases h32 : s.length ≤ 32
    · cases hl : ltr (s.getD 0 0) with
      | true => exact rright_tail s h32 h0 hl w
      | false =>
        have hr : rightN s = false := by unfold rightN; rw [hl]; simp
        rw [hr]
        exact (rright_no s hs (.inr (.inr hl)) w).mono fun e w' ⟨he, hw⟩ => ⟨he, by rw [← hw]; exact Below.refl _ _⟩
    · have hr : rightN s = false := by unfold rightN; rw [decide_eq_false h32]; simp
      rw [hr]
      exact (rright_no s hs (.inr (.inl (by omega))) w).mono fun e w' ⟨he, hw⟩ => ⟨he, by rw [← hw]; exact Below.refl _ _⟩
  · have hr : rightN s = false := by unfold rightN; rw [decide_eq_false h0]; simp
    rw [hr]
    exact (rright_no s hs (.inl (by omega)) w).mono fun e w' ⟨he, hw⟩ => ⟨he, by rw [← hw]; exact Below.refl _ _⟩

set_option maxRecDepth 100000 in
theorem rparts_calls (s : List UInt8) (hs : s.length ≤ 1000000) (w : World) :
    Calls Try.prog 29 #[.string ⟨s.toArray⟩] w fun e w' => ∃ v, e = .returned (.tuple #[v, .int .i64 (partsE s)]) ∧ OwnS w' w.heap.size v (partsV s) ∧ Below w.heap.size w w' := by
  have HR := Lib.hid (rright_calls s hs w)
  have HC := Lib.hid (fun W => rcut_calls s hs W)
  unfold partsE partsV
  cases hr : rightN s with
  | true =>
    rw [hr] at HR
    rw [if_pos rfl, if_pos rfl]
    go_enter Try.func29, Try.ntmps29
    go_wp2_with fail
    refine HR.out.mono ?_
    rintro e w1 ⟨rfl, hb1⟩
    have HB1 := Lib.hid hb1
    clear hb1
    go_wp2_with fail
    refine (HC.out _).mono ?_
    rintro e w2 ⟨v, rfl, hown, hb2⟩
    have HO := Lib.hid (own_lower hown HB1.out.size)
    have HB2 := Lib.hid (HB1.out.trans (hb2.mono HB1.out.size))
    clear hown hb2
    obtain ⟨a, c, rfl⟩ := ownsS_shape HO.out
    go_wp2
    go_ret2
    exact ⟨_, rfl, HO.out, HB2.out⟩
  | false =>
    rw [hr] at HR
    rw [if_neg (by decide), if_neg (by decide)]
    go_enter Try.func29, Try.ntmps29
    go_wp2_with fail
    refine HR.out.mono ?_
    rintro e w1 ⟨rfl, hb1⟩
    have HB1 := Lib.hid hb1
    clear hb1
    go_wp2
    go_ret2
    exact ⟨_, rfl, World.ownsRow_nil _ _ _ _, HB1.out⟩
end Go.Proofs.Ytdaalpiiagmdfaa
