/-
  CONTRACT of fermatalaw02.reads: it returns true, and writes nothing that was there.
-/
import Derived.Test.YtfgiejeeolnhbaaRefReadF
import Derived.Test.YtfgiejeeolnhbaaReadLong
import Derived.Test.YtfgiejeeolnhbaaOver02
import Derived.Test.YtfgiejeeolnhbaaLent2
namespace Go.Proofs.Ytfgiejeeolnhbaa
open Go.RowKit Pl

/-- What Read says: the fields, where the first wrong one begins, the error. -/
def rdOut (bs : List Nat) : List Fld × Nat × Nat := if 16768 < bs.length then ([], 0, 3) else match readE bs with | some a => ([], a, 21) | none => (readV bs, 0, 0)
theorem rdOut_long {bs : List Nat} (h : 16768 < bs.length) : rdOut bs = ([], 0, 3) := by unfold rdOut; rw [if_pos h]
theorem rdOut_bad {bs : List Nat} {a : Nat} (h : bs.length ≤ 16768) (h2 : readE bs = some a) : rdOut bs = ([], a, 21) := by unfold rdOut; rw [if_neg (by omega), h2]
theorem rdOut_ok {bs : List Nat} (h : bs.length ≤ 16768) (h2 : readE bs = none) : rdOut bs = (readV bs, 0, 0) := by unfold rdOut; rw [if_neg (by omega), h2]
theorem readOut_calls (v : Value) (bs : List Nat) (w : World) (h : BRow w v bs) (hl : bs.length ≤ 20000) :
    Calls Try.prog 25 #[v] w fun e w' => ∃ v', e = .returned (.tuple #[v', .int .i64 ((rdOut bs).2.1 : Nat), .int .i64 ((rdOut bs).2.2 : Nat)]) ∧ FOwn w' w.heap.size v' (rdOut bs).1 ∧ Below w.heap.size w w' := by
  refine (fieldReadAny_calls v bs w h hl).mono fun e w' hh => ?_
  obtain ⟨hb, ⟨h1, rfl⟩ | ⟨h1, ⟨a, h2, rfl⟩ | ⟨h2, v', rfl, h3⟩⟩⟩ := hh
  · rw [rdOut_long h1]; exact ⟨_, rfl, fown_nil _ _, hb⟩
  · rw [rdOut_bad h1 h2]; exact ⟨_, rfl, fown_nil _ _, hb⟩
  · rw [rdOut_ok h1 h2]; exact ⟨_, rfl, h3, hb⟩
theorem refOut_calls (v : Value) (bs : List Nat) (w : World) (h : BRow w v bs) (hl : bs.length ≤ 20000) :
    Calls Try.prog 64 #[v] w fun e w' => ∃ v', e = .returned (.tuple #[v', .int .i64 ((rdOut bs).2.1 : Nat), .int .i64 ((rdOut bs).2.2 : Nat)]) ∧ (FOwnR w' w.heap.size v' (rdOut bs).1 ∧ FldsOk (rdOut bs).1 ∧ (rdOut bs).1.length ≤ 64 ∧ sumB (rdOut bs).1 ≤ 16384) ∧ Below w.heap.size w w' := by
  refine (refReadF_calls v bs w h hl).mono fun e w' hh => ?_
  have hn : FldsOk [] := fun _ h => by cases h
  obtain ⟨hb, ⟨h1, rfl⟩ | ⟨h1, ⟨a, h2, rfl⟩ | ⟨h2, v', rfl, h3⟩⟩⟩ := hh
  · rw [rdOut_long h1]; exact ⟨_, rfl, ⟨fownR_nil _ _, hn, Nat.zero_le _, Nat.zero_le _⟩, hb⟩
  · rw [rdOut_bad h1 h2]; exact ⟨_, rfl, ⟨fownR_nil _ _, hn, Nat.zero_le _, Nat.zero_le _⟩, hb⟩
  · rw [rdOut_ok h1 h2]; exact ⟨_, rfl, h3, hb⟩

theorem FOwn.below {w w' : World} {base : Nat} {v : Value} {L : List Fld} (h : FOwn w base v L) (hb : Below w.heap.size w w') : FOwn w' base v L := by
  obtain ⟨V, h1, h2, h3⟩ := h
  exact ⟨V, h1, ownsRow_below h2 hb, fun i hi => ownsRow_below (h3 i hi) hb⟩
theorem FOwn.shape {w : World} {base : Nat} {v : Value} {L : List Fld} (h : FOwn w base v L) : ∃ a c, v = .slice a L.length c := by
  obtain ⟨V, h1, h2, h3⟩ := h
  exact owns_shape h2
theorem fb_le_sumB (L : List Fld) : ∀ i, i < L.length → (fb L i).length ≤ sumB L := by
  induction L with
  | nil => intro i hi; simp at hi
  | cons p L ih =>
    intro i hi
    cases i with
    | zero => simp [fb, sumB]
    | succ i =>
      have := ih i (by simpa using hi)
      simp only [sumB]
      have e : fb (p :: L) (i + 1) = fb L i := by simp [fb]
      rw [e]
      omega

set_option maxRecDepth 100000 in
set_option maxHeartbeats 1000000 in
theorem reads2_calls (a : Option Addr) (ca : Nat) (bs : List Nat) (w : World) (h : BRow w (.slice a bs.length ca) bs) :
    Calls Try.prog 20 #[.slice a bs.length ca] w fun e w' => e = .returned (.bool true) ∧ Below w.heap.size w w' := by
  by_cases hl : 20000 < bs.length
  · have d1 : decide ((20000 : Int) < (bs.length : Int)) = true := by simp; omega
    clear h
    go_enter Try.func20, Try.ntmps20
    go_wp2
    go_ret
    exact ⟨rfl, Below.refl _ _⟩
  have d1 : decide ((20000 : Int) < (bs.length : Int)) = false := by simp; omega
  have HR := Lib.hid h
  have HL := Lib.hid (show bs.length ≤ 20000 by omega)
  have HLent := Lib.hid (lentBytes2_calls _ bs w h HL.out)
  have HO1 := Lib.hid (fun v W hr => readOut_calls v bs W hr HL.out)
  have HO2 := Lib.hid (fun v W hr => refOut_calls v bs W hr HL.out)
  obtain ⟨L, at0, er, ho⟩ : ∃ L at0 er, rdOut bs = (L, at0, er) := ⟨_, _, _, rfl⟩
  rw [ho] at HO1 HO2
  dsimp only at HO1 HO2
  clear h hl ho
  have hb1 : ((at0 : Int) != (at0 : Int)) = false := by simp
  have hb2 : ((er : Int) != (er : Int)) = false := by simp
  have hdl : decide (L = L) = true := by simp
  go_enter Try.func20, Try.ntmps20
  go_wp2_with (first
    | (go_at_call 34; refine HLent.out.mono ?_; rintro e w1 ⟨g, rfl, hk1, hb1'⟩; have HK1 := Lib.hid hk1; have HB1 := Lib.hid hb1'; have HF1 := Lib.hid (hk1.front (bs.length + 12) (by omega) (by have := HL.out; unfold maxLen; omega)); clear hk1 hb1')
    | (go_at_call 25; refine (HO1.out _ w1 HF1.out).mono ?_; rintro e w2 ⟨v1, rfl, hf2, hb2'⟩; obtain ⟨a1, c1, rfl⟩ := hf2.shape; have HF2 := Lib.hid hf2; have HB2 := Lib.hid hb2'; clear hf2 hb2')
    | (go_at_call 64; refine (HO2.out _ w2 (HR.out.below (HB1.out.trans (HB2.out.mono HB1.out.size)))).mono ?_; rintro e w3 ⟨v2, rfl, ⟨hf3, hok, hln, hsm⟩, hb3'⟩; have HF3 := Lib.hid hf3; have HOk := Lib.hid hok; have HSm := Lib.hid hsm; have HLn := Lib.hid hln; have HB3 := Lib.hid hb3'; have HF2b := Lib.hid (HF2.out.below hb3'); clear hf3 hok hln hsm hb3')
    | (go_at_call 61; refine (sameF_calls _ _ L L w3 (HF2b.out.row (fun p hp => (HOk.out p hp).1) (fldsOk_fb HOk.out)) (HF3.out.row HOk.out)).mono ?_; rintro e w4 ⟨rfl, hb4'⟩; have HB4 := Lib.hid hb4'; have HF4 := Lib.hid (HF2b.out.below hb4'); clear hb4')
    | (go_at_call 62; refine (over_calls _ w1.heap.size L w4 HF4.out (by have := HLn.out; omega) (fun i hi => by have := fb_le_sumB L i hi; have := HSm.out; omega) (by have h2 := HB2.out.size; have h3 := HB3.out.size; have h4 := HB4.out.size; omega)).mono ?_; rintro e w5 ⟨⟨x, rfl⟩, hb5'⟩; have HB5 := Lib.hid ((HB2.out.trans (HB3.out.mono HB2.out.size)).trans ((HB4.out.mono (by have h2 := HB2.out.size; have h3 := HB3.out.size; omega)).trans hb5')); clear hb5')
    | (go_at_call 46; refine (keptBytes2_calls _ bs g w5 (HR.out.below (HB1.out.trans (HB5.out.mono HB1.out.size))) HL.out (HK1.out.below HB5.out)).mono ?_; rintro e w6 ⟨rfl, hb6'⟩; have HB6 := Lib.hid hb6'; clear hb6'))
  go_ret
  obtain ⟨nn, rfl⟩ := HB6.out
  exact ⟨rfl, (HB1.out.trans (HB5.out.mono HB1.out.size)).trans ((below_drewN' ⟨nn, rfl⟩).mono (HB1.out.trans (HB5.out.mono HB1.out.size)).size)⟩
end Go.Proofs.Ytfgiejeeolnhbaa
