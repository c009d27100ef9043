/-
  THE WALK of fermatalaw05.MixTexts: it returns true, and writes nothing that was there.
-/
import Derived.Test.YtnghalhmbjiefaaFrame
import Derived.Test.YtnghalhmbjiefaaMixAwake
namespace Go.Proofs.Ytnghalhmbjiefaa
open Go.RowKit

theorem toList_mk (l : List UInt8) : (⟨l.toArray⟩ : ByteArray).toList = l := by rw [Lib.toList_data]
theorem mk_toList (s : ByteArray) : s = ⟨s.data.toList.toArray⟩ := by obtain ⟨⟨l⟩⟩ := s; rfl

/-- The law's tail, behind the cut of the string. -/
theorem readZ (s : List UInt8) : (readE s = 50 ∧ readV s = 0) ∨ (readE s = 0 ∧ readV s < 18446744073709551616 ∧ textN (readV s) = s) := by
  cases h : readN s with
  | none => obtain ⟨h1, h2⟩ := readN_none h; exact .inl ⟨h2, h1⟩
  | some x => obtain ⟨h1, h2⟩ := readN_yes h; obtain ⟨h3, h4⟩ := readN_some h; exact .inr ⟨h2, by rw [h1]; exact h3, by rw [h1]; exact h4⟩

set_option maxRecDepth 100000 in
set_option maxHeartbeats 2000000 in
theorem mixTexts_walk (x y : Nat) (s : ByteArray) (w : World) (hx : x < 18446744073709551616) (hy : y < 18446744073709551616) (hs : s.size ≤ maxLen) :
    Calls Try.prog 10 #[.int .u64 (x : Int), .int .u64 (y : Int), .string s] w fun e w' => e = .returned (.bool true) ∧ Below w.heap.size w w' := by
  have TX := Lib.hid (fun W => text_calls x hx W)
  have TY := Lib.hid (fun W => text_calls y hy W)
  have RA := Lib.hid (fun W => by have h := read_calls (textN x) W; rw [(readN_yes (readN_text x hx)).1, (readN_yes (readN_text x hx)).2] at h; exact h)
  have AW := Lib.hid (fun W => awake5_calls W)
  obtain ⟨lt, hlt⟩ : ∃ lt : Bool, decide ((x : Int) < (y : Int)) = lt := ⟨_, rfl⟩
  have hlt2 : Op.bytesLess (⟨(textN x).toArray⟩ : ByteArray).toList (⟨(textN y).toArray⟩ : ByteArray).toList = lt := by
    rw [toList_mk, toList_mk, textN_less x y hx hy, ← hlt]
    simp
  obtain ⟨eq, heq⟩ : ∃ eq : Bool, ((x : Int) == (y : Int)) = eq := ⟨_, rfl⟩
  have heq2 : ((⟨(textN x).toArray⟩ : ByteArray).toList == (⟨(textN y).toArray⟩ : ByteArray).toList) = eq := by
    rw [toList_mk, toList_mk, textN_eq x y hx hy, ← heq]
    by_cases h : x = y
    · subst h; simp
    · have : ¬ (x : Int) = (y : Int) := by omega
      rw [beq_eq_false_iff_ne.2 this, decide_eq_false h]
  have hsz : (⟨(textN x).toArray⟩ : ByteArray).size = 13 := by simp [ByteArray.size, textN_length]
  have hxx : ((x : Int) != (x : Int)) = false := by simp
  obtain ⟨k, hk, hk1⟩ : ∃ k : Nat, min (s.size : Int) 100 = (k : Int) ∧ k ≤ s.size := ⟨min s.size 100, by omega, by omega⟩
  obtain ⟨r, hr⟩ : ∃ r : List UInt8, s.extract 0 k = ⟨r.toArray⟩ := ⟨_, mk_toList _⟩
  have RR := Lib.hid (fun W => read_calls r W)
  have TR := Lib.hid (readZ r)
  have e50 : ((50 : Nat) : Int) = 50 := rfl
  have e0 : ((0 : Nat) : Int) = 0 := rfl
  rw [e0] at RA
  generalize (⟨(textN x).toArray⟩ : ByteArray) = A at *
  generalize (⟨(textN y).toArray⟩ : ByteArray) = B at *
  have hs64 : (s.size : Int) ≤ 9223372036854775807 := by unfold maxLen at hs; omega
  clear hs
  rcases TR.out with ⟨t1, t2⟩ | ⟨t1, t2, t3⟩
  · rw [t1, t2, e50, e0] at RR
    clear t1 t2 TR
    have hcase : (lt = true ∧ x < y) ∨ (lt = false ∧ y ≤ x) := by
      by_cases h : x < y
      · exact .inl ⟨by rw [← hlt]; simp [h], h⟩
      · exact .inr ⟨by rw [← hlt]; simp; omega, by omega⟩
    clear hlt
    rcases hcase with ⟨rfl, hxy⟩ | ⟨rfl, hxy⟩ <;> cases eq
    all_goals (
      go_enter Try.func10, Try.ntmps10
      go_wp2_with fail
      refine (TX.out _).mono ?_
      rintro e w1 ⟨rfl, hb1⟩
      have HB1 := Lib.hid hb1
      clear hb1
      go_wp2_with fail
      refine (TY.out _).mono ?_
      rintro e w2 ⟨rfl, hb2⟩
      have HB2 := Lib.hid (HB1.out.trans (hb2.mono HB1.out.size))
      clear hb2
      go_wp2_with fail
      refine (RA.out _).mono ?_
      rintro e w' ⟨rfl, rfl⟩
      go_wp2_with fail
      refine (RR.out _).mono ?_
      rintro e w' ⟨rfl, rfl⟩
      go_wp2_with fail
      refine (AW.out _).mono ?_
      rintro e w3 ⟨rfl, hb3⟩
      have HB3 := Lib.hid (HB2.out.trans (hb3.mono HB2.out.size))
      clear hb3
      go_wp2
      go_ret
      exact ⟨rfl, HB3.out⟩)
  · have TZ := Lib.hid (fun W => by have h := text_calls (readV r) t2 W; rw [t3] at h; exact h)
    rw [t1, e0] at RR
    generalize readV r = z at *
    have hrr : ((⟨r.toArray⟩ : ByteArray).toList == (⟨r.toArray⟩ : ByteArray).toList) = true := by simp
    generalize (⟨r.toArray⟩ : ByteArray) = R at *
    clear t1 t2 t3 TR
    have hcase : (lt = true ∧ x < y) ∨ (lt = false ∧ y ≤ x) := by
      by_cases h : x < y
      · exact .inl ⟨by rw [← hlt]; simp [h], h⟩
      · exact .inr ⟨by rw [← hlt]; simp; omega, by omega⟩
    clear hlt
    rcases hcase with ⟨rfl, hxy⟩ | ⟨rfl, hxy⟩ <;> cases eq
    all_goals (
      go_enter Try.func10, Try.ntmps10
      go_wp2_with fail
      refine (TX.out _).mono ?_
      rintro e w1 ⟨rfl, hb1⟩
      have HB1 := Lib.hid hb1
      clear hb1
      go_wp2_with fail
      refine (TY.out _).mono ?_
      rintro e w2 ⟨rfl, hb2⟩
      have HB2 := Lib.hid (HB1.out.trans (hb2.mono HB1.out.size))
      clear hb2
      go_wp2_with fail
      refine (RA.out _).mono ?_
      rintro e w' ⟨rfl, rfl⟩
      go_wp2_with fail
      refine (RR.out _).mono ?_
      rintro e w' ⟨rfl, rfl⟩
      go_wp2_with fail
      refine (TZ.out _).mono ?_
      rintro e w4 ⟨rfl, hb4⟩
      have HB4 := Lib.hid (HB2.out.trans (hb4.mono HB2.out.size))
      clear hb4
      go_wp2_with fail
      refine (AW.out _).mono ?_
      rintro e w3 ⟨rfl, hb3⟩
      have HB3 := Lib.hid (HB4.out.trans (hb3.mono HB4.out.size))
      clear hb3
      go_wp2
      go_ret
      exact ⟨rfl, HB3.out⟩)
end Go.Proofs.Ytnghalhmbjiefaa
