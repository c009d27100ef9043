/-
  CONTRACTS of name.Compare, name.under and name.Under at any strings.
-/
import Derived.Test.YtdaalpiiagmdfaaNameOrd
namespace Go.Proofs.Ytdaalpiiagmdfaa
open Go.RowKit Go.Shelf

attribute [local go_sem] Oper.semAt_some

def compareN (a b : List UInt8) : Int := if rightN a && rightN b then orderN a b else 0
def compareE (a b : List UInt8) : Int := if rightN a && rightN b then 0 else 40

set_option maxRecDepth 100000 in
theorem compare_calls (a b : List UInt8) (w : World) (ha : a.length ≤ 1000000) (hb : b.length ≤ 1000000) :
    Calls Try.prog 14 #[str a, str b] w fun e W' => e = .returned (.tuple #[.int .i64 (compareN a b), .int .i64 (compareE a b)]) ∧ Below w.heap.size w W' := by
  have HA := Lib.hid (fun W : World => right_calls a W (by omega))
  have HB := Lib.hid (fun W : World => right_calls b W (by omega))
  have HO := Lib.hid (fun W : World => order_calls a b W ha hb)
  unfold compareN compareE
  obtain ⟨ra, hra⟩ : ∃ r, rightN a = r := ⟨_, rfl⟩
  obtain ⟨rb, hrb⟩ : ∃ r, rightN b = r := ⟨_, rfl⟩
  rw [hra] at HA
  rw [hrb] at HB
  rw [hra, hrb]
  clear hra hrb
  simp only [str] at *
  generalize orderN a b = o at *
  go_enter Try.func14, Try.ntmps14
  cases ra with
  | false =>
    go_wp2_with (go_at_call 27; refine (HA.out _).mono ?_; rintro e w1 ⟨rfl, hb1⟩)
    exact bodyPost_ret (v := .tuple #[.int .i64 0, .int .i64 40]) (by simp [results, Try.f14, go_sem]) rfl ⟨rfl, hb1⟩
  | true =>
    go_wp2_with fail
    refine (HA.out _).mono ?_
    rintro e w1 ⟨rfl, hb1⟩
    have B1 := Lib.hid hb1
    clear hb1
    go_wp2_with fail
    refine (HB.out _).mono ?_
    rintro e w2 ⟨rfl, hb2⟩
    have B2 := Lib.hid (B1.out.trans (hb2.mono B1.out.size))
    clear hb2
    cases rb with
    | false =>
      go_wp2
      exact bodyPost_ret (v := .tuple #[.int .i64 0, .int .i64 40]) (by simp [results, Try.f14, go_sem]) rfl ⟨rfl, B2.out⟩
    | true =>
      go_wp2_with fail
      refine (HO.out _).mono ?_
      rintro e w3 ⟨rfl, hb3⟩
      have B3 := Lib.hid (B2.out.trans (hb3.mono B2.out.size))
      clear hb3
      go_wp2
      exact bodyPost_ret (v := .tuple #[.int .i64 o, .int .i64 0]) (by simp [results, Try.f14, go_sem]) rfl ⟨rfl, B3.out⟩

/-- Whether a string begins with another one and ends there or goes on with a point. -/
def undN (s a : List UInt8) : Bool := Lib.hasPrefix s a && (decide (Lib.trimPrefix s a = []) || Lib.hasPrefix (Lib.trimPrefix s a) [46])
def underN (s a : List UInt8) : Bool := rightN s && (rightN a && undN s a)

theorem cutPre_calls (p q : List UInt8) (w : World) : Calls Try.prog 74 #[str p, str q] w fun e w' => e = .returned (.tuple #[.string ⟨(Lib.trimPrefix p q).toArray⟩, .bool (Lib.hasPrefix p q)]) ∧ w = w' :=
  (Try.strings_CutPrefix ⟨p.toArray⟩ ⟨q.toArray⟩ w).mono fun _ _ ⟨h1, h2⟩ => ⟨h1, h2.symm⟩
theorem hasPre_calls (p q : List UInt8) (w : World) : Calls Try.prog 75 #[str p, str q] w fun e w' => e = .returned (.bool (Lib.hasPrefix p q)) ∧ w = w' :=
  (Try.strings_HasPrefix ⟨p.toArray⟩ ⟨q.toArray⟩ w).mono fun _ _ ⟨h1, h2⟩ => ⟨h1, h2.symm⟩

set_option maxRecDepth 100000 in
theorem under_calls (s a : List UInt8) (w : World) :
    Calls Try.prog 48 #[str s, str a] w fun e W' => e = .returned (.bool (undN s a)) ∧ w = W' := by
  have HA := Lib.hid (cutPre_calls s a w)
  have HB := Lib.hid (hasPre_calls (Lib.trimPrefix s a) [46] w)
  unfold undN
  generalize Lib.trimPrefix s a = t at *
  generalize Lib.hasPrefix s a = p1 at *
  generalize Lib.hasPrefix t [46] = p2 at *
  simp only [str] at *
  go_enter Try.func48, Try.ntmps48
  go_wp2_with fail
  refine HA.out.mono ?_
  rintro e w1 ⟨rfl, rfl⟩
  cases p1 with
  | false =>
    go_wp2
    go_ret
    exact ⟨rfl, rfl⟩
  | true =>
    cases t with
    | nil =>
      go_wp2
      go_ret
      exact ⟨rfl, rfl⟩
    | cons d r =>
      have hdr : (d :: r).toArray ≠ #[] := by simp
      go_wp2_with fail
      refine HB.out.mono ?_
      rintro e w1 ⟨rfl, rfl⟩
      go_wp2
      go_ret
      exact ⟨by simp, rfl⟩

set_option maxRecDepth 100000 in
theorem Under_calls (s a : List UInt8) (w : World) (hs : s.length ≤ 1000000) (ha : a.length ≤ 1000000) :
    Calls Try.prog 17 #[str s, str a] w fun e W' => e = .returned (.bool (underN s a)) ∧ Below w.heap.size w W' := by
  have HA := Lib.hid (fun W : World => right_calls s W (by omega))
  have HB := Lib.hid (fun W : World => right_calls a W (by omega))
  have HU := Lib.hid (fun W : World => under_calls s a W)
  unfold underN
  generalize rightN s = p1 at *
  generalize rightN a = p2 at *
  generalize undN s a = p3 at *
  simp only [str] at *
  go_enter Try.func17, Try.ntmps17
  go_wp2_with fail
  refine (HA.out _).mono ?_
  rintro e w1 ⟨rfl, hb1⟩
  have B1 := Lib.hid hb1
  clear hb1
  cases p1 with
  | false =>
    go_wp2
    go_ret
    exact ⟨rfl, B1.out⟩
  | true =>
    go_wp2_with fail
    refine (HB.out _).mono ?_
    rintro e w2 ⟨rfl, hb2⟩
    have B2 := Lib.hid (B1.out.trans (hb2.mono B1.out.size))
    clear hb2
    cases p2 with
    | false =>
      go_wp2
      go_ret
      exact ⟨rfl, B2.out⟩
    | true =>
      go_wp2_with fail
      refine (HU.out _).mono ?_
      rintro e w3 ⟨rfl, rfl⟩
      go_wp2
      go_ret
      exact ⟨by simp, B2.out⟩
end Go.Proofs.Ytdaalpiiagmdfaa
