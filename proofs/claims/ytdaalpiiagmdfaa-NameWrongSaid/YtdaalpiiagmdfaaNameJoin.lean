/-
  CONTRACT of name.Join.
-/
import Derived.Test.YtdaalpiiagmdfaaNameUnd
namespace Go.Proofs.Ytdaalpiiagmdfaa
open Go.RowKit Go.Shelf

attribute [local go_sem] Oper.semAt_some

def glued (l : List (List UInt8)) : List UInt8 := Lib.join l [46]
def joinOk (l : List (List UInt8)) : Bool := rightN (glued l) && decide (((glued l).count 46 : Int) = (l.length : Int) - 1)
def joinV (l : List (List UInt8)) : List UInt8 := if joinOk l then glued l else []
def joinE (l : List (List UInt8)) : Int := if joinOk l then 0 else 40

theorem glue_calls (v : Value) (l : List (List UInt8)) (w : World) (hrow : TRow w v l) (hlen : l.length ≤ 1000000) (hg : (glued l).length ≤ 1000000) :
    Calls Try.prog 46 #[v, str [46]] w fun e W' => e = .returned (str (glued l)) ∧ Below w.heap.size w W' := by
  rcases hrow with ⟨rfl, a, c, rfl⟩ | ⟨b, o, c, rfl, hb, hc, hcell⟩
  · exact (Try.strings_Join_none a c ⟨#[46]⟩ w).mono fun e w' h => ⟨h.1, by rw [h.2]; exact Below.refl _ _⟩
  · have e : (l.map fun x => (⟨x.toArray⟩ : ByteArray)).map (·.data.toList) = l := by rw [List.map_map]; simp [Function.comp_def]
    have := Try.strings_Join b o c (l.map fun x => ⟨x.toArray⟩) ⟨#[46]⟩ w (fun j x hx => by
        rw [List.getElem?_map] at hx
        cases hl : l[j]? with
        | none => rw [hl] at hx; cases hx
        | some y => rw [hl] at hx; cases hx; exact hcell j y hl) hb (by rw [List.length_map]; omega) (by rw [List.length_map]; exact hc) (by rw [e]; exact Nat.le_trans hg (by omega))
    rw [e, List.length_map] at this
    exact this

set_option maxRecDepth 100000 in
set_option maxHeartbeats 2000000 in
theorem join_calls (v : Value) (l : List (List UInt8)) (w : World) (hrow : TRow w v l) (hlen : l.length ≤ 1000000) (hg : (glued l).length ≤ 1000000) :
    Calls Try.prog 16 #[v] w fun e W' => e = .returned (.tuple #[str (joinV l), .int .i64 (joinE l)]) ∧ Below w.heap.size w W' := by
  have HG := Lib.hid (glue_calls v l w hrow hlen hg)
  have HR := Lib.hid (fun W : World => right_calls (glued l) W (by omega))
  have HCt := Lib.hid (fun W : World => Try.strings_Count_one ⟨(glued l).toArray⟩ 46 W)
  obtain ⟨a, n, c, rfl, hn⟩ : ∃ a n c, v = .slice a n c ∧ n = l.length := by
    rcases hrow with ⟨rfl, a, c, rfl⟩ | ⟨b, o, c, rfl, _⟩
    · exact ⟨a, 0, c, rfl, rfl⟩
    · exact ⟨_, _, c, rfl, rfl⟩
  subst hn
  have hV := Lib.hid (show joinV l = if (rightN (glued l) && decide (((glued l).count 46 : Int) = (l.length : Int) - 1)) = true then glued l else [] from rfl)
  have hE := Lib.hid (show joinE l = if (rightN (glued l) && decide (((glued l).count 46 : Int) = (l.length : Int) - 1)) = true then 0 else 40 from rfl)
  have hct : Lib.countByte (⟨(glued l).toArray⟩ : ByteArray).data.toList 46 = (glued l).count 46 := rfl
  rw [hct] at HCt
  clear hct hrow hg
  obtain ⟨rb, hrb⟩ : ∃ r, rightN (glued l) = r := ⟨_, rfl⟩
  rw [hrb] at HR hV hE
  clear hrb
  generalize (glued l).count 46 = m at *
  generalize glued l = g at *
  have hw : IntKind.i64.wrap ((l.length : Int) - 1) = (l.length : Int) - 1 := IntWalk.i64_in _ ⟨by omega, by omega⟩
  clear hlen
  simp only [str] at *
  go_enter Try.func16, Try.ntmps16
  go_wp2_with fail
  refine HG.out.mono ?_
  rintro e w1 ⟨rfl, hb1⟩
  have B1 := Lib.hid hb1
  clear hb1
  go_wp2_with fail
  refine (HR.out _).mono ?_
  rintro e w2 ⟨rfl, hb2⟩
  have B2 := Lib.hid (B1.out.trans (hb2.mono B1.out.size))
  clear hb2
  cases rb with
  | false =>
    go_wp2
    exact bodyPost_ret (v := .tuple #[.string ⟨#[]⟩, .int .i64 40]) (by simp [results, Try.f16, go_sem]) rfl ⟨by rw [hV.out, hE.out]; simp, B2.out⟩
  | true =>
    go_wp2_with fail
    refine (HCt.out _).mono ?_
    rintro e w3 ⟨rfl, rfl⟩
    by_cases hm : (m : Int) = (l.length : Int) - 1
    · have hd : ((m : Int) != (l.length : Int) - 1) = false := by simpa using hm
      have hV2 := Lib.hid (hV.out.trans (if_pos (by simp [hm])))
      have hE2 := Lib.hid (hE.out.trans (if_pos (by simp [hm])))
      clear hm
      go_wp2
      exact bodyPost_ret (v := .tuple #[.string ⟨g.toArray⟩, .int .i64 0]) (by simp [results, Try.f16, go_sem]) rfl ⟨by rw [hV2.out, hE2.out], B2.out⟩
    · have hd : ((m : Int) != (l.length : Int) - 1) = true := by simpa using hm
      have hV2 := Lib.hid (hV.out.trans (if_neg (by simp [hm])))
      have hE2 := Lib.hid (hE.out.trans (if_neg (by simp [hm])))
      clear hm
      go_wp2
      exact bodyPost_ret (v := .tuple #[.string ⟨#[]⟩, .int .i64 40]) (by simp [results, Try.f16, go_sem]) rfl ⟨by rw [hV2.out, hE2.out], B2.out⟩
end Go.Proofs.Ytdaalpiiagmdfaa
