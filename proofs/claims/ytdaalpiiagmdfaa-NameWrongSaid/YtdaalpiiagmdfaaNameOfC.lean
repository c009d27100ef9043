/-
  CONTRACT of name.Of.
-/
import Derived.Test.YtdaalpiiagmdfaaNameSortC
import Derived.Test.YtdaalpiiagmdfaaNameSortN
namespace Go.Proofs.Ytdaalpiiagmdfaa
open Go.RowKit Go.Shelf

theorem sortAll_calls (v : Value) (l : List (List UInt8)) (w : World) (base : Nat) (hown : OwnS w base v l) (hr : ∀ p ∈ l, rightN p = true) (hlen : l.length ≤ 1000000) :
    Calls Try.prog 50 #[v, .func (.func 43) #[] #[]] w fun e w' => e = .returned (.tuple #[]) ∧ ∃ ts : List (List UInt8), ts.length = l.length ∧ Lib.compact ts = setL nmC l ∧ OwnS w' base v ts ∧ ∀ B w0, Below B w0 w → B ≤ base → B ≤ w.heap.size → Below B w0 w' := by
  by_cases hv : v = .slice none 0 0
  · subst hv
    have hn : l = [] := by
      obtain ⟨hl, ⟨_, h0⟩ | ⟨g, cap, cur, e0, _⟩⟩ := hown
      · exact List.eq_nil_of_length_eq_zero h0
      · cases e0
    subst hn
    exact (sortNil_calls _ w).mono fun e w' ⟨he, hw⟩ => ⟨he, [], rfl, rfl, by rw [hw]; exact World.ownsRow_nil _ _ _ _, fun B w0 h _ _ => by rw [hw]; exact h⟩
  · refine (sort_calls v l w base hown hr hlen hv).mono ?_
    rintro e w' ⟨he, ts, hp, hs, ho, hg⟩
    exact ⟨he, ts, hp.length_eq, compact_is nmC_good hs (fun x => hp.mem_iff), ho, fun B w0 h hb hbw => h.grown hg hbw (fun k hk => Nat.le_trans hb (hown.lt k hk).1)⟩

/-- The number of the error, and the set. -/
def ofE (l : List (List UInt8)) : Int := if l.all rightN then (if (setL nmC l).length ≤ 256 then 0 else 5) else 40
def ofV (l : List (List UInt8)) : List (List UInt8) := if ofE l = 0 then setL nmC l else []

set_option maxRecDepth 100000 in
set_option maxHeartbeats 2000000 in
theorem of_calls (v : Value) (l : List (List UInt8)) (w : World) (h : TRow w v l) (hlen : l.length ≤ 1000000) (hsz : ∀ p ∈ l, p.length ≤ 1000000) :
    Calls Try.prog 19 #[v] w fun e w' => ∃ v', e = .returned (.tuple #[v', .int .i64 (ofE l)]) ∧ OwnS w' w.heap.size v' (ofV l) ∧ Below w.heap.size w w' := by
  obtain ⟨a, c, rfl, hl⟩ := trow_shape h
  have HT := Lib.hid h
  have HL := Lib.hid (fun W (hb : Below w.heap.size w W) => trow_shape (h.below hb))
  have HSz := Lib.hid hsz
  have hE := Lib.hid (show ofE l = if l.all rightN then (if (setL nmC l).length ≤ 256 then 0 else 5) else 40 from rfl)
  have hV := Lib.hid (show ofV l = if ofE l = 0 then setL nmC l else [] from rfl)
  have HBad := Lib.hid (fun (p : List UInt8) (hp : p ∈ l) (h : rightN p = false) => show l.all rightN = false by
    rw [Bool.eq_false_iff]
    intro hh
    have := List.all_eq_true.1 hh p hp
    rw [h] at this
    cases this)
  clear hl h hsz
  go_enter Try.func19, Try.ntmps19
  go_wp2
  go_loopw [9] (fun iv wr => ∃ k : Nat, k ≤ l.length ∧ iv = .int .i64 (k : Int) ∧ (∀ p ∈ l.take k, rightN p = true) ∧ Below w.heap.size w wr) (fun iv _ => l.length - (intOf iv).toNat)
  case atStart => exact ⟨0, by omega, rfl, by simp, Below.refl _ _⟩
  case round =>
    obtain ⟨k, hk, rfl, hall, hbel⟩ := hrel
    have HA := Lib.hid hall
    have HB := Lib.hid hbel
    have hsize := hbel.size
    clear hall hbel
    by_cases hlt : k < l.length
    · obtain ⟨a2, c2, he2, hl2⟩ := HL.out _ HB.out
      obtain ⟨hc, b, o, rfl, _, hcell⟩ := hl2 (by omega)
      simp only [Value.slice.injEq] at he2
      obtain ⟨rfl, _, rfl⟩ := he2
      have c1 := hcell k l[k] (List.getElem?_eq_getElem hlt)
      have HTk := Lib.hid (List.take_succ_eq_append_getElem hlt)
      have HMem := Lib.hid (List.getElem_mem hlt)
      have HR := Lib.hid (fun W => right_calls l[k] W (by have := HSz.out _ HMem.out; omega))
      have hlt' : (k : Int) < (l.length : Int) := by omega
      clear hcell
      generalize l[k] = p at *
      obtain ⟨r, hr⟩ : ∃ r, rightN p = r := ⟨_, rfl⟩
      rw [hr] at HR
      have HRp := Lib.hid hr
      clear hr
      simp only [str] at *
      cases r with
      | true =>
        have HN := Lib.hid (show ∀ q ∈ l.take (k + 1), rightN q = true from fun q hq => by
          rw [HTk.out] at hq
          rcases List.mem_append.1 hq with h | h
          · exact HA.out q h
          · rw [List.mem_singleton.1 h]; exact HRp.out)
        go_wp2_with fail
        refine (HR.out _).mono ?_
        rintro e w1 ⟨rfl, hb1⟩
        have HB1 := Lib.hid (HB.out.trans (hb1.mono HB.out.size))
        clear hb1
        go_wp2
        go_roundw
        case rel => exact ⟨k + 1, by omega, by go_num, HN.out, HB1.out⟩
        case measure => simp [intOf]; omega
      | false =>
        have HF := Lib.hid (HBad.out p HMem.out HRp.out)
        go_wp2_with fail
        refine (HR.out _).mono ?_
        rintro e w1 ⟨rfl, hb1⟩
        have HB1 := Lib.hid (HB.out.trans (hb1.mono HB.out.size))
        clear hb1
        go_wp2
        go_ret2
        exact ⟨_, by rw [hE.out, HF.out]; rfl, by rw [hV.out, hE.out, HF.out]; exact World.ownsRow_nil _ _ _ _, HB1.out⟩
    · obtain rfl : k = l.length := by omega
      have HAll := Lib.hid (show ∀ p ∈ l, rightN p = true from fun p hp => HA.out p (by rwa [List.take_length]))
      have HTrue := Lib.hid (List.all_eq_true.2 HAll.out)
      have hnl : ¬ (l.length : Int) < (l.length : Int) := by omega
      have HC := Lib.hid (cloneS_calls _ l wr (HT.out.below HB.out) hlen)
      have HS := Lib.hid (fun v W base h => sortAll_calls v l W base h HAll.out hlen)
      go_wp2_with fail
      refine HC.out.mono ?_
      rintro e w1 ⟨v1, rfl, ho1, hb1⟩
      have HB1 := Lib.hid (HB.out.trans (hb1.mono HB.out.size))
      have HO1 := Lib.hid (own_lower ho1 HB.out.size)
      clear ho1 hb1
      go_wp2_with fail
      refine (HS.out _ _ _ HO1.out).mono ?_
      rintro e w2 ⟨rfl, ts, htl, hcm, ho2, hb2⟩
      have HB2 := Lib.hid (hb2 _ _ HB1.out (Nat.le_refl _) HB1.out.size)
      have HO2 := Lib.hid ho2
      have HCm := Lib.hid hcm
      have HK := Lib.hid (compactS_calls v1 ts w2 w.heap.size ho2 (by omega))
      clear ho2 hb2 hcm
      go_wp2_with fail
      refine HK.out.mono ?_
      rintro e w3 ⟨v3, rfl, ho3, hb3⟩
      rw [HCm.out] at ho3
      have HB3 := Lib.hid (hb3 _ _ HB2.out (Nat.le_refl _))
      have HO3 := Lib.hid ho3
      obtain ⟨a3, c3, rfl⟩ := ownsS_shape ho3
      clear ho3 hb3
      generalize setL nmC l = m at *
      by_cases h256 : m.length ≤ 256
      · have h1 : ¬ (256 : Int) < (m.length : Int) := by omega
        have HE := Lib.hid (show ofE l = 0 by rw [hE.out, HTrue.out, if_pos rfl, if_pos h256])
        clear h256
        go_wp2
        go_ret2
        exact ⟨_, by rw [HE.out]; rfl, by rw [hV.out, HE.out, if_pos rfl]; exact HO3.out, HB3.out⟩
      · have h1 : (256 : Int) < (m.length : Int) := by omega
        have HE := Lib.hid (show ofE l = 5 by rw [hE.out, HTrue.out, if_pos rfl, if_neg h256])
        clear h256
        go_wp2
        go_ret2
        exact ⟨_, by rw [HE.out]; rfl, by rw [hV.out, HE.out, if_neg (by decide)]; exact World.ownsRow_nil _ _ _ _, HB3.out⟩
end Go.Proofs.Ytdaalpiiagmdfaa
