/-
  CONTRACT of fermatalaw04.awake: the examples of the chapter come out as they should (a range over a map that the call makes, in whatever order); nothing that was there is written.
-/
import Derived.Test.YtdaalpiiagmdfaaNameJoin
import Derived.Test.YtdaalpiiagmdfaaNameRange
import Derived.Test.YtdaalpiiagmdfaaNameCmp
import Derived.Maps.RangeWalk
import Derived.StringKeys
import Derived.Maps.Own
import Derived.LoopTactic
namespace Go.Proofs.Ytdaalpiiagmdfaa
open Go.RowKit Go.Shelf Go.Maps

/-- A composite literal's entry, at the operation. -/
theorem wpList_insert_own {H : Type} {P : Program} (w : World) {ops : Array Oper} {rest : List Oper} {o : Oper} {a : Act} {Q : Exit → Act → World → Prop}
    (hg : o.guard = none) (m x v : Operand) (t : TypeId) (hop : o.op = Op.insert t m x v)
    (k e : TypeId) (K : Keyed P k) (ht : P.underlying t = some (.map k e)) (R : Value → Option (DataW H × List MemPlace)) (b n : Nat) (D : DataW H)
    (hm : a.eval m = .map (some b)) (hown : w.ownsMap P k R b n D) (hn : n < maxLen) (key val : Value) (kl : Lit) (hx : a.eval x = key) (hv : a.eval v = val) (hkey : keyOf P k key = some kl)
    (d : DataW H) (ps : List MemPlace) (hval : R val = some (d, ps))
    (hK : ∀ w', w'.ownsMap P k R b (n + 1) (D.put kl d) → w.grownBy w' (some b) → wpList P ops Q rest (a.put o.dst undef) w') :
    wpList P ops Q (o :: rest) a w := by
  refine wpList_plain hg fun K' hK' => ?_
  obtain ⟨w', hrun, r1, r2⟩ := hown.update K ht hn hkey hval
  unfold Oper.wp
  simp [execOp, hop, hm, hx, hv, hrun, Result.andThen]
  exact hK' _ _ (hK w' r1 r2)
theorem boolElem_inv {H : Type} {P : Program} {e : TypeId} (he : P.underlying e = some .bool) {v : Value} {z : DataW H × List MemPlace} (h : plainElem P e v = some z) : ∃ x, v = .bool x ∧ z = (.lit (.bool x), []) := by
  unfold plainElem at h
  rw [he] at h
  cases v <;> simp at h
  exact ⟨_, rfl, h.symm⟩

theorem lawS : Keyed Try.prog 9 := string_keyed Try.underlying9
/-- The map of the examples. -/
def awD : DataW Unit := (((((((((((DataW.map []).put (.string [97]) (.lit (.bool true))).put (.string [97, 46, 98]) (.lit (.bool true))).put (.string [97, 45, 98, 46, 99]) (.lit (.bool true))).put (.string [112, 111, 114, 116, 48, 46, 105, 110]) (.lit (.bool true))).put (.string [45, 97]) (.lit (.bool false))).put (.string [97, 45]) (.lit (.bool false))).put (.string [97, 46, 46, 98]) (.lit (.bool false))).put (.string [97, 46, 45, 98]) (.lit (.bool false))).put (.string [48, 97]) (.lit (.bool false))).put (.string [65]) (.lit (.bool false))).put (.string []) (.lit (.bool false))
theorem awD_is : awD = .map [(.string [], .lit (.bool false)), (.string [45, 97], .lit (.bool false)), (.string [48, 97], .lit (.bool false)), (.string [65], .lit (.bool false)), (.string [97], .lit (.bool true)), (.string [97, 45], .lit (.bool false)), (.string [97, 45, 98, 46, 99], .lit (.bool true)), (.string [97, 46, 45, 98], .lit (.bool false)), (.string [97, 46, 46, 98], .lit (.bool false)), (.string [97, 46, 98], .lit (.bool true)), (.string [112, 111, 114, 116, 48, 46, 105, 110], .lit (.bool true))] := by rfl
/-- Each entry says whether its key is a name. -/
theorem awD_says (t : List UInt8) (h : Maps.has awD (.string t) = true) (c : Bool) (hc : awD.atKey (.string t) (.lit (.bool true)) = .lit (.bool c)) : rightN t = c := by
  rw [awD_is] at h hc
  simp only [Maps.has, List.any_cons, List.any_nil, Lit.sameKey, Bool.or_false, Bool.or_eq_true, beq_iff_eq] at h
  rcases h with rfl | rfl | rfl | rfl | rfl | rfl | rfl | rfl | rfl | rfl | rfl
  all_goals (simp [DataW.atKey, Lit.sameKey, List.find?] at hc; subst hc; decide +kernel)
theorem trow_lit4 (w : World) (a b c d : List UInt8) (t : TypeId) : TRow (w.alloc (.cells #[str a, str b, str c, str d] t)) (.slice (some ⟨w.heap.size, 0, none⟩) 4 4) [a, b, c, d] := by
  refine .inr ⟨w.heap.size, 0, 4, rfl, by simp, Nat.le_refl _, fun i x hx => ?_⟩
  rw [Nat.zero_add, cell_of_row _ _ i _ t (0, 0) (heap_alloc_new w _)]
  have h : ([str a, str b, str c, str d] : List Value)[i]? = some (str x) := by
    have : ([str a, str b, str c, str d] : List Value) = [a, b, c, d].map str := rfl
    rw [this, List.getElem?_map, hx]; rfl
  simpa using h
theorem trow_lit2 (w : World) (a b : List UInt8) (t : TypeId) : TRow (w.alloc (.cells #[str a, str b] t)) (.slice (some ⟨w.heap.size, 0, none⟩) 2 2) [a, b] := by
  refine .inr ⟨w.heap.size, 0, 2, rfl, by simp, Nat.le_refl _, fun i x hx => ?_⟩
  rw [Nat.zero_add, cell_of_row _ _ i _ t (0, 0) (heap_alloc_new w _)]
  have h : ([str a, str b] : List Value)[i]? = some (str x) := by
    have : ([str a, str b] : List Value) = [a, b].map str := rfl
    rw [this, List.getElem?_map, hx]; rfl
  simpa using h
theorem aw_cmp1 (W : World) : Calls Try.prog 14 #[.string ⟨#[97]⟩, .string ⟨#[97, 46, 98]⟩] W fun e W' => e = .returned (.tuple #[.int .i64 (-1), .int .i64 0]) ∧ Below W.heap.size W W' := by
  have h := compare_calls [97] [97, 46, 98] W (by simp) (by simp)
  rw [show (compareN [97] [97, 46, 98] : Int) = -1 by decide +kernel, show (compareE [97] [97, 46, 98] : Int) = 0 by decide +kernel] at h
  exact h
theorem aw_cmp2 (W : World) : Calls Try.prog 14 #[.string ⟨#[97, 46, 98]⟩, .string ⟨#[97, 46, 99]⟩] W fun e W' => e = .returned (.tuple #[.int .i64 (-1), .int .i64 0]) ∧ Below W.heap.size W W' := by
  have h := compare_calls [97, 46, 98] [97, 46, 99] W (by simp) (by simp)
  rw [show (compareN [97, 46, 98] [97, 46, 99] : Int) = -1 by decide +kernel, show (compareE [97, 46, 98] [97, 46, 99] : Int) = 0 by decide +kernel] at h
  exact h
theorem aw_cmp3 (W : World) : Calls Try.prog 14 #[.string ⟨#[97, 46, 122]⟩, .string ⟨#[97, 45, 98]⟩] W fun e W' => e = .returned (.tuple #[.int .i64 (-1), .int .i64 0]) ∧ Below W.heap.size W W' := by
  have h := compare_calls [97, 46, 122] [97, 45, 98] W (by simp) (by simp)
  rw [show (compareN [97, 46, 122] [97, 45, 98] : Int) = -1 by decide +kernel, show (compareE [97, 46, 122] [97, 45, 98] : Int) = 0 by decide +kernel] at h
  exact h
abbrev awL : List (List UInt8) := [[97], [97, 46, 98], [97, 46, 98, 46, 99], [97, 46, 98, 99]]
theorem aw_range1 (v : Value) (W : World) (h : TRow W v awL) : Calls Try.prog 25 #[v, .string ⟨#[97, 46, 98]⟩] W fun e W' => e = .returned (.tuple #[.int .i64 1, .int .i64 3, .int .i64 0]) ∧ Below W.heap.size W W' := by
  have h := range_calls v awL [97, 46, 98] W h (by simp) (by intro x hx; simp at hx; rcases hx with rfl | rfl | rfl | rfl <;> simp) (by simp)
  rw [show lookI awL [97, 46, 98] = 1 by decide +kernel, show rangeN awL [97, 46, 98] = 2 by decide +kernel, show lookE awL [97, 46, 98] = 0 by decide +kernel] at h
  exact h
theorem aw_range2 (v : Value) (W : World) (h : TRow W v awL) : Calls Try.prog 25 #[v, .string ⟨#[98]⟩] W fun e W' => e = .returned (.tuple #[.int .i64 4, .int .i64 4, .int .i64 0]) ∧ Below W.heap.size W W' := by
  have h := range_calls v awL [98] W h (by simp) (by intro x hx; simp at hx; rcases hx with rfl | rfl | rfl | rfl <;> simp) (by simp)
  rw [show lookI awL [98] = 4 by decide +kernel, show rangeN awL [98] = 0 by decide +kernel, show lookE awL [98] = 0 by decide +kernel] at h
  exact h
theorem aw_nojoin (v : Value) (W : World) (h : TRow W v [[97], [98, 46, 99]]) : Calls Try.prog 16 #[v] W fun e W' => e = .returned (.tuple #[.string ⟨#[]⟩, .int .i64 40]) ∧ Below W.heap.size W W' := by
  have h := join_calls v [[97], [98, 46, 99]] W h (by simp) (by decide +kernel)
  rw [show joinV [[97], [98, 46, 99]] = [] by decide +kernel, show (joinE [[97], [98, 46, 99]] : Int) = 40 by decide +kernel] at h
  exact h
theorem aw_under (s a : List UInt8) (b : Bool) (hs : s.length ≤ 1000000) (ha : a.length ≤ 1000000) (hb : underN s a = b) (W : World) : Calls Try.prog 17 #[str s, str a] W fun e W' => e = .returned (.bool b) ∧ Below W.heap.size W W' := by
  have h := Under_calls s a W hs ha
  rwa [hb] at h

/-- A Bool that simp does not part. -/
structure BBox where
  b : Bool
set_option maxRecDepth 100000 in
set_option maxHeartbeats 4000000 in
theorem awake4_calls (w : World) : Calls Try.prog 11 #[] w fun e w' => e = .returned (.bool true) ∧ Below w.heap.size w w' := by
  have hmm := @run_makeMap Try.prog
  go_enter Try.func11, Try.ntmps11
  have hown := World.ownsMap_made (H := Unit) w Try.prog 9 (plainElem Try.prog 4)
  have hnx := (Below.refl w.heap.size w).alloc (Nat.le_refl _) (.map #[] 0)
  go_wp2_with (first
    | (refine wpList_insert_own _ rfl _ _ _ 61 rfl 9 4 lawS Try.underlying61 (plainElem Try.prog 4) w.heap.size _ _ rfl hown (by unfold maxLen; omega) _ _ _ rfl rfl (Go.WideMaps.keyOf_string_mk Try.underlying9 (by unfold maxLen; decide)) _ [] (plainElem_bool Try.underlying4 _) ?_; clear hown; intro w1 hown hgr; replace hnx := hnx.grown hgr hnx.size (fun j hj => by cases hj; exact Nat.le_refl _); clear hgr)
    | (at_range; refine wpList_range_own _ rfl _ 61 rfl 9 4 lawS Try.underlying61 (plainElem Try.prog 4) w.heap.size _ _ rfl hown ?_; intro w0 hrg0 hg0 hs0; go_frame))
  have hrg : w0.ranges Try.prog 9 (plainElem Try.prog 4) w.heap.size w1.heap.size 11 awD (Maps.has awD) (Maps.size awD) := hrg0
  have HRG := Lib.hid hrg
  have HB0 := Lib.hid (hnx.grown hg0 hnx.size (fun j hj => by cases hj))
  clear hrg0 hown hg0 hs0 hmm hrg
  obtain ⟨rb, hrb⟩ : ∃ rb, rb = w1.heap.size := ⟨_, rfl⟩
  rw [← hrb] at HRG ⊢
  have HGE := Lib.hid (show w.heap.size ≤ rb by rw [hrb]; exact hnx.size)
  clear hrb hnx
  go_loopw [1] (fun _ wr => ∃ (left : Lit → Bool) (cnt : Nat), wr.ranges Try.prog 9 (plainElem Try.prog 4) w.heap.size rb 11 awD left cnt ∧ (∀ kl, left kl = true → Maps.has awD kl = true) ∧ Below w.heap.size w wr) (fun _ wr => wr.rangeLeft w.heap.size rb)
  case atStart => exact ⟨_, _, HRG.out, fun _ h => h, HB0.out⟩
  case round =>
    obtain ⟨left, cnt, hrg, hleft, hbel⟩ := hrel
    have HRn := Lib.hid hrg
    have HLf := Lib.hid hleft
    have HBn := Lib.hid hbel
    clear hrg hleft hbel HRG HB0
    go_wp2_with (at_next; refine wpList_next_ranges _ rfl _ rfl 9 lawS (plainElem Try.prog 4) Value.string (fun c : BBox => Value.bool c.b) (fun key kl h => by obtain ⟨s, e, _⟩ := WideMaps.string_of_keyOf Try.underlying9 h; exact ⟨s, e⟩) (fun v y h => by obtain ⟨x, e, _⟩ := boolElem_inv Try.underlying4 h; exact ⟨⟨x⟩, e⟩) w.heap.size rb 11 awD left cnt rfl HRn.out ?_ ?_)
    · intro _ _
      clear HRn HLf
      go_wp2_with fail
      refine (aw_cmp1 _).mono ?_
      rintro e v1 ⟨rfl, hb1⟩
      have HC1 := Lib.hid (HBn.out.trans (hb1.mono HBn.out.size))
      clear hb1
      go_wp2_with fail
      refine (aw_cmp2 _).mono ?_
      rintro e v2 ⟨rfl, hb2⟩
      have HC2 := Lib.hid (HC1.out.trans (hb2.mono HC1.out.size))
      clear hb2
      go_wp2_with fail
      refine (aw_cmp3 _).mono ?_
      rintro e v3 ⟨rfl, hb3⟩
      have HC3 := Lib.hid (HC2.out.trans (hb3.mono HC2.out.size))
      clear hb3
      have HT4 := Lib.hid (show TRow (v3.alloc (.cells #[.string ⟨#[97]⟩, .string ⟨#[97, 46, 98]⟩, .string ⟨#[97, 46, 98, 46, 99]⟩, .string ⟨#[97, 46, 98, 99]⟩] 9)) (.slice (some ⟨v3.heap.size, 0, none⟩) 4 4) awL from trow_lit4 v3 [97] [97, 46, 98] [97, 46, 98, 46, 99] [97, 46, 98, 99] 9)
      have HCx := Lib.hid (HC3.out.alloc HC3.out.size (.cells #[.string ⟨#[97]⟩, .string ⟨#[97, 46, 98]⟩, .string ⟨#[97, 46, 98, 46, 99]⟩, .string ⟨#[97, 46, 98, 99]⟩] 9))
      go_wp2_with fail
      refine (aw_range1 _ _ HT4.out).mono ?_
      rintro e v4 ⟨rfl, hb4⟩
      have HC4 := Lib.hid (HCx.out.trans (hb4.mono HCx.out.size))
      have HT5 := Lib.hid (HT4.out.below hb4)
      clear hb4
      go_wp2_with fail
      refine (aw_range2 _ _ HT5.out).mono ?_
      rintro e v5 ⟨rfl, hb5⟩
      have HC5 := Lib.hid (HC4.out.trans (hb5.mono HC4.out.size))
      clear hb5
      have HT6 := Lib.hid (show TRow (v5.alloc (.cells #[.string ⟨#[97]⟩, .string ⟨#[98, 46, 99]⟩] 9)) (.slice (some ⟨v5.heap.size, 0, none⟩) 2 2) [[97], [98, 46, 99]] from trow_lit2 v5 [97] [98, 46, 99] 9)
      have HCy := Lib.hid (HC5.out.alloc HC5.out.size (.cells #[.string ⟨#[97]⟩, .string ⟨#[98, 46, 99]⟩] 9))
      go_wp2_with fail
      refine (aw_nojoin _ _ HT6.out).mono ?_
      rintro e v6 ⟨rfl, hb6⟩
      have HC6 := Lib.hid (HCy.out.trans (hb6.mono HCy.out.size))
      clear hb6
      go_wp2_with fail
      refine (aw_under [97, 46, 98] [97, 46, 98] true (by simp) (by simp) (by decide +kernel) _).mono ?_
      rintro e v7 ⟨rfl, hb7⟩
      have HC7 := Lib.hid (HC6.out.trans (hb7.mono HC6.out.size))
      clear hb7
      go_wp2_with fail
      refine (aw_under [97, 46, 98, 46, 99] [97, 46, 98] true (by simp) (by simp) (by decide +kernel) _).mono ?_
      rintro e v8 ⟨rfl, hb8⟩
      have HC8 := Lib.hid (HC7.out.trans (hb8.mono HC7.out.size))
      clear hb8
      go_wp2_with fail
      refine (aw_under [97, 46, 98, 99] [97, 46, 98] false (by simp) (by simp) (by decide +kernel) _).mono ?_
      rintro e v9 ⟨rfl, hb9⟩
      have HC9 := Lib.hid (HC8.out.trans (hb9.mono HC8.out.size))
      clear hb9
      go_wp2
      go_ret
      exact ⟨rfl, HC9.out⟩
    · intro x cb kl ya yb w2 cnt1 hkey hlk hv hat hrg1 hlt hg1 hs1 hen
      obtain ⟨s, e, hkl, hsz⟩ := WideMaps.string_of_keyOf Try.underlying9 hkey
      cases e
      subst hkl
      obtain ⟨c⟩ := cb
      obtain ⟨c', e, hy⟩ := boolElem_inv Try.underlying4 hv
      cases e
      have hy := congrArg Prod.fst hy
      simp only at hy
      have hsay := awD_says x.data.toList (HLf.out _ hlk) c (by rw [hat, hy])
      have e2 : (⟨x.data.toList.toArray⟩ : ByteArray) = x := by obtain ⟨⟨l⟩⟩ := x; rfl
      have hR := Lib.hid (fun W => by
        have h := right_calls x.data.toList W (by have hl : x.data.toList.length = x.size := by obtain ⟨⟨l⟩⟩ := x; rfl
                                                  rw [hl]; unfold maxLen at hsz; omega)
        rw [hsay] at h
        unfold str at h
        rw [e2] at h
        exact h)
      have HRG1 := Lib.hid hrg1
      have HL1 := Lib.hid (fun kl (h : (left kl && !kl.sameKey (.string x.data.toList)) = true) => HLf.out kl (by cases hl : left kl <;> simp_all))
      have HB1 := Lib.hid (HBn.out.grown hg1 HBn.out.size (fun j hj => by cases hj; exact HGE.out))
      have HM := Lib.hid hlt
      clear hkey hlk hv hat hrg1 hlt hg1 hs1 hy hsay e2 hsz
      cases c
      all_goals (
        go_wp2_with fail
        refine (hR.out _).mono ?_
        rintro e w3 ⟨rfl, hb3⟩
        have HB3 := Lib.hid (HB1.out.trans (hb3.mono HB1.out.size))
        have HR3 := Lib.hid (HRG1.out.kept (row := none) ⟨hb3.os, hb3.tape, hb3.output, hb3.size, fun k hk _ => hb3.block k hk⟩ (by simp) (by simp))
        clear hb3
        go_wp2
        go_roundw
        case rel => exact ⟨_, cnt1, HR3.out, HL1.out, HB3.out⟩
        case measure => rw [HR3.out.left_eq, HRn.out.left_eq]; exact HM.out)
end Go.Proofs.Ytdaalpiiagmdfaa
