/-
  CONTRACT of name.Set: whether a set is right.
-/
import Derived.Test.YtdaalpiiagmdfaaNameCmp
namespace Go.Proofs.Ytdaalpiiagmdfaa
open Go.RowKit Go.Shelf

attribute [local go_sem] Oper.semAt_some

/-- A slice of strings that lies in a world. -/
def TRow (w : World) (v : Value) (l : List (List UInt8)) : Prop :=
  (l = [] ∧ ∃ a c, v = .slice a 0 c) ∨ ∃ b o c, v = .slice (some ⟨b, o, none⟩) l.length c ∧ b < w.heap.size ∧ l.length ≤ c ∧ ∀ i x, l[i]? = some x → w.cell? ⟨b, o + i, none⟩ = some (str x)
theorem TRow.below {w w' : World} {v : Value} {l : List (List UInt8)} (h : TRow w v l) (hb : Below w.heap.size w w') : TRow w' v l := by
  rcases h with h | ⟨b, o, c, h1, h2, h3, h4⟩
  · exact .inl h
  · exact .inr ⟨b, o, c, h1, Nat.lt_of_lt_of_le h2 hb.size, h3, fun i x hx => (hb.cell (p := ⟨b, o + i, none⟩) h2).trans (h4 i x hx)⟩

def setAt (l : List (List UInt8)) (i : Nat) : Bool := rightN (l.getD i []) && (decide (i = 0) || decide (orderN (l.getD (i - 1) []) (l.getD i []) < 0))
def setN (l : List (List UInt8)) : Bool := decide (l.length ≤ 256) && (List.range l.length).all (setAt l)

set_option maxRecDepth 100000 in
set_option maxHeartbeats 2000000 in
theorem set_calls (v : Value) (l : List (List UInt8)) (w : World) (hrow : TRow w v l) (hlen : l.length ≤ 1000000) (hl : ∀ x ∈ l, x.length ≤ 1000000) :
    Calls Try.prog 20 #[v] w fun e W' => e = .returned (.bool (setN l)) ∧ Below w.heap.size w W' := by
  rcases hrow with ⟨rfl, a, c, rfl⟩ | ⟨b, o, c, rfl, hb, hc, hcell⟩
  · go_enter Try.func20, Try.ntmps20
    go_wp2_with fail
    go_loopw [10] (fun i wr => i = .int .i64 0 ∧ w = wr) (fun _ _ => 0)
    case atStart => exact ⟨rfl, rfl⟩
    case round =>
      obtain ⟨rfl, rfl⟩ := hrel
      go_wp2
      go_ret
      exact ⟨rfl, Below.refl _ _⟩
  have hset : setN l = (decide (l.length ≤ 256) && (List.range l.length).all (setAt l)) := rfl
  have hS := Lib.hid hset
  clear hset
  by_cases h256 : l.length ≤ 256
  · have hd : decide ((256 : Int) < (l.length : Int)) = false := decide_eq_false (by omega)
    have HR := Lib.hid (fun (k : Nat) (hk : k < l.length) (W : World) => right_calls (l.getD k []) W (by
      have := hl (l.getD k []) (by rw [List.getD_eq_getElem?_getD, List.getElem?_eq_getElem hk]; exact List.getElem_mem hk)
      omega))
    have HO := Lib.hid (fun (j k : Nat) (hj : j < l.length) (hk : k < l.length) (W : World) => order_calls (l.getD j []) (l.getD k []) W
      (hl _ (by rw [List.getD_eq_getElem?_getD, List.getElem?_eq_getElem hj]; exact List.getElem_mem hj))
      (hl _ (by rw [List.getD_eq_getElem?_getD, List.getElem?_eq_getElem hk]; exact List.getElem_mem hk)))
    have HC := Lib.hid (fun (W : World) (hB : Below w.heap.size w W) (i : Nat) (hi : i < l.length) =>
      ((hB.cell (p := ⟨b, o + i, none⟩) hb).trans (hcell i (l.getD i []) (by rw [List.getD_eq_getElem?_getD, List.getElem?_eq_getElem hi]; rfl)) : W.cell? ⟨b, o + i, none⟩ = some (str (l.getD i []))))
    clear hl hcell
    simp only [str] at HR HO HC
    go_enter Try.func20, Try.ntmps20
    go_wp2_with fail
    go_loopw [10] (fun i wr => ∃ k : Nat, k ≤ l.length ∧ i = .int .i64 k ∧ (∀ j, j < k → setAt l j = true) ∧ Below w.heap.size w wr) (fun i _ => l.length - (intOf i).toNat)
    case atStart => exact ⟨0, Nat.zero_le _, rfl, fun j hj => absurd hj (Nat.not_lt_zero _), Below.refl _ _⟩
    case round =>
      obtain ⟨k, hk, rfl, hall, hB⟩ := hrel
      have HAl := Lib.hid hall
      have HB := Lib.hid hB
      clear hall hB
      have hbw : b < wr.heap.size := Nat.lt_of_lt_of_le hb HB.out.size
      by_cases hlt : k < l.length
      · have hk1 : decide ((k : Int) < (l.length : Int)) = true := decide_eq_true (by omega)
        have hk2 : (k : Int) < (l.length : Int) := by omega
        have HAt := Lib.hid (show setAt l k = (rightN (l.getD k []) && (decide (k = 0) || decide (orderN (l.getD (k - 1) []) (l.getD k []) < 0))) from rfl)
        have HCk := Lib.hid (HC.out wr HB.out k hlt)
        have HRk := Lib.hid (HR.out k hlt wr)
        obtain ⟨rk, hrk⟩ : ∃ r, rightN (l.getD k []) = r := ⟨_, rfl⟩
        rw [hrk] at HRk HAt
        clear hrk
        have HOk := Lib.hid (fun (W : World) => HO.out (k - 1) k (by omega) hlt W)
        have hfin : ∀ m, m < l.length → setAt l m = false → setN l = false := by
          intro m hm h
          rw [hS.out, Bool.eq_false_iff]
          intro ht
          rw [Bool.and_eq_true, List.all_eq_true] at ht
          have := ht.2 m (List.mem_range.2 hm)
          rw [h] at this
          cases this
        have HF := Lib.hid hfin
        clear hfin
        have HP := Lib.hid (fun (W : World) (hW : Below w.heap.size w W) => HC.out W hW (k - 1) (by omega))
        generalize l.getD k [] = xk at *
        generalize l.getD (k - 1) [] = xp at *
        have ck := HCk.out
        go_wp2_with fail
        refine HRk.out.mono ?_
        rintro e w1 ⟨rfl, hb1⟩
        have B1 := Lib.hid (HB.out.trans (hb1.mono HB.out.size))
        clear hb1 ck
        cases rk with
        | false =>
          have HZ := Lib.hid (HF.out k hlt (by rw [HAt.out]; rfl))
          go_wp2
          go_ret
          exact ⟨by rw [HZ.out]; rfl, B1.out⟩
        | true =>
          cases k with
          | zero =>
            go_wp2_with fail
            refine ⟨⟨1, by omega, rfl, fun j hj => ?_, B1.out⟩, by simp [intOf]; omega⟩
            obtain rfl : j = 0 := by omega
            rw [HAt.out]; rfl
          | succ j =>
            have hg : decide ((0 : Int) < (j : Int) + 1) = true := decide_eq_true (by omega)
            have hwr : IntKind.i64.wrap ((j : Int) + 1 - 1) = (j : Int) := by rw [IntWalk.i64_in _ ⟨by omega, by omega⟩]; omega
            have hwr2 : IntKind.i64.wrap (j : Int) = (j : Int) := IntWalk.i64_in _ ⟨by omega, by omega⟩
            have hwr3 : IntKind.i64.wrap ((j : Int) + 1 + 1) = (j : Int) + 1 + 1 := IntWalk.i64_in _ ⟨by omega, by omega⟩
            have cp : w1.cell? ⟨b, o + j, none⟩ = some (.string ⟨xp.toArray⟩) := HP.out w1 B1.out
            have hjl : (j : Int) < (l.length : Int) := by omega
            have hj0 : (0 : Int) ≤ (j : Int) := by omega
            have HOw := Lib.hid (HOk.out w1)
            have hat : setAt l (j + 1) = decide (orderN xp xk < 0) := by rw [HAt.out]; simp
            have HAt2 := Lib.hid hat
            clear hat
            generalize orderN xp xk = ov at *
            push_cast at *
            go_wp2_with fail
            refine HOw.out.mono ?_
            rintro e w2 ⟨rfl, hb2⟩
            have B2 := Lib.hid (B1.out.trans (hb2.mono B1.out.size))
            clear hb2 cp
            by_cases hov : ov < 0
            · have hge : decide ((0 : Int) ≤ ov) = false := decide_eq_false (by omega)
              go_wp2_with fail
              refine ⟨⟨j + 1 + 1, by omega, by push_cast; rfl, fun m hm => ?_, B2.out⟩, by simp [intOf]; omega⟩
              by_cases hmj : m = j + 1
              · subst hmj; rw [HAt2.out]; exact decide_eq_true hov
              · exact HAl.out m (by omega)
            · have hge : decide ((0 : Int) ≤ ov) = true := decide_eq_true (by omega)
              have HZ := Lib.hid (HF.out (j + 1) hlt (by rw [HAt2.out]; exact decide_eq_false hov))
              go_wp2
              go_ret
              exact ⟨by rw [HZ.out]; rfl, B2.out⟩
      · obtain rfl : k = l.length := by omega
        have hk1 : decide ((l.length : Int) < (l.length : Int)) = false := decide_eq_false (by omega)
        have HZ := Lib.hid (show setN l = true by
          rw [hS.out, decide_eq_true h256, Bool.true_and, List.all_eq_true]
          exact fun m hm => HAl.out m (List.mem_range.1 hm))
        go_wp2
        go_ret
        exact ⟨by rw [HZ.out]; rfl, HB.out⟩
  · have hd : decide ((256 : Int) < (l.length : Int)) = true := decide_eq_true (by omega)
    have hf : setN l = false := by rw [hS.out, decide_eq_false h256]; rfl
    rw [hf]
    clear hS hf hcell hl
    go_enter Try.func20, Try.ntmps20
    go_wp2
    go_ret
    exact ⟨rfl, Below.refl _ _⟩
end Go.Proofs.Ytdaalpiiagmdfaa
