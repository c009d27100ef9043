/-
  CONTRACTS of slices.AppendSeq and slices.Collect over the parts of a string, and of name.Parts.
-/
import Derived.Test.YtdaalpiiagmdfaaNameUnd
import Derived.Maps.AppendAt
import Derived.Deep.Onto
namespace Go.Proofs.Ytdaalpiiagmdfaa
open Go.RowKit Go.Shelf

attribute [local go_sem] Oper.semAt_some

theorem info_str : (Try.prog.info? 9).map (fun i => (i.zero, i.size, i.bytes)) = some (some (.string ⟨#[]⟩), 1, 16) := by kernel_rfl

theorem ownsS_shape {w : World} {base : Nat} {e : TypeId} {sz : Nat} {v : Value} {n : Nat} {xs : List Value} (h : w.ownsRow base e sz v n xs) : ∃ a c, v = .slice a n c := by
  rcases h.2 with ⟨rfl, rfl⟩ | ⟨g, cap, cur, rfl, _⟩
  · exact ⟨_, _, rfl⟩
  · exact ⟨_, _, rfl⟩
theorem partsL_length (l : List UInt8) : (partsL l).length ≤ l.length + 1 := by
  induction l with
  | nil => exact Nat.le_refl _
  | cons c l ih =>
    have e : partsL (c :: l) = if c == 46 then [] :: partsL l else match partsL l with
      | [] => [[c]]
      | p :: ps => (c :: p) :: ps := rfl
    rw [e]
    split
    · simp only [List.length_cons]; omega
    · cases hp : partsL l with
      | nil => simp
      | cons p ps => rw [hp] at ih; simp only [List.length_cons] at ih ⊢; omega

set_option maxRecDepth 100000 in
set_option maxHeartbeats 2000000 in
theorem appendSeq_in (n : Nat) (hn : 3 ≤ n) (S : Nat) (s : List UInt8) (hs : s.length ≤ 1000000) (w : World) (hS : Boxed w S 9 (str s)) :
    CallsIn Fence.wide n Try.prog 66 #[.slice none 0 0, .func (.func 67) #[] #[.pointer (some ⟨S, 0, none⟩)]] w fun e W' => ∃ v', e = .returned v' ∧ W'.ownsRow w.heap.size 9 1 v' (partsL s).length ((partsL s).map str) ∧ Below w.heap.size w W' := by
  have h1 : 1 ≤ n := by omega
  obtain ⟨i0, hi, hz0, hz1, hz2⟩ := info_parts info_str
  refine callsIn_of_wp_marks Try.func66 rfl trivial ?_ rfl
  simp only [Try.ntmps66, List.size_toArray, List.length_cons, List.length_nil, Nat.reduceAdd, Nat.reduceSub, Array.replicate_succ, Array.replicate_zero, List.push_toArray, List.append_toArray, List.nil_append, List.cons_append]
  gi_wp2_with fail
  have b1 := Boxed.new w 22 (.slice none 0 0)
  have hB0 : Below w.heap.size w (w.alloc (.cells #[.slice none 0 0] 22)) := (Below.refl _ w).alloc (Nat.le_refl _) _
  refine wpIn_rangeFunc_ownG (encs := encS) (Kp := KpN w.heap.size S) rfl h1 (gf := 67) (lb := #[.pointer (some ⟨S, 0, none⟩)]) rfl trivial (enters_of Try.func67 (by kernel_rfl) rfl)
    (parts_stops (n - 1) (by omega) S s hs w _ hB0 (hS.alloc _))
    (fun h k => ⟨h.1.trans k.1, k.2.trans h.2⟩)
    (fun W l o o' hl h hc hw => ⟨belowK_b (w := w) (Nat.le_refl _) W l o o' (by simp at hl; omega) h hc hw, World.putObj_heap_other (by have := hS.lt; simp at hl; omega)⟩)
    (Below.refl _ _) (fun _ => rfl)
    (fun pre W => (∃ v, Boxed W w.heap.size 22 v ∧ W.ownsRow w.heap.size 9 1 v pre.length (pre.map fun p : Pt => str p.1) ∧ True) ∧ Below w.heap.size w W)
    (fun _ _ _ => False)
    (OwnFrom.and (Own.from (holdsRow_own w.heap.size w.heap.size 22 9 1 (fun pre => pre.length) (fun pre : List Pt => pre.map fun p => str p.1) (fun _ _ => True)) _) (ownFrom_below (Nat.le_refl _) (by simp)))
    (fun c => ownFrom_pure _ _)
    ⟨⟨_, b1, World.ownsRow_nil _ _ _ _, trivial⟩, hB0⟩
    (fun x => { tmps := #[.slice none 0 0, .func (.func 67) #[] #[.pointer (some ⟨S, 0, none⟩)], .pointer (some ⟨w.heap.size, 0, none⟩), undef, .slice none 0 0, .string ⟨x.1.toArray⟩, .func (.func 67) #[] #[.pointer (some ⟨S, 0, none⟩)], .string ⟨x.1.toArray⟩, undef, undef, undef, undef, undef], defers := [] }) ?assign ?body ?done ?stop
  case assign =>
    intro l x W K hK
    simp only [encS, str]
    gi_wp2
    exact hK
  case body =>
    rintro l pre ⟨x, hx⟩ W ⟨⟨v, hv, hrow2, -⟩, hB⟩ hlt
    have hpl := partsL_length s
    have hSl := hS.lt
    have hV := Lib.hid hv
    have hR2 := Lib.hid hrow2
    have hBB := Lib.hid hB
    have hsz := hB.size
    have hI := Lib.hid hi
    have hZ0 := Lib.hid hz0
    have hZ1 := Lib.hid hz1
    have hZ2 := Lib.hid hz2
    have c3 := hv.cell
    have f3 := hv.frozen
    clear hv hrow2 hB hi hz0 hz1 hz2 b1 hB0 hS
    gi_wp2_with (gi_at_builtin; refine wpListIn_append_own _ rfl _ _ 22 rfl w.heap.size 9 i0 (.string ⟨#[]⟩) 1 16 Try.underlying22 hI.out hZ0.out hZ1.out hZ2.out rfl (by decide) _ _ _ rfl (hR2.out.alloc _) ⟨W.heap.size, 0, none⟩ 1 1 [.string ⟨x.toArray⟩] rfl rfl (cell_one_new _ _ _) (by intro u hu; simp at hu; subst hu; rfl) (by unfold maxLen; omega) (by omega) (by simp; omega) ?_; intro v' w1 hown' hgrow _; obtain ⟨g', cap', rfl⟩ := ownsRow_succ hown'; obtain ⟨hv1, hv2, hr2, hk2, hb2⟩ := hV.out.appended (by decide) hR2.out hsz (by omega) hown' hgrow; have hc1 := hv1.cell; have hf1 := hv1.frozen; have hG := Lib.hid hgrow; have hV2 := Lib.hid hv2; have hR3 := Lib.hid hr2; have hK2 := Lib.hid hk2; have hB2 := Lib.hid hb2; clear hgrow hv1 hv2 hr2 hk2 hb2 hown')
    refine ⟨hK2.out.from _, ⟨hB2.out, hB2.out.block S (by omega)⟩, ⟨_, hV2.out, ?_⟩, hBB.out.trans hB2.out⟩
    have := hR3.out
    simp at this ⊢
    exact this
  case done =>
    rintro D ys W hD hys ⟨⟨v, hv, hrow2, -⟩, hB⟩ hK
    obtain ⟨va, vc, rfl⟩ := ownsS_shape hrow2
    have hV := Lib.hid hv
    have hR2 := Lib.hid hrow2
    have hBB := Lib.hid hB
    have hKK := Lib.hid hK
    have hDD := Lib.hid hD
    have hY := Lib.hid hys
    have c3 := hv.cell
    clear hv hrow2 hB hK hD hys hi hz0 hz1 hz2 b1 hB0 hS
    gi_wp2
    refine ⟨by simp, .inl ⟨_, _, rfl, run_takeDeferred hKK.out, ?_⟩⟩
    have hD0 := hDD.out
    simp only [World.size_alloc] at hD0
    have e1 : (partsL s).length = ys.length := by rw [← hY.out, List.length_map]
    have e2 : (partsL s).map str = ys.map fun p => str p.1 := by rw [← hY.out, List.map_map]; rfl
    refine ⟨.slice va ys.length vc, by simp [results, Try.f66, go_sem], .slice va ys.length vc, rfl, ?_, hBB.out.trans (belowK_b (w := w) (Nat.le_refl _) _ D _ _ (by omega) hKK.out rfl rfl)⟩
    rw [e1, e2]
    exact ownsRow_putObj hR2.out _ hKK.out rfl
  case stop =>
    rintro D c pre W hD hpre h hK
    exact h.elim

theorem appendSeq_calls (S : Nat) (s : List UInt8) (hs : s.length ≤ 1000000) (w : World) (hS : Boxed w S 9 (str s)) :
    Calls Try.prog 66 #[.slice none 0 0, .func (.func 67) #[] #[.pointer (some ⟨S, 0, none⟩)]] w fun e W' => ∃ v', e = .returned v' ∧ W'.ownsRow w.heap.size 9 1 v' (partsL s).length ((partsL s).map str) ∧ Below w.heap.size w W' :=
  (callsIn_wide (n := 3)).1 (appendSeq_in 3 (by omega) S s hs w hS)
theorem parts_calls (s : List UInt8) (w : World) :
    Calls Try.prog 45 #[str s] w fun e w' => e = .returned (.func (.func 67) #[] #[.pointer (some ⟨w.heap.size, 0, none⟩)]) ∧ w' = w.alloc (.cells #[str s] 9) :=
  (callsIn_wide (n := 3)).1 (parts_in 3 s w)

set_option maxRecDepth 100000 in
theorem collect_calls (S : Nat) (s : List UInt8) (hs : s.length ≤ 1000000) (w : World) (hS : Boxed w S 9 (str s)) :
    Calls Try.prog 44 #[.func (.func 67) #[] #[.pointer (some ⟨S, 0, none⟩)]] w fun e W' => ∃ a c, e = .returned (.slice a (partsL s).length c) ∧ W'.ownsRow w.heap.size 9 1 (.slice a (partsL s).length c) (partsL s).length ((partsL s).map str) ∧ Below w.heap.size w W' := by
  have HA := Lib.hid (appendSeq_calls S s hs w hS)
  clear hS
  go_enter Try.func44, Try.ntmps44
  go_wp2_with fail
  refine HA.out.mono ?_
  rintro e w1 ⟨v, rfl, ho, hb⟩
  obtain ⟨a, c, rfl⟩ := ownsS_shape ho
  have HO := Lib.hid ho
  have B1 := Lib.hid hb
  clear ho hb
  go_wp2
  go_ret
  exact ⟨a, c, rfl, HO.out, B1.out⟩

def partsV (s : List UInt8) : List (List UInt8) := if rightN s then partsL s else []
def partsE (s : List UInt8) : Int := if rightN s then 0 else 40

set_option maxRecDepth 100000 in
theorem Parts_calls (s : List UInt8) (hs : s.length ≤ 1000000) (w : World) :
    Calls Try.prog 15 #[str s] w fun e W' => ∃ a c, e = .returned (.tuple #[.slice a (partsV s).length c, .int .i64 (partsE s)]) ∧ W'.ownsRow w.heap.size 9 1 (.slice a (partsV s).length c) (partsV s).length ((partsV s).map str) ∧ Below w.heap.size w W' := by
  have HR := Lib.hid (right_calls s w (by omega))
  have HP := Lib.hid (fun W : World => parts_calls s W)
  have HC := Lib.hid (fun W : World => collect_calls W.heap.size s hs (W.alloc (.cells #[str s] 9)) (Boxed.new W 9 (str s)))
  unfold partsV partsE
  cases hr : rightN s with
  | false =>
    rw [hr] at HR
    clear hr hs
    simp only [str] at *
    go_enter Try.func15, Try.ntmps15
    go_wp2_with fail
    refine HR.out.mono ?_
    rintro e w1 ⟨rfl, hb⟩
    have B1 := Lib.hid hb
    clear hb
    go_wp2
    exact bodyPost_ret (v := .tuple #[.slice none 0 0, .int .i64 40]) (by simp [results, Try.f15, go_sem]) rfl ⟨none, 0, rfl, World.ownsRow_nil _ _ _ _, B1.out⟩
  | true =>
    rw [hr] at HR
    clear hr hs
    have hm : (partsL s).map str = (partsL s).map fun x => Value.string ⟨x.toArray⟩ := rfl
    simp only [str] at *
    simp only [if_true]
    go_enter Try.func15, Try.ntmps15
    go_wp2_with fail
    refine HR.out.mono ?_
    rintro e w1 ⟨rfl, hb⟩
    have B1 := Lib.hid hb
    clear hb
    go_wp2_with fail
    refine (HP.out _).mono ?_
    rintro e w2 ⟨rfl, rfl⟩
    go_wp2_with fail
    refine (HC.out _).mono ?_
    rintro e w3 ⟨a, c, rfl, ho, hb3⟩
    have HO := Lib.hid (ho.mono (base' := w.heap.size) (by have := B1.out.size; simp; omega))
    have B3 := Lib.hid (((B1.out).alloc B1.out.size (.cells #[.string ⟨s.toArray⟩] 9)).trans (hb3.mono (by have := B1.out.size; simp; omega)))
    clear ho hb3
    go_wp2
    exact bodyPost_ret (v := .tuple #[.slice a (partsL s).length c, .int .i64 0]) (by simp [results, Try.f15, go_sem]) rfl ⟨a, c, rfl, HO.out, B3.out⟩
end Go.Proofs.Ytdaalpiiagmdfaa
