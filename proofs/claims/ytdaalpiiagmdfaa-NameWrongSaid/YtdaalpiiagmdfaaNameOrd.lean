/-
  CONTRACT of name.order: the order of strings by their parts; nothing that was there is written.
-/
import Derived.Test.YtdaalpiiagmdfaaNameRight
namespace Go.Proofs.Ytdaalpiiagmdfaa
open Go.RowKit Go.Shelf

attribute [local go_sem] Oper.semAt_some

/-- The order of parts and what is left of a string. -/
def ordL : List (List UInt8) → List UInt8 → Int
  | [], rest => if rest = [] then 0 else -1
  | p :: ps, rest => if rest = [] then 1 else if Lib.compareBytes p (cutP rest).1 ≠ 0 then Lib.compareBytes p (cutP rest).1 else ordL ps (cutP rest).2.1
def orderN (a b : List UInt8) : Int := ordL (partsL a) b
/-- What is left of a string when it agrees with some parts. -/
def contL : List UInt8 → List (List UInt8) → Option (List UInt8)
  | rest, [] => some rest
  | rest, p :: ps => if rest = [] then none else if Lib.compareBytes p (cutP rest).1 ≠ 0 then none else contL (cutP rest).2.1 ps
/-- What the next part tells. -/
def stopL (rest p : List UInt8) : Option Int := if rest = [] then some 1 else if Lib.compareBytes p (cutP rest).1 ≠ 0 then some (Lib.compareBytes p (cutP rest).1) else none
theorem ordL_cont (A : List (List UInt8)) : ∀ (L : List (List UInt8)) (b rest : List UInt8), contL b A = some rest → ordL (A ++ L) b = ordL L rest := by
  induction A with
  | nil => intro L b rest h; simp only [contL, Option.some.injEq] at h; subst h; rfl
  | cons p ps ih =>
    intro L b rest h
    simp only [contL] at h
    split at h
    · cases h
    · rename_i h1
      split at h
      · cases h
      · rename_i h2
        simp only [List.cons_append, ordL]
        rw [if_neg h1, if_neg h2]
        exact ih L _ rest h
theorem contL_snoc (A : List (List UInt8)) : ∀ (b rest p : List UInt8), contL b A = some rest → stopL rest p = none → contL b (A ++ [p]) = some (cutP rest).2.1 := by
  induction A with
  | nil =>
    intro b rest p h hs
    simp only [contL, Option.some.injEq] at h
    subst h
    unfold stopL at hs
    simp only [List.nil_append, contL]
    split at hs
    · cases hs
    · rename_i h1
      split at hs
      · cases hs
      · rename_i h2
        rw [if_neg h1, if_neg h2]
  | cons q ps ih =>
    intro b rest p h hs
    simp only [contL] at h
    split at h
    · cases h
    · rename_i h1
      split at h
      · cases h
      · rename_i h2
        simp only [List.cons_append, contL]
        rw [if_neg h1, if_neg h2]
        exact ih _ rest p h hs
theorem ordL_stop {A L : List (List UInt8)} {b rest p : List UInt8} {v : Int} (h : contL b A = some rest) (hs : stopL rest p = some v) : ordL (A ++ p :: L) b = v := by
  rw [ordL_cont A _ b rest h]
  unfold stopL at hs
  simp only [ordL]
  split at hs
  · rename_i h1; rw [if_pos h1]; simpa using hs
  · rename_i h1
    rw [if_neg h1]
    split at hs
    · rename_i h2; rw [if_pos h2]; simpa using hs
    · cases hs
theorem contL_le (A : List (List UInt8)) : ∀ (b rest : List UInt8), contL b A = some rest → rest.length ≤ b.length := by
  induction A with
  | nil => intro b rest h; simp only [contL, Option.some.injEq] at h; subst h; exact Nat.le_refl _
  | cons p ps ih =>
    intro b rest h
    simp only [contL] at h
    split at h
    · cases h
    · split at h
      · cases h
      · have := ih _ _ h
        have := (cutP_le b).2.1
        omega
theorem cmp_calls (p q : List UInt8) (w : World) : Calls Try.prog 65 #[str p, str q] w fun e w' => e = .returned (.int .i64 (Lib.compareBytes p q)) ∧ w = w' :=
  (Try.strings_Compare ⟨p.toArray⟩ ⟨q.toArray⟩ w).mono fun _ _ ⟨h1, h2⟩ => ⟨h1, h2.symm⟩

set_option maxRecDepth 100000 in
set_option maxHeartbeats 2000000 in
theorem order_in (n : Nat) (hn : 3 ≤ n) (a b : List UInt8) (w : World) (ha : a.length ≤ 1000000) (hb : b.length ≤ 1000000) :
    CallsIn Fence.wide n Try.prog 43 #[str a, str b] w fun e W' => e = .returned (.int .i64 (orderN a b)) ∧ Below w.heap.size w W' := by
  have h1 : 1 ≤ n := by omega
  refine callsIn_of_wp_marks Try.func43 rfl trivial ?_ rfl
  simp only [Try.ntmps43, List.size_toArray, List.length_cons, List.length_nil, Nat.reduceAdd, Nat.reduceSub, Array.replicate_succ, Array.replicate_zero, List.push_toArray, List.append_toArray, List.nil_append, List.cons_append]
  unfold str
  gi_wp2_with (refine ⟨trivial, ?_⟩; gi_at_call 45; refine (parts_in (n - 1) a _).mono ?_; rintro e w' ⟨rfl, rfl⟩; unfold str)
  have b1 := Boxed.new w 3 (.int .i64 0)
  have b2 := Boxed.new (w.alloc (.cells #[.int .i64 0] 3)) 9 (.string ⟨b.toArray⟩)
  have b3 := Boxed.new ((w.alloc (.cells #[.int .i64 0] 3)).alloc (.cells #[.string ⟨b.toArray⟩] 9)) 9 (.string ⟨a.toArray⟩)
  simp only [World.size_alloc] at b2 b3
  have hB0 : Below w.heap.size w (((w.alloc (.cells #[.int .i64 0] 3)).alloc (.cells #[.string ⟨b.toArray⟩] 9)).alloc (.cells #[.string ⟨a.toArray⟩] 9)) := (((Below.refl _ w).alloc (Nat.le_refl _) _).alloc (by simp) _).alloc (by simp; omega) _
  refine wpIn_rangeFunc_ownG (encs := encS) (Kp := KpN w.heap.size (w.heap.size + 2)) rfl h1 (gf := 67) (lb := #[.pointer (some ⟨w.heap.size + 2, 0, none⟩)]) rfl trivial (enters_of Try.func67 (by kernel_rfl) rfl)
    (parts_stops (n - 1) (by omega) (w.heap.size + 2) a ha w _ hB0 b3)
    (fun h k => ⟨h.1.trans k.1, k.2.trans h.2⟩)
    (fun W l o o' hl h hc hw => ⟨belowK_b (w := w) (Nat.le_refl _) W l o o' (by simp at hl; omega) h hc hw, World.putObj_heap_other (by simp at hl; omega)⟩)
    (Below.refl _ _) (fun _ => rfl)
    (fun pre W => (∃ rest, contL b (pre.map (·.1)) = some rest ∧ Boxed W w.heap.size 3 (.int .i64 0) ∧ Boxed W (w.heap.size + 1) 9 (.string ⟨rest.toArray⟩) ∧ Boxed W (w.heap.size + 2) 9 (.string ⟨a.toArray⟩)) ∧ Below w.heap.size w W)
    (fun cc pre W => (cc = .ret ∧ ∃ ini last rest v, pre = ini ++ [last] ∧ contL b (ini.map (·.1)) = some rest ∧ stopL rest last.1 = some v ∧ Boxed W w.heap.size 3 (.int .i64 v)) ∧ Below w.heap.size w W)
    (OwnFrom.and (Own.from (fun s A B row hs hg hr => by obtain ⟨rest, e1, e2, e3, e4⟩ := hs; exact ⟨rest, e1, boxed_own _ _ (fun _ : Unit => _) () A B row e2 hg hr, boxed_own _ _ (fun _ : Unit => _) () A B row e3 hg hr, boxed_own _ _ (fun _ : Unit => _) () A B row e4 hg hr⟩) _) (ownFrom_below (Nat.le_refl _) (by simp; omega)))
    (fun cc => OwnFrom.and (Own.from (fun s A B row hs hg hr => by obtain ⟨hc, ini, last, rest, v, e1, e2, e3, e4⟩ := hs; exact ⟨hc, ini, last, rest, v, e1, e2, e3, boxed_own _ _ (fun _ : Unit => _) () A B row e4 hg hr⟩) _) (ownFrom_below (Nat.le_refl _) (by simp; omega)))
    ⟨⟨b, rfl, (b1.alloc _).alloc _, b2.alloc _, b3⟩, hB0⟩
    (fun x => { tmps := #[.string ⟨a.toArray⟩, .string ⟨b.toArray⟩, undef, undef, .pointer (some ⟨w.heap.size, 0, none⟩), .pointer (some ⟨w.heap.size + 1, 0, none⟩), .string ⟨x.1.toArray⟩, undef, undef, .string ⟨b.toArray⟩, .string ⟨a.toArray⟩, .func (.func 67) #[] #[.pointer (some ⟨w.heap.size + 1 + 1, 0, none⟩)], .string ⟨x.1.toArray⟩, undef, undef, undef, undef, undef, undef, undef, undef, undef, undef, undef, undef, undef, undef, undef, undef], defers := [] }) ?assign ?body ?done ?stop
  case assign =>
    intro l x W K hK
    simp only [encS, str]
    gi_wp2
    exact hK
  case body =>
    rintro l pre ⟨x, hx⟩ W ⟨⟨rest, hco, hb1, hb2, hb3⟩, hB⟩ hlt
    have hrl := contL_le _ _ _ hco
    have HB1 := Lib.hid hb1; have HB2 := Lib.hid hb2; have HB3 := Lib.hid hb3; have HB := Lib.hid hB; have HCo := Lib.hid hco
    have c1 := hb1.cell
    have f1 := hb1.frozen
    have c2 := hb2.cell
    have f2 := hb2.frozen
    clear hb1 hb2 hb3 hB hlt b1 b2 b3 hB0 hco
    cases rest with
    | nil =>
      have HS := Lib.hid (show stopL [] x = some 1 from rfl)
      gi_wp2
      exact ⟨(KeepsOthers.setCell _ _ _).from _, ⟨rfl, pre, ⟨x, hx⟩, [], 1, rfl, HCo.out, HS.out, HB1.out.set _⟩, HB.out.setCell (p := ⟨w.heap.size, 0, none⟩) (Nat.le_refl _) _⟩
    | cons d r =>
      have hsl : stopL (d :: r) x = if Lib.compareBytes x (cutP (d :: r)).1 ≠ 0 then some (Lib.compareBytes x (cutP (d :: r)).1) else none := by unfold stopL; rw [if_neg (by simp)]
      have HSn := Lib.hid (fun h => contL_snoc (pre.map (·.1)) b (d :: r) x HCo.out h)
      have HCut := Lib.hid (fun (W : World) => cut_calls (d :: r) W (by simp only [List.length_cons] at hrl ⊢; omega))
      have HSl := Lib.hid hsl
      have hdr : (d :: r).toArray ≠ #[] := by simp
      clear hsl
      generalize (cutP (d :: r)).1 = p1 at *
      generalize (cutP (d :: r)).2.1 = p2 at *
      generalize (cutP (d :: r)).2.2 = p3 at *
      have HCp := Lib.hid (fun (W : World) => cmp_calls x p1 W)
      simp only [str] at HCut HCp
      gi_wp2_with fail
      refine ⟨trivial, (by intro _; omega), ?_⟩
      refine (CallsIn.inRound l (callsIn_wide.2 (HCut.out _))).mono ?_
      rintro e w2 ⟨rfl, hb⟩
      have k1 : Boxed w2 w.heap.size 3 (.int .i64 0) := (hb.block _ HB1.out.lt).trans HB1.out
      have k2 : Boxed w2 (w.heap.size + 1) 9 (.string ⟨(d :: r).toArray⟩) := (hb.block _ HB2.out.lt).trans HB2.out
      have k3 : Boxed w2 (w.heap.size + 2) 9 (.string ⟨a.toArray⟩) := (hb.block _ HB3.out.lt).trans HB3.out
      have d2 := k2.cell
      have g2 := k2.frozen
      have d1 := k1.cell
      have g1 := k1.frozen
      have K1 := Lib.hid k1; have K2 := Lib.hid k2; have K3 := Lib.hid k3
      have HBw := Lib.hid (HB.out.trans (hb.mono HB.out.size))
      have HBb := Lib.hid (hb.mono HB.out.size)
      have HKo := Lib.hid (KeepsOthers.of_grownBy (grown_below hb none) (fun j o ej => by cases ej))
      clear k1 k2 k3 hb c1 c2 f1 f2
      gi_wp2_with fail
      refine ⟨trivial, (by intro _; omega), ?_⟩
      refine (CallsIn.inRound l (callsIn_wide.2 (HCp.out _))).mono ?_
      rintro e w3 ⟨rfl, rfl⟩
      by_cases hz : Lib.compareBytes x p1 = 0
      · have HN := Lib.hid (HSn.out (by rw [HSl.out, if_neg (by simpa using hz)]))
        rw [hz]
        clear hz
        gi_wp2
        refine ⟨(HKo.out.trans (KeepsOthers.setCell _ _ _)).from _, ⟨HBb.out.setCell (p := ⟨w.heap.size + 1, 0, none⟩) (by simp) _, ?_⟩, ⟨p2, by rw [List.map_append]; exact HN.out, K1.out.other (by omega) _, K2.out.set _, K3.out.other (by omega) _⟩, HBw.out.setCell (p := ⟨w.heap.size + 1, 0, none⟩) (by simp) _⟩
        exact (K3.out.other (by omega) _).trans HB3.out.symm
      · have HS := Lib.hid (show stopL (d :: r) x = some (Lib.compareBytes x p1) by rw [HSl.out, if_pos hz])
        have hne : (Lib.compareBytes x p1 != 0) = true := by rw [bne_iff_ne]; exact hz
        generalize Lib.compareBytes x p1 = v at *
        clear hz
        gi_wp2
        exact ⟨((HKo.out.trans (KeepsOthers.setCell _ _ _)).trans (KeepsOthers.setCell _ _ _)).from _, ⟨rfl, pre, ⟨x, hx⟩, d :: r, v, rfl, HCo.out, HS.out, (K1.out.other (by omega) _).set _⟩, (HBw.out.setCell (p := ⟨w.heap.size + 1, 0, none⟩) (by simp) _).setCell (p := ⟨w.heap.size, 0, none⟩) (Nat.le_refl _) _⟩
  case done =>
    rintro D ys W hD hys ⟨⟨rest, hco, hb1, hb2, hb3⟩, hB⟩ hK
    rw [hys] at hco
    have hfin : orderN a b = if rest = [] then 0 else -1 := by
      have := ordL_cont (partsL a) [] b rest hco
      rw [List.append_nil] at this
      exact this
    have HF := Lib.hid hfin
    have X1 := Lib.hid hb1
    have HB := Lib.hid hB
    have HK := Lib.hid hK
    have HD := Lib.hid hD
    have c1 := hb1.cell
    have f1 := hb1.frozen
    have c2 := hb2.cell
    clear hb1 hb2 hb3 hB hK hD hfin hco hys b1 b2 b3 hB0
    cases rest with
    | nil =>
      gi_wp2
      have k1 : Boxed (W.setCell ⟨w.heap.size, 0, none⟩ (.int .i64 0)) w.heap.size 3 (.int .i64 0) := X1.out.set _
      have hB4 : Below w.heap.size w (W.setCell ⟨w.heap.size, 0, none⟩ (.int .i64 0)) := HB.out.setCell (p := ⟨w.heap.size, 0, none⟩) (Nat.le_refl _) _
      have hK' := (KeepsOthers.setCell W ⟨w.heap.size, 0, none⟩ (.int .i64 0)).same D _ HK.out rfl
      refine ⟨by simp, .inl ⟨_, _, rfl, run_takeDeferred hK', ?_⟩⟩
      have hD0 := HD.out
      simp only [World.size_alloc] at hD0
      have hc1 := cell_kept k1.cell (grownBy_putObj' _ D (.deferred none)) (fun r e => by cases e; exact ⟨_, hK', rfl⟩)
      refine ⟨.int .i64 (orderN a b), ?_, rfl, hB4.trans (belowK_b (w := w) (Nat.le_refl _) _ D _ _ (by omega) hK' rfl rfl)⟩
      have hF := HF.out
      simp only [if_true] at hF
      simp [results, Try.f43, go_sem, hc1, hF]
    | cons d r =>
      have hdr : (d :: r).toArray ≠ #[] := by simp
      gi_wp2
      have k1 : Boxed (W.setCell ⟨w.heap.size, 0, none⟩ (.int .i64 (-1))) w.heap.size 3 (.int .i64 (-1)) := X1.out.set _
      have hB4 : Below w.heap.size w (W.setCell ⟨w.heap.size, 0, none⟩ (.int .i64 (-1))) := HB.out.setCell (p := ⟨w.heap.size, 0, none⟩) (Nat.le_refl _) _
      have hK' := (KeepsOthers.setCell W ⟨w.heap.size, 0, none⟩ (.int .i64 (-1))).same D _ HK.out rfl
      refine ⟨by simp, .inl ⟨_, _, rfl, run_takeDeferred hK', ?_⟩⟩
      have hD0 := HD.out
      simp only [World.size_alloc] at hD0
      have hc1 := cell_kept k1.cell (grownBy_putObj' _ D (.deferred none)) (fun r e => by cases e; exact ⟨_, hK', rfl⟩)
      refine ⟨.int .i64 (orderN a b), ?_, rfl, hB4.trans (belowK_b (w := w) (Nat.le_refl _) _ D _ _ (by omega) hK' rfl rfl)⟩
      have hF : orderN a b = -1 := HF.out.trans (if_neg (by simp))
      simp [results, Try.f43, go_sem, hc1, hF]
  case stop =>
    rintro D c pre W hD hpre ⟨⟨rfl, ini, last, rest, v, rfl, hco, hs, hb1⟩, hB⟩ hK
    have hfin : orderN a b = v := by
      obtain ⟨L, hL⟩ := hpre
      unfold orderN
      rw [← hL]
      simp only [List.map_append, List.map_cons, List.map_nil, List.append_assoc, List.cons_append, List.nil_append]
      exact ordL_stop hco hs
    gi_wp2
    refine ⟨by simp, .inl ⟨_, _, rfl, run_takeDeferred hK, ?_⟩⟩
    simp only [World.size_alloc] at hD
    have hc1 := cell_kept hb1.cell (grownBy_putObj' _ D (.deferred none)) (fun r e => by cases e; exact ⟨_, hK, rfl⟩)
    refine ⟨.int .i64 (orderN a b), ?_, rfl, hB.trans (belowK_b (w := w) (Nat.le_refl _) _ D _ _ (by omega) hK rfl rfl)⟩
    simp [results, Try.f43, go_sem, hc1, hfin]

/-- name.order, at any strings. -/
theorem order_calls (a b : List UInt8) (w : World) (ha : a.length ≤ 1000000) (hb : b.length ≤ 1000000) :
    Calls Try.prog 43 #[str a, str b] w fun e W' => e = .returned (.int .i64 (orderN a b)) ∧ Below w.heap.size w W' :=
  (callsIn_wide (n := 3)).1 (order_in 3 (by omega) a b w ha hb)
end Go.Proofs.Ytdaalpiiagmdfaa
