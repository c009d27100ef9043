/-
  CONTRACT of the law's step.
-/
import Derived.Test.YtaeppclimafikaaSlotsG
import Derived.Deep.RegionLaw
namespace Go.Proofs.Ytaeppclimafikaa
open Go.RowKit

section
variable {w : World} {q g n k : Nat} {S : Tb}
theorem TStep.same {w' : World} (h : TA w q g n k S) (hb : Below w.heap.size w w') : TStep w w' q g n k S := ⟨h.below hb, Off.of_below hb⟩
theorem TA.away {w : World} {q g n k : Nat} {S : Tb} (h : TA w q g n k S) {b : Nat} (h1 : b ≠ q) (h2 : b ≠ g) (i : Nat) (v : Value) : TA (w.setCell ⟨b, i, none⟩ v) q g n k S := by
  obtain ⟨nx, f, h⟩ := h.ex
  exact ⟨nx, f, h.keep (heap_setO _ _ _ (Ne.symm h1)) (heap_setO _ _ _ (Ne.symm h2))⟩
theorem take_calls (h : TA w q g n k S) :
    Calls Try.prog 23 #[.pointer (some ⟨q, 0, none⟩)] w fun e w' => e = .returned (.tuple #[.agg #[.int .i64 ((takeF S).1.1 : Int), .int .i64 ((takeF S).1.2 : Int)], .int .i64 ((takeF S).2.1 : Int)]) ∧ TStep w w' q g n k (takeF S).2.2 := by
  cases hf : S.free with
  | nil =>
    rw [takeF_nil hf]
    exact (take_no h hf).mono fun e w' hh => ⟨hh.1, TStep.same h hh.2⟩
  | cons p r =>
    rw [takeF_cons hf]
    exact take_yes h hf
theorem TStep.lt {w' : World} {S' : Tb} (h : TStep w w' q g n k S') : w.heap.size ≤ w'.heap.size := h.off.size
end
/-- HOW step STANDS when it gives: its result's box b4, the reference's box b10. -/
structure StAt (w W : World) (q g n k : Nat) (S : Tb) (b4 b10 p L A B : Nat) : Prop where
  tab : TA W q g n k S
  bx4 : W.heap[b4]? = some (.cells #[.int .i64 (A : Int), .int .i64 (B : Int)] 26 (0, 0))
  bx10 : W.heap[b10]? = some (.cells #[.int .i64 (p : Int), .int .i64 (L : Int)] 26 (0, 0))
  ne : b4 ≠ b10 ∧ b4 ≠ q ∧ b4 ≠ g ∧ b10 ≠ q ∧ b10 ≠ g ∧ w.heap.size ≤ b4 ∧ w.heap.size ≤ b10
  off : Off (Q2 q g) w W
section
variable {w W : World} {q g n k : Nat} {S : Tb} {b4 b10 p L A B : Nat}
theorem StAt.drew (h : StAt w W q g n k S b4 b10 p L A B) : StAt w W.drew q g n k S b4 b10 p L A B :=
  ⟨h.tab.below ⟨rfl, rfl, rfl, Nat.le_refl _, fun _ _ => rfl⟩, h.bx4, h.bx10, h.ne, h.off.drew⟩
theorem StAt.res (h : StAt w W q g n k S b4 b10 p L A B) : W.cell? ⟨b4, 0, none⟩ = some (.int .i64 (A : Int)) ∧ W.cell? ⟨b4, 1, none⟩ = some (.int .i64 (B : Int)) ∧ ∀ i, W.frozen? ⟨b4, i, none⟩ = false := ⟨by simp [World.cell?, h.bx4], by simp [World.cell?, h.bx4], fun i => by simp [World.frozen?, h.bx4]⟩
theorem StAt.ref (h : StAt w W q g n k S b4 b10 p L A B) : W.cell? ⟨b10, 0, none⟩ = some (.int .i64 (p : Int)) ∧ W.cell? ⟨b10, 1, none⟩ = some (.int .i64 (L : Int)) := ⟨by simp [World.cell?, h.bx10], by simp [World.cell?, h.bx10]⟩
theorem StAt.put (h : StAt w W q g n k S b4 b10 p L A B) (C D : Nat) : StAt w ((W.setCell ⟨b4, 0, none⟩ (.int .i64 (C : Int))).setCell ⟨b4, 1, none⟩ (.int .i64 (D : Int))) q g n k S b4 b10 p L C D := by
  refine ⟨(h.tab.away h.ne.2.1 h.ne.2.2.1 _ _).away h.ne.2.1 h.ne.2.2.1 _ _, ?_, (heap_setO _ _ _ (Ne.symm h.ne.1)).trans ((heap_setO _ _ _ (Ne.symm h.ne.1)).trans h.bx10), h.ne, (h.off.set (.inr h.ne.2.2.2.2.2.1) _ _).set (.inr h.ne.2.2.2.2.2.1) _ _⟩
  have := heap_setC (heap_setC h.bx4 0 (.int .i64 (C : Int))) 1 (.int .i64 (D : Int))
  simpa using this
theorem StAt.give (h : StAt w W q g n k S b4 b10 p L A B) {W' : World} {S' : Tb} (h1 : TA W' q g n k S') (h2 : Off (Q2 q g) W W') : StAt w W' q g n k S' b4 b10 p L A B :=
  ⟨h1, (h2.block _ (Array.getElem?_eq_some_iff.1 h.bx4).1 (by rintro (e | e); exact h.ne.2.1 e; exact h.ne.2.2.1 e)).trans h.bx4, (h2.block _ (Array.getElem?_eq_some_iff.1 h.bx10).1 (by rintro (e | e); exact h.ne.2.2.2.1 e; exact h.ne.2.2.2.2.1 e)).trans h.bx10, h.ne, h.off.to h2⟩
end
section
variable {w : World} {q g n k : Nat} {S : Tb}
set_option maxRecDepth 100000 in
set_option maxHeartbeats 4000000 in
theorem step_calls (h : TA w q g n k S) (x : Nat) (hx : x < 256) :
    Calls Try.prog 17 #[.pointer (some ⟨q, 0, none⟩), .int .u8 (x : Int)] w fun e w' => e = .returned (.tuple #[.agg #[.int .i64 ((stepF n k S x).1.1 : Int), .int .i64 ((stepF n k S x).1.2 : Int)], .bool (stepF n k S x).2.1, .int .i64 ((stepF n k S x).2.2.1 : Int)]) ∧ TStep w w' q g n k (stepF n k S x).2.2.2 := by
  have mixed : Try.prog.follows .mixedOrders = true := by kernel_rfl
  have hb1 := below_ref w 0 0
  have h1 := h.below hb1
  have hql := h.lt
  have HH := Lib.hid h
  have HRf := Lib.hid (refs_calls h1)
  have hct : cnt n S.tk ≤ n := cnt_le _ _
  have hlim := h.lim.1
  obtain ⟨m, hm⟩ : ∃ m, cnt n S.tk = m := ⟨_, rfl⟩
  have HM := Lib.hid hm
  rw [hm] at hct
  have hx2 : IntKind.u8.wrap ((x : Int).tmod 2) = ((x % 2 : Nat) : Int) := by
    rw [Int.tmod_eq_emod_of_nonneg (by omega), show (x : Int) % 2 = ((x % 2 : Nat) : Int) by omega]
    rw [IntKind.wrap_u8]; omega
  have hx2' : (x : Int).tmod 2 = ((x % 2 : Nat) : Int) := by
    rw [Int.tmod_eq_emod_of_nonneg (by omega)]; omega
  obtain ⟨z, hz⟩ : ∃ z, x % 2 = z := ⟨_, rfl⟩
  have HZ := Lib.hid hz
  rw [hz] at hx2 hx2'
  clear h h1 hb1 hm hz
  by_cases ht : z = 0 ∨ m = 0
  · rw [stepF_take (by rw [HZ.out, HM.out]; exact ht)]
    have HT := Lib.hid (fun W (hW : TA W q g n k S) => take_calls hW)
    obtain ⟨P, hP⟩ : ∃ P, (takeF S).1.1 = P := ⟨_, rfl⟩
    obtain ⟨L, hL⟩ : ∃ L, (takeF S).1.2 = L := ⟨_, rfl⟩
    obtain ⟨E, hE⟩ : ∃ E, (takeF S).2.1 = E := ⟨_, rfl⟩
    rw [hP, hL, hE] at HT
    dsimp only
    rw [hP, hL, hE]
    clear hP hL hE hct
    have hg : z = 0 ∨ (¬ z = 0 ∧ m = 0) := by
      by_cases c : z = 0
      · exact .inl c
      · exact .inr ⟨c, by rcases ht with e | e; exact absurd e c; exact e⟩
    rcases hg with hz0 | ⟨hz0, hm0⟩
    · have hd : ((z : Int) == 0) = true := by simp [hz0]
      clear ht hz0
      go_enter Try.func17, Try.ntmps17
      go_upto_region 2 with (go_at_call 21; refine HRf.out.mono ?_; rintro e w2 ⟨v, rfl, hr, hb⟩; obtain ⟨va, vc, rfl⟩ := row_shape hr; have HR := Lib.hid hr; have HB := Lib.hid hb; clear hr hb)
      simp only [refsU_len, HM.out] at HR ⊢
      go_wp2_with (first
        | (go_at_call 23; refine (HT.out _ (HH.out.below ((below_ref w 0 0).trans (HB.out.mono (by simp))))).mono ?_; rintro e w3 ⟨rfl, t3, o3⟩
           have bx : (w3.alloc (.cells #[.int .i64 (P : Int), .int .i64 (L : Int)] 26)).heap[w.heap.size]? = some (.cells #[.int .i64 0, .int .i64 0] 26 (0, 0)) := by
             have s2 := HB.out.size
             rw [World.size_alloc] at s2
             exact (Below.heap_alloc _ _ _ (by have := o3.size; omega)).trans ((o3.block _ (by omega) (by rintro (e | e) <;> omega)).trans ((HB.out.block _ (by simp)).trans (World.alloc_heap_new w _)))
           have r0 : (w3.alloc (.cells #[.int .i64 (P : Int), .int .i64 (L : Int)] 26)).cell? ⟨w.heap.size, 0, none⟩ = some (.int .i64 0) := by simp [World.cell?, bx]
           have r1 : (w3.alloc (.cells #[.int .i64 (P : Int), .int .i64 (L : Int)] 26)).cell? ⟨w.heap.size, 1, none⟩ = some (.int .i64 0) := by simp [World.cell?, bx]
           have rf : ∀ i, (w3.alloc (.cells #[.int .i64 (P : Int), .int .i64 (L : Int)] 26)).frozen? ⟨w.heap.size, i, none⟩ = false := fun i => by simp [World.frozen?, bx]
           have T3 := Lib.hid t3; have O3 := Lib.hid o3; clear t3 o3 bx)
        | fail)
      have nq : w.heap.size ≠ q := by omega
      have ng : w.heap.size ≠ g := by omega
      have hO := (((((Off.of_below (F := Q2 q g) ((below_ref w 0 0).trans (HB.out.mono (by simp)))).to O3.out).alloc (.cells #[.int .i64 (P : Int), .int .i64 (L : Int)] 26))).set (b := w.heap.size) (.inr (Nat.le_refl _)) 0 (.int .i64 (P : Int))).set (b := w.heap.size) (.inr (Nat.le_refl _)) 1 (.int .i64 (L : Int))
      refine bodyPost_ret (v := .tuple #[.agg #[.int .i64 (P : Int), .int .i64 (L : Int)], .bool true, .int .i64 (E : Int)]) (by simp [results, Try.results17, go_sem, r0, r1]) rfl ⟨rfl, ?_, hO⟩
      have hal := T3.out.below ((Below.refl _ w3).alloc (Nat.le_refl _) (.cells #[.int .i64 (P : Int), .int .i64 (L : Int)] 26))
      exact ((hal.away nq ng 0 (.int .i64 (P : Int))).away nq ng 1 (.int .i64 (L : Int)))
    · have hd : ((z : Int) == 0) = false := by rw [beq_eq_false_iff_ne]; omega
      have hd2 : ((m : Int) == 0) = true := by simp [hm0]
      clear ht hz0 hm0
      go_enter Try.func17, Try.ntmps17
      go_upto_region 2 with (go_at_call 21; refine HRf.out.mono ?_; rintro e w2 ⟨v, rfl, hr, hb⟩; obtain ⟨va, vc, rfl⟩ := row_shape hr; have HR := Lib.hid hr; have HB := Lib.hid hb; clear hr hb)
      simp only [refsU_len, HM.out] at HR ⊢
      go_wp2_with (first
        | (go_at_call 23; refine (HT.out _ (HH.out.below ((below_ref w 0 0).trans (HB.out.mono (by simp))))).mono ?_; rintro e w3 ⟨rfl, t3, o3⟩
           have bx : (w3.alloc (.cells #[.int .i64 (P : Int), .int .i64 (L : Int)] 26)).heap[w.heap.size]? = some (.cells #[.int .i64 0, .int .i64 0] 26 (0, 0)) := by
             have s2 := HB.out.size
             rw [World.size_alloc] at s2
             exact (Below.heap_alloc _ _ _ (by have := o3.size; omega)).trans ((o3.block _ (by omega) (by rintro (e | e) <;> omega)).trans ((HB.out.block _ (by simp)).trans (World.alloc_heap_new w _)))
           have r0 : (w3.alloc (.cells #[.int .i64 (P : Int), .int .i64 (L : Int)] 26)).cell? ⟨w.heap.size, 0, none⟩ = some (.int .i64 0) := by simp [World.cell?, bx]
           have r1 : (w3.alloc (.cells #[.int .i64 (P : Int), .int .i64 (L : Int)] 26)).cell? ⟨w.heap.size, 1, none⟩ = some (.int .i64 0) := by simp [World.cell?, bx]
           have rf : ∀ i, (w3.alloc (.cells #[.int .i64 (P : Int), .int .i64 (L : Int)] 26)).frozen? ⟨w.heap.size, i, none⟩ = false := fun i => by simp [World.frozen?, bx]
           have T3 := Lib.hid t3; have O3 := Lib.hid o3; clear t3 o3 bx)
        | fail)
      have nq : w.heap.size ≠ q := by omega
      have ng : w.heap.size ≠ g := by omega
      have hO := (((((Off.of_below (F := Q2 q g) ((below_ref w 0 0).trans (HB.out.mono (by simp)))).to O3.out).alloc (.cells #[.int .i64 (P : Int), .int .i64 (L : Int)] 26))).set (b := w.heap.size) (.inr (Nat.le_refl _)) 0 (.int .i64 (P : Int))).set (b := w.heap.size) (.inr (Nat.le_refl _)) 1 (.int .i64 (L : Int))
      refine bodyPost_ret (v := .tuple #[.agg #[.int .i64 (P : Int), .int .i64 (L : Int)], .bool true, .int .i64 (E : Int)]) (by simp [results, Try.results17, go_sem, r0, r1]) rfl ⟨rfl, ?_, hO⟩
      have hal := T3.out.below ((Below.refl _ w3).alloc (Nat.le_refl _) (.cells #[.int .i64 (P : Int), .int .i64 (L : Int)] 26))
      exact ((hal.away nq ng 0 (.int .i64 (P : Int))).away nq ng 1 (.int .i64 (L : Int)))
  · rw [stepF_give (by rw [HZ.out, HM.out]; exact ht)]
    have hmz : ¬ cnt n S.tk = 0 := by rw [HM.out]; omega
    have hpl := live_place (x / 2) hmz
    have hjl : x / 2 % cnt n S.tk < cnt n S.tk := Nat.mod_lt _ (by omega)
    have hrg := refsU_get S n (x / 2 % cnt n S.tk) hjl
    have hd : ((z : Int) == 0) = false := by rw [beq_eq_false_iff_ne]; omega
    have hd2 : ((m : Int) == 0) = false := by rw [beq_eq_false_iff_ne]; omega
    dsimp only
    obtain ⟨p, hp⟩ : ∃ p, fq (pl n S.tk) (x / 2 % cnt n S.tk) = p := ⟨_, rfl⟩
    rw [hp] at hpl hrg ⊢
    rw [HM.out] at hrg hjl
    obtain ⟨y, hy⟩ : ∃ y, x / 2 = y := ⟨_, rfl⟩
    rw [hy] at hrg hjl
    have hq1 : (x : Int).tdiv 2 = (y : Int) := by rw [Int.tdiv_eq_ediv_of_nonneg (by omega)]; omega
    have hq2 : IntKind.u8.wrap (y : Int) = (y : Int) := by rw [IntKind.wrap_u8]; omega
    have hq3 : IntKind.i64.wrap (y : Int) = (y : Int) := by rw [IntKind.wrap_i64]; omega
    obtain ⟨j, hj⟩ : ∃ j, y % m = j := ⟨_, rfl⟩
    rw [hj] at hrg hjl
    have hq4 : (y : Int).tmod (m : Int) = (j : Int) := by
      rw [Int.tmod_eq_emod_of_nonneg (by omega), ← Int.natCast_emod, hj]
    have hq5 : IntKind.i64.wrap (j : Int) = (j : Int) := by rw [IntKind.wrap_i64]; omega
    have hjm : (j : Int) < (m : Int) := by omega
    have HRg := Lib.hid hrg
    have HG := Lib.hid (fun W (hW : TA W q g n k S) => give_yes hW hpl.1 hpl.2)
    have HJ := Lib.hid hjl
    generalize S.life p = L at *
    clear hp hrg hpl hy hj ht hmz hct
    go_enter Try.func17, Try.ntmps17
    go_upto_region 2 with (go_at_call 21; refine HRf.out.mono ?_; rintro e w2 ⟨v, rfl, hr, hb⟩; obtain ⟨va, vc, rfl⟩ := row_shape hr; have HR := Lib.hid hr; have HB := Lib.hid hb; clear hr hb)
    simp only [refsU_len, HM.out] at HR ⊢
    obtain ⟨g2, cap, e, hcap, hbg, x0, x1⟩ := HR.out.get (i := j) (by rw [refsU_len, HM.out]; exact HJ.out)
    rw [refsU_len, HM.out] at e hcap
    obtain ⟨rfl, rfl⟩ : va = some ⟨g2, 0, none⟩ ∧ vc = cap := by cases e; exact ⟨rfl, rfl⟩
    rw [HRg.out] at x0 x1
    dsimp only at x0 x1
    clear e hbg
    go_upto_region 6 with fail
    have s2 := HB.out.size
    rw [World.size_alloc] at s2
    have h0 : StAt w (w2.alloc (.cells #[.int .i64 (p : Int), .int .i64 (L : Int)] 26)) q g n k S w.heap.size w2.heap.size p L 0 0 :=
      ⟨(HH.out.below ((below_ref w 0 0).trans (HB.out.mono (by simp)))).below ((Below.refl _ w2).alloc (Nat.le_refl _) _), (Below.heap_alloc _ _ _ (by omega)).trans ((HB.out.block _ (by simp)).trans (World.alloc_heap_new w _)), World.alloc_heap_new w2 _, ⟨by omega, by omega, by omega, by omega, by omega, Nat.le_refl _, by omega⟩, (Off.of_below ((below_ref w 0 0).trans (HB.out.mono (by simp)))).alloc _⟩
    have H0 := Lib.hid h0
    obtain ⟨b10, hb10⟩ : ∃ b, w2.heap.size = b := ⟨_, rfl⟩
    obtain ⟨W4, hW4⟩ : ∃ W4, w2.alloc (.cells #[.int .i64 (p : Int), .int .i64 (L : Int)] 26) = W4 := ⟨_, rfl⟩
    rw [hb10, hW4] at H0
    rw [hb10, hW4]
    clear h0 hW4 hb10 x0 x1 HR s2
    have HG' := Lib.hid (fun W (hW : TA W q g n k S) => HG.out W hW)
    clear HG
    obtain ⟨r0, r1, rf⟩ := H0.out.res
    obtain ⟨s0, s1⟩ := H0.out.ref
    have hne := H0.out.ne.1
    go_cut [5, 6] from 37 to 40 (fun s5 s6 wx => s5 = .bool false ∧ s6 = .int .i64 0 ∧ StAt w wx q g n k (giveT k S p) w.heap.size b10 p L p L)
    case first =>
      go_region_law (first
        | (go_simp; go_at_call 24; refine (HG'.out _ (by first | exact H0.out.tab | exact H0.out.drew.tab | exact (H0.out.put p L).tab | exact (H0.out.put p L).drew.tab | exact (H0.out.drew.put p L).tab)).mono ?_; rintro e w5 ⟨rfl, t5, o5⟩; have q5 : StAt w w5 q g n k (giveT k S p) w.heap.size b10 p L 0 0 := (by first | exact H0.out.give t5 o5 | exact H0.out.drew.give t5 o5); obtain ⟨y0, y1, yf⟩ := q5.res; obtain ⟨z0, z1⟩ := q5.ref; have Q5 := Lib.hid (q5.put p L); clear t5 o5 q5)
        | fail)
      all_goals
        simp [Act.put]
        go_wp2_with fail
        go_meet
        exact ⟨rfl, rfl, Q5.out⟩
    case rest =>
      obtain ⟨rfl, rfl, hc⟩ := hcut
      clear r0 r1 rf s0 s1
      obtain ⟨r0, r1, rf⟩ := hc.res
      go_wp2_with fail
      refine bodyPost_ret (v := .tuple #[.agg #[.int .i64 (p : Int), .int .i64 (L : Int)], .bool false, .int .i64 0]) (by simp [results, Try.results17, go_sem, r0, r1]) rfl ⟨rfl, hc.tab, hc.off⟩
end
end Go.Proofs.Ytaeppclimafikaa
