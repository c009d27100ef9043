/-
  CONTRACTS of slots' Clear, and of slices.Equal at two rows that are the same.
-/
import Derived.Test.YtaeppclimafikaaSlotsF
import Derived.Test.YtaeppclimafikaaSlotsQ
namespace Go.Proofs.Ytaeppclimafikaa
open Go.RowKit

theorem refsU_get (S : Tb) (m j : Nat) (h : j < cnt m S.tk) : rq (refsU S m) j = ((fq (pl m S.tk) j : Int), (S.life (fq (pl m S.tk) j) : Int)) := by
  have h' : j < (pl m S.tk).length := h
  unfold rq refsU fq
  rw [List.getD_eq_getElem?_getD, List.getElem?_map, List.getD_eq_getElem?_getD, List.getElem?_eq_getElem h']
  rfl
theorem RV.off {F : Nat → Prop} {w w' : World} {B : Nat} {v : Value} {l : List Rf} (h : RV w B v l) (hb : Off F w w') (hF : ∀ k, F k → k < B) : RV w' B v l :=
  row_keep h fun k hk => hb.block k (row_lt h k hk).2 (fun e => by have := hF k e; have := (row_lt h k hk).1; omega)
theorem NV.off {F : Nat → Prop} {w w' : World} {B : Nat} {v : Value} {l : List Nat} (h : NV w B v l) (hb : Off F w w') (hF : ∀ k, F k → k < B) : NV w' B v l :=
  row_keep h fun k hk => hb.block k (row_lt h k hk).2 (fun e => by have := hF k e; have := (row_lt h k hk).1; omega)
set_option maxRecDepth 100000 in
set_option maxHeartbeats 4000000 in
theorem clear_calls {w : World} {q g n k : Nat} {S : Tb} (h : TA w q g n k S) :
    Calls Try.prog 25 #[.pointer (some ⟨q, 0, none⟩)] w fun e w' => e = .returned (.tuple #[.int .i64 (cnt n S.tk : Int), .int .i64 0]) ∧ TStep w w' q g n k (clrT k S (pl n S.tk)) := by
  have HI := Lib.hid (by obtain ⟨nx, f, ht⟩ := h.ex; exact is_calls ht.own)
  have HRf := Lib.hid (refs_calls h)
  have HH := Lib.hid h
  have hct : cnt n S.tk ≤ n := cnt_le _ _
  have hlim := h.lim.1
  obtain ⟨m, hm⟩ : ∃ m, cnt n S.tk = m := ⟨_, rfl⟩
  have HM := Lib.hid hm
  rw [hm] at hct ⊢
  clear h hm
  go_enter Try.func25, Try.ntmps25
  go_wp2_with (first
    | (go_at_call 35; refine HI.out.mono ?_; rintro e w' ⟨rfl, rfl⟩)
    | (go_at_call 21; refine HRf.out.mono ?_; rintro e w2 ⟨v, rfl, hr, hb⟩; obtain ⟨va, vc, rfl⟩ := row_shape hr; have HR := Lib.hid hr; have HB := Lib.hid hb; clear hr hb)
    | fail)
  simp only [refsU_len, HM.out] at HR ⊢
  go_loopw [14] (fun s14 wr => ∃ j : Nat, j ≤ m ∧ s14 = .int .i64 (j : Int) ∧ RV wr w.heap.size (.slice va m vc) (refsU S n) ∧ TStep w wr q g n k (clrT k S ((pl n S.tk).take j))) (fun s14 _ => m - (intOf s14).toNat)
  case atStart => exact ⟨0, Nat.zero_le _, rfl, HR.out, (HH.out.below HB.out), Off.of_below HB.out⟩
  case round =>
    obtain ⟨j, hj, rfl, hr, ht, ho⟩ := hrel
    have HR1 := Lib.hid hr; have HT1 := Lib.hid ht; have HO1 := Lib.hid ho
    clear HR HB ht ho
    by_cases hlt : j < m
    · have hjc : j < cnt n S.tk := by rw [HM.out]; exact hlt
      have hjl : j < (pl n S.tk).length := hjc
      obtain ⟨g2, cap, e, hcap, hbg, x0, x1⟩ := hr.get (i := j) (by rw [refsU_len]; exact hjc)
      rw [refsU_len, HM.out] at e hcap
      obtain ⟨rfl, rfl⟩ : va = some ⟨g2, 0, none⟩ ∧ vc = cap := by cases e; exact ⟨rfl, rfl⟩
      rw [refsU_get S n j hjc] at x0 x1
      dsimp only at x0 x1
      have hp := pl_mem.1 (fq_mem hjl)
      obtain ⟨p, hpe⟩ : ∃ p, fq (pl n S.tk) j = p := ⟨_, rfl⟩
      have htk : (clrT k S ((pl n S.tk).take j)).tk p = true := by
        rw [clr_tk, if_neg (by rw [← hpe]; exact nodup_take (pl_nodup n S.tk) hjl), ← hpe]
        exact hp.2
      have hsn : giveT k (clrT k S ((pl n S.tk).take j)) p = clrT k S ((pl n S.tk).take (j + 1)) := by
        rw [take_snoc _ _ hjl, clr_snoc, hpe]
      rw [hpe] at x0 x1 hp
      have hgl : g2 < wr.heap.size := (row_lt hr g2 rfl).2
      have hG := fun (x : Obj) => give_yes (HT1.out.below ((Below.refl wr.heap.size wr).alloc (Nat.le_refl _) x)) hp.1 htk
      rw [clr_life, hsn] at hG
      have HG := Lib.hid hG
      have hj1 : (j : Int) < (m : Int) := by omega
      have hwj : IntKind.i64.wrap ((j : Int) + 1) = (j : Int) + 1 := by rw [IntKind.wrap_i64]; omega
      generalize S.life p = L at *
      clear e hbg hp hpe htk hsn hG hr hjc hjl
      go_wp2_with (first
        | (go_at_call 24; refine (HG.out _).mono ?_; rintro e w3 ⟨rfl, t3, o3⟩; have T3 := Lib.hid t3; have O3 := Lib.hid o3; clear t3 o3)
        | fail)
      go_roundw
      case rel =>
        have hb1 := (Below.refl wr.heap.size wr).alloc (Nat.le_refl _) (.cells #[.int .i64 (p : Int), .int .i64 (L : Int)] 26)
        have hql := HH.out.lt
        exact ⟨j + 1, hlt, by go_num, (HR1.out.below hb1).off O3.out (by rintro x (rfl | rfl) <;> omega), T3.out, HO1.out.to ((Off.of_below hb1).to O3.out)⟩
      case measure => simp [intOf]; omega
    · obtain rfl : j = m := by omega
      have e : (pl n S.tk).take j = pl n S.tk := List.take_of_length_le (by show cnt n S.tk ≤ j; rw [HM.out]; exact Nat.le_refl _)
      rw [e] at HT1
      clear e hr
      go_wp2_with fail
      go_ret2
      exact ⟨rfl, HT1.out, HO1.out⟩
set_option maxHeartbeats 1000000 in
theorem equalRs_calls (B C : Nat) (v v' : Value) (l : List Rf) (w : World) (h1 : RV w B v l) (h2 : RV w C v' l) (hn : l.length ≤ 100000) :
    Calls Try.prog 29 #[v, v'] w fun e w' => e = .returned (.bool true) ∧ Below w.heap.size w w' := by
  have mixed : Try.prog.follows .mixedOrders = true := by kernel_rfl
  obtain ⟨a, c, rfl⟩ := row_shape h1
  obtain ⟨a', c', rfl⟩ := row_shape h2
  have H1 := Lib.hid h1; have H2 := Lib.hid h2
  obtain ⟨n, hln⟩ : ∃ n, l.length = n := ⟨_, rfl⟩
  have HN := Lib.hid hln
  rw [hln] at hn ⊢
  clear h1 h2 hln
  go_enter Try.func29, Try.ntmps29
  go_wp2_with fail
  go_loopw [5, 13] (fun s5 s13 wr => ∃ k : Nat, k ≤ n ∧ s13 = .int .i64 (k : Int) ∧ ∃ q, wr = w.drewN q) (fun _ s13 _ => n - (intOf s13).toNat)
  case atStart => exact ⟨0, Nat.zero_le _, rfl, 0, rfl⟩
  case round =>
    obtain ⟨k, hk, rfl, q, rfl⟩ := hrel
    by_cases hlt : k < n
    · have hlt' : (k : Int) < (n : Int) := by omega
      obtain ⟨g1, c1, e1, -, -, x0, x1⟩ := H1.out.get (i := k) (by rw [HN.out]; exact hlt)
      obtain ⟨g2, c2, e2, -, -, y0, y1⟩ := H2.out.get (i := k) (by rw [HN.out]; exact hlt)
      obtain ⟨rfl, rfl⟩ : a = some ⟨g1, 0, none⟩ ∧ c = c1 := by cases e1; exact ⟨rfl, rfl⟩
      obtain ⟨rfl, rfl⟩ : a' = some ⟨g2, 0, none⟩ ∧ c' = c2 := by cases e2; exact ⟨rfl, rfl⟩
      have hNe := fun W => neqR (rq l k).1 (rq l k).2 (rq l k).1 (rq l k).2 W
      have hdd : decide (((rq l k).1, (rq l k).2) = ((rq l k).1, (rq l k).2)) = true := decide_eq_true rfl
      rw [hdd, Bool.not_true] at hNe
      have hwk : IntKind.i64.wrap ((k : Int) + 1) = (k : Int) + 1 := by rw [IntKind.wrap_i64]; omega
      generalize rq l k = x at *
      clear e1 e2 hdd
      go_wp2_with fail
      go_quiet (fail)
      go_wp2_with fail
      go_roundw
      case rel => exact ⟨k + 1, hlt, by go_num, _, rfl⟩
      case measure => simp [intOf]; omega
    · obtain rfl : k = n := by omega
      go_wp2_with fail
      go_ret
      exact ⟨rfl, below_drN (Below.refl _ w) _⟩
set_option maxHeartbeats 1000000 in
theorem equalNs_calls (B C : Nat) (v v' : Value) (l : List Nat) (w : World) (h1 : NV w B v l) (h2 : NV w C v' l) (hn : l.length ≤ 100000) :
    Calls Try.prog 27 #[v, v'] w fun e w' => e = .returned (.bool true) ∧ Below w.heap.size w w' := by
  have mixed : Try.prog.follows .mixedOrders = true := by kernel_rfl
  obtain ⟨a, c, rfl⟩ := row_shape h1
  obtain ⟨a', c', rfl⟩ := row_shape h2
  have H1 := Lib.hid h1; have H2 := Lib.hid h2
  obtain ⟨n, hln⟩ : ∃ n, l.length = n := ⟨_, rfl⟩
  have HN := Lib.hid hln
  rw [hln] at hn ⊢
  clear h1 h2 hln
  go_enter Try.func27, Try.ntmps27
  go_wp2_with fail
  go_loopw [5, 13] (fun s5 s13 wr => ∃ k : Nat, k ≤ n ∧ s13 = .int .i64 (k : Int) ∧ ∃ q, wr = w.drewN q) (fun _ s13 _ => n - (intOf s13).toNat)
  case atStart => exact ⟨0, Nat.zero_le _, rfl, 0, rfl⟩
  case round =>
    obtain ⟨k, hk, rfl, q, rfl⟩ := hrel
    by_cases hlt : k < n
    · have hlt' : (k : Int) < (n : Int) := by omega
      obtain ⟨g1, c1, e1, -, -, x0⟩ := H1.out.get (i := k) (by rw [HN.out]; exact hlt)
      obtain ⟨g2, c2, e2, -, -, y0⟩ := H2.out.get (i := k) (by rw [HN.out]; exact hlt)
      obtain ⟨rfl, rfl⟩ : a = some ⟨g1, 0, none⟩ ∧ c = c1 := by cases e1; exact ⟨rfl, rfl⟩
      obtain ⟨rfl, rfl⟩ : a' = some ⟨g2, 0, none⟩ ∧ c' = c2 := by cases e2; exact ⟨rfl, rfl⟩
      have hdd : ((fq l k : Int) != (fq l k : Int)) = false := by simp
      have hwk : IntKind.i64.wrap ((k : Int) + 1) = (k : Int) + 1 := by rw [IntKind.wrap_i64]; omega
      generalize (fq l k : Int) = x at *
      clear e1 e2
      go_wp2_with fail
      go_quiet (fail)
      go_wp2_with fail
      go_roundw
      case rel => exact ⟨k + 1, hlt, by go_num, _, rfl⟩
      case measure => simp [intOf]; omega
    · obtain rfl : k = n := by omega
      go_wp2_with fail
      go_ret
      exact ⟨rfl, below_drN (Below.refl _ w) _⟩
end Go.Proofs.Ytaeppclimafikaa
