/-
  ROWS OF REFERENCES, and the contract of slots' Refs.
-/
import Derived.Test.YtaeppclimafikaaSlotsD
namespace Go.Proofs.Ytaeppclimafikaa
open Go.RowKit

abbrev Rf := Int × Int
def cellsR (l : List Rf) : List Value := l.flatMap fun e => [.int .i64 e.1, .int .i64 e.2]
theorem cellsR_append (l m : List Rf) : cellsR (l ++ m) = cellsR l ++ cellsR m := List.flatMap_append
theorem cellsR_len : ∀ l : List Rf, (cellsR l).length = l.length * 2
  | [] => rfl
  | k :: l => by
    show ([Value.int .i64 k.1, .int .i64 k.2] ++ cellsR l).length = _
    rw [List.length_append, cellsR_len l, List.length_cons (a := k)]; show 2 + _ = _; omega
theorem cellsR_one (l : List Rf) : ∀ u ∈ cellsR l, u.oneCell' = true := by
  intro u hu
  obtain ⟨k, _, hk⟩ := List.mem_flatMap.1 hu
  simp only [List.mem_cons, List.not_mem_nil, or_false] at hk
  rcases hk with rfl | rfl <;> rfl
def rq (l : List Rf) (i : Nat) : Rf := l.getD i (0, 0)
theorem cellsR_get : ∀ (l : List Rf) (j : Nat), j < l.length → (cellsR l)[j * 2]? = some (.int .i64 (rq l j).1) ∧ (cellsR l)[j * 2 + 1]? = some (.int .i64 (rq l j).2)
  | [], j, h => by cases h
  | k :: l, 0, _ => ⟨rfl, rfl⟩
  | k :: l, j + 1, h => by
    have ih := cellsR_get l j (by simpa using h)
    have e : ∀ r, (cellsR (k :: l))[(j + 1) * 2 + r]? = (cellsR l)[j * 2 + r]? := fun r => by
      show ([Value.int .i64 k.1, .int .i64 k.2] ++ cellsR l)[_]? = _
      rw [List.getElem?_append_right (by show 2 ≤ _; omega)]
      congr 1
      show (j + 1) * 2 + r - 2 = _
      omega
    have e0 := e 0
    rw [Nat.add_zero, Nat.add_zero] at e0
    rw [e0, e]
    exact ih
/-- THE VALUE v IS A ROW OF REFERENCES, in a block from B on. -/
def RV (w : World) (B : Nat) (v : Value) (l : List Rf) : Prop := w.ownsRow B 26 2 v l.length (cellsR l)
theorem row_lt {w : World} {B sz n : Nat} {ty : TypeId} {v : Value} {xs : List Value} (h : w.ownsRow B ty sz v n xs) : ∀ k, v.ownBlock = some k → B ≤ k ∧ k < w.heap.size := by
  obtain ⟨_, ⟨rfl, _⟩ | ⟨g, cap, cur, rfl, hb, hg, _⟩⟩ := h
  · intro k hk; cases hk
  · intro k hk; cases hk; exact ⟨hb, (Array.getElem?_eq_some_iff.1 hg).1⟩
theorem row_keep {w w' : World} {B sz n : Nat} {ty : TypeId} {v : Value} {xs : List Value} (h : w.ownsRow B ty sz v n xs) (e : ∀ k, v.ownBlock = some k → w'.heap[k]? = w.heap[k]?) : w'.ownsRow B ty sz v n xs := by
  obtain ⟨h1, h2 | ⟨g, cap, cur, rfl, hb, hg, hr⟩⟩ := h
  · exact ⟨h1, .inl h2⟩
  · exact ⟨h1, .inr ⟨g, cap, cur, rfl, hb, (e g rfl).trans hg, hr⟩⟩
theorem row_below {w w' : World} {B sz n : Nat} {ty : TypeId} {v : Value} {xs : List Value} (h : w.ownsRow B ty sz v n xs) (hb : Below w.heap.size w w') : w'.ownsRow B ty sz v n xs := row_keep h fun k hk => hb.block k (row_lt h k hk).2
theorem row_weak {w : World} {B C sz n : Nat} {ty : TypeId} {v : Value} {xs : List Value} (h : w.ownsRow B ty sz v n xs) (hc : C ≤ B) : w.ownsRow C ty sz v n xs := by
  obtain ⟨h1, h2 | ⟨g, cap, cur, rfl, hb, hr⟩⟩ := h
  · exact ⟨h1, .inl h2⟩
  · exact ⟨h1, .inr ⟨g, cap, cur, rfl, Nat.le_trans hc hb, hr⟩⟩
theorem row_shape {w : World} {B sz n : Nat} {ty : TypeId} {v : Value} {xs : List Value} (h : w.ownsRow B ty sz v n xs) : ∃ a c, v = .slice a n c := by
  obtain ⟨_, ⟨rfl, rfl⟩ | ⟨g, cap, cur, rfl, _⟩⟩ := h
  · exact ⟨_, _, rfl⟩
  · exact ⟨_, _, rfl⟩
theorem row_get {w : World} {B sz n : Nat} {ty : TypeId} {v : Value} {xs : List Value} (h : w.ownsRow B ty sz v n xs) (h0 : 0 < n) : ∃ g cap, v = .slice (some ⟨g, 0, none⟩) n cap ∧ n ≤ cap ∧ B ≤ g ∧ ∀ j, j < n * sz → w.cell? ⟨g, j, none⟩ = xs[j]? := by
  have h' := h
  obtain ⟨_, ⟨rfl, rfl⟩ | ⟨g, cap, cur, rfl, hb, hg, hn, hm, hs, ht⟩⟩ := h
  · cases h0
  · exact ⟨g, cap, rfl, hn, hb, fun j hj => by
      have h1 : w.cell? ⟨g, j, none⟩ = cur[j]? := by simp [World.cell?, hg]
      rw [h1, ← ht, List.getElem?_take_of_lt hj, Array.getElem?_toList]⟩
theorem RV.get {w : World} {B : Nat} {v : Value} {l : List Rf} (h : RV w B v l) {i : Nat} (hi : i < l.length) : ∃ g cap, v = .slice (some ⟨g, 0, none⟩) l.length cap ∧ l.length ≤ cap ∧ B ≤ g ∧ w.cell? ⟨g, i * 2, none⟩ = some (.int .i64 (rq l i).1) ∧ w.cell? ⟨g, i * 2 + 1, none⟩ = some (.int .i64 (rq l i).2) := by
  obtain ⟨g, cap, e, hc, hb, hx⟩ := row_get h (by omega)
  obtain ⟨d0, d1⟩ := cellsR_get l i hi
  exact ⟨g, cap, e, hc, hb, (hx _ (by omega)).trans d0, (hx _ (by omega)).trans d1⟩
theorem RV.below {w w' : World} {B : Nat} {v : Value} {l : List Rf} (h : RV w B v l) (hb : Below w.heap.size w w') : RV w' B v l := row_below h hb
/-- The live references among the first m places. -/
def refsU (S : Tb) (m : Nat) : List Rf := (pl m S.tk).map fun (p : Nat) => ((p : Int), (S.life p : Int))
theorem refsU_succ (S : Tb) (m : Nat) : refsU S (m + 1) = if S.tk m = true then refsU S m ++ [((m : Int), (S.life m : Int))] else refsU S m := by
  unfold refsU
  rw [pl_succ]
  by_cases h : S.tk m = true <;> simp [h]
theorem refsU_len (S : Tb) (m : Nat) : (refsU S m).length = cnt m S.tk := by unfold refsU cnt; simp
theorem info_ref : (Try.prog.info? 26).map (fun i => (i.zero, i.size, i.bytes)) = some (some (.agg #[.int .i64 0, .int .i64 0]), 2, 16) := by kernel_rfl
theorem make_refs (c : Nat) (hc : c ≤ 1024) (w : World) : ∃ w', (Instr.makeSlice 44 (.int .i64 0) (.int .i64 (c : Int))).run Try.prog w = .ok (.slice (some ⟨w.heap.size, 0, none⟩) 0 c) w' ∧ RV w' w.heap.size (.slice (some ⟨w.heap.size, 0, none⟩) 0 c) [] ∧ Below w.heap.size w w' := by
  obtain ⟨i0, hi, hz0, hz1, hz2⟩ := info_parts info_ref
  obtain ⟨w', hr, h2, h3⟩ := run_make_own (P := Try.prog) w w.heap.size 44 26 i0 _ 2 Try.underlying44 hi hz0 hz1 .i64 .i64 c (by rw [hz2]; omega) (by unfold maxLen; omega) (Nat.le_refl _)
  exact ⟨w', hr, h2, ⟨h3.os, h3.tape, h3.output, h3.size, fun k hk => h3.block k hk (by simp)⟩⟩
theorem cells2_new (w : World) (a b : Value) (ty : TypeId) : ∀ j u, [a, b][j]? = some u → (w.alloc (.cells #[a, b] ty)).cell? ((⟨w.heap.size, 0, none⟩ : Addr).add j) = some u := by
  intro j u hj
  rw [Addr.add_lit, Nat.zero_add]
  have hh : (w.alloc (.cells #[a, b] ty)).heap[w.heap.size]? = some (.cells #[a, b] ty) := World.alloc_heap_new w _
  rw [cell_of_row _ _ j _ _ (0, 0) hh, ← Array.getElem?_toList]
  exact hj
set_option maxRecDepth 100000 in
set_option maxHeartbeats 4000000 in
theorem refs_calls {w : World} {q g n k : Nat} {S : Tb} (h : TA w q g n k S) :
    Calls Try.prog 21 #[.pointer (some ⟨q, 0, none⟩)] w fun e w' => ∃ v, e = .returned v ∧ RV w' w.heap.size v (refsU S n) ∧ Below w.heap.size w w' := by
  obtain ⟨i0, hi, hz0, hz1, hz2⟩ := info_parts info_ref
  obtain ⟨nx, f, ht⟩ := h.ex
  obtain ⟨c0, -, -, c3, -⟩ := ownS_cells ht.own
  have HI := Lib.hid (is_calls ht.own)
  have hn := ht.lim.1
  have hct : cnt n S.tk ≤ n := cnt_le _ _
  obtain ⟨w1, hmk, hrv, hb1⟩ := make_refs (cnt n S.tk) (by omega) w
  have HT := Lib.hid ht
  have HN := Lib.hid hn
  have HR1 := Lib.hid hrv; have HB1 := Lib.hid hb1
  have t1 := ht.below hb1
  obtain ⟨d0, -, -, d3, -⟩ := ownS_cells t1.own
  have HIi := Lib.hid (And.intro hi (And.intro hz0 (And.intro hz1 hz2)))
  obtain ⟨ct, hct2⟩ : ∃ ct, cnt n S.tk = ct := ⟨_, rfl⟩
  have HCt := Lib.hid hct2
  rw [hct2] at c3 d3 hmk
  clear h ht hrv hb1 t1 hn hct hi hz0 hz1 hz2 hct2
  go_enter Try.func21, Try.ntmps21
  go_wp2_with fail
  go_step3
  go_upto_region 4 with (first | (go_at_call 35; refine HI.out.mono ?_; rintro e w' ⟨rfl, rfl⟩) | fail)
  go_step3
  go_upto_block 0 with fail
  go_cut [3] (fun s3 wx => RV wx w.heap.size s3 (refsU S n) ∧ Below w.heap.size w wx)
  case first =>
    go_wp2_with fail
    go_loopw [3, 19] (fun s3 s19 wr => ∃ i : Nat, i ≤ n ∧ s19 = .int .i64 (i : Int) ∧ RV wr w.heap.size s3 (refsU S i) ∧ Below w.heap.size w wr) (fun _ s19 _ => n - (intOf s19).toNat)
    case atStart => exact ⟨0, Nat.zero_le _, rfl, by have := HR1.out; rw [HCt.out] at this; exact this, HB1.out⟩
    case round =>
      obtain ⟨i, hi, rfl, hr, hb⟩ := hrel
      obtain ⟨va, vc, rfl⟩ := row_shape hr
      have HR := Lib.hid hr; have HB := Lib.hid hb
      rw [refsU_len]
      clear HR1 HB1 hmk c0 c3 d0 d3 hr
      by_cases hlt : i < n
      · have t1 := HT.out.below hb
        obtain ⟨d0, -, -, d3, -⟩ := ownS_cells t1.own
        rw [HCt.out] at d3
        obtain ⟨x0, x1, x2, x3⟩ := t1.row.cell i hlt
        have hpos := t1.ok.pos i hlt
        have hi2 : (i : Int) < (n : Int) := by omega
        have hn := HN.out
        have hwi : IntKind.i64.wrap ((i : Int) + 1) = (i : Int) + 1 := by rw [IntKind.wrap_i64]; omega
        have hql := t1.lt.1
        have al := fun o => (Below.refl wr.heap.size wr).alloc (Nat.le_refl _) o
        have HAl := Lib.hid al
        obtain ⟨P, hP⟩ : ∃ P, lpN S i = P := ⟨_, rfl⟩
        obtain ⟨L, hL⟩ : ∃ L, S.life i = L := ⟨_, rfl⟩
        rw [hP] at x0
        rw [hL] at x1
        obtain ⟨T, hT⟩ : ∃ T, S.tk i = T := ⟨_, rfl⟩
        rw [hT] at x2 hpos
        have hsu := refsU_succ S i
        rw [hT, hL] at hsu
        have HX := Lib.hid (And.intro hP hL)
        have HSu := Lib.hid hsu
        have HPs := Lib.hid hpos
        have e0 : (wr.alloc (.cells #[.int .i64 P, .int .i64 (L : Int), .bool T, .int .i64 (nx i)] 80)).cell? ⟨q, 3, none⟩ = some (.int .i64 (ct : Int)) := (cell_blk (Below.heap_alloc _ _ _ hql) 3).trans d3
        clear hb t1 al hP hL hT hsu hpos d3
        by_cases hfull : cnt i S.tk = ct
        · have hf1 : ((cnt i S.tk : Int) == (ct : Int)) = true := by simp [hfull]
          have HFu := Lib.hid hfull
          clear hfull
          go_wp2_with fail
          go_meet
          have e : refsU S n = refsU S i := by unfold refsU; rw [pl_full hi _ (HFu.out.trans HCt.out.symm)]
          rw [e]
          have hr := HR.out.below (HAl.out (.cells #[.int .i64 P, .int .i64 (L : Int), .bool T, .int .i64 (nx i)] 80))
          rw [refsU_len] at hr
          exact ⟨hr, HB.out.alloc HB.out.size _⟩
        · have hf1 : ((cnt i S.tk : Int) == (ct : Int)) = false := by rw [beq_eq_false_iff_ne]; omega
          clear hfull
          cases T with
          | false =>
            go_wp2_with fail
            go_roundw
            case rel =>
              have hr := HR.out.below (HAl.out (.cells #[.int .i64 P, .int .i64 (L : Int), .bool false, .int .i64 (nx i)] 80))
              rw [refsU_len] at hr
              have e := HSu.out
              rw [if_neg (by decide)] at e
              rw [← e] at hr
              exact ⟨i + 1, hlt, by go_num, hr, HB.out.alloc HB.out.size _⟩
            case measure => simp [intOf]; omega
          | true =>
            have hr0 := HR.out
            rw [refsU_len] at hr0
            have HR0 := Lib.hid hr0
            have hcl : cnt i S.tk ≤ i := cnt_le _ _
            obtain ⟨m, hm⟩ : ∃ m, cnt i S.tk = m := ⟨_, rfl⟩
            have HM := Lib.hid hm
            rw [hm] at HR0 hcl hf1 ⊢
            obtain ⟨hi0, hz0, hz1, hz2⟩ := HIi.out
            have HI0 := Lib.hid hi0; have HZ0 := Lib.hid hz0; have HZ1 := Lib.hid hz1; have HZ2 := Lib.hid hz2
            have hsz := HB.out.size
            have HR1 := Lib.hid (show ((wr.alloc (.cells #[.int .i64 P, .int .i64 (L : Int), .bool true, .int .i64 (nx i)] 80)).alloc (.cells #[.int .i64 P, .int .i64 (L : Int)] 26)).ownsRow w.heap.size 26 2 (.slice va m vc) m (cellsR (refsU S i)) by
              have h2 := row_below hr0 (((HAl.out (.cells #[.int .i64 P, .int .i64 (L : Int), .bool true, .int .i64 (nx i)] 80)).alloc (by simp) (.cells #[.int .i64 P, .int .i64 (L : Int)] 26)))
              rw [refsU_len, hm] at h2
              exact h2)
            clear hr0 hm hi0 hz0 hz1 hz2
            go_wp2_with (at_builtin; refine wpList_append_own _ rfl _ _ 44 rfl w.heap.size 26 i0 (.agg #[.int .i64 0, .int .i64 0]) 2 16 Try.underlying44 HI0.out HZ0.out HZ1.out HZ2.out rfl (by decide) _ _ _ rfl HR1.out ⟨wr.heap.size + 1, 0, none⟩ 1 1 [.int .i64 P, .int .i64 (L : Int)] rfl rfl (by have := cells2_new (wr.alloc (.cells #[.int .i64 P, .int .i64 (L : Int), .bool true, .int .i64 (nx i)] 80)) (.int .i64 P) (.int .i64 (L : Int)) 26; rw [World.size_alloc] at this; exact this) (cellsR_one [(P, (L : Int))]) (by unfold maxLen; omega) (by omega) (by simp; omega) ?_; intro v2 w2 hown2 hgr2 _; have HO2 := Lib.hid hown2; have HB2 := Lib.hid (((HB.out.alloc hsz _).alloc (by simp; omega) _).grown hgr2 (by simp; omega) (fun k hk => (row_lt HR1.out k hk).1)); clear hown2 hgr2)
            obtain ⟨va2, vc2, rfl⟩ := row_shape HO2.out
            go_roundw
            case rel =>
              have e := HSu.out
              rw [if_pos rfl] at e
              have hP := HX.out.1
              have hL1 := HPs.out rfl
              rw [HX.out.2] at hL1
              unfold lpN at hP
              rw [HX.out.2, if_neg (by omega)] at hP
              subst hP
              refine ⟨i + 1, hlt, by go_num, ?_, HB2.out⟩
              have h2 := HO2.out
              show World.ownsRow _ _ _ _ _ (refsU S (i + 1)).length (cellsR (refsU S (i + 1)))
              rw [e, cellsR_append, List.length_append, refsU_len, HM.out]
              exact h2
            case measure =>
              simp only [intOf]
              omega
      · obtain rfl : i = n := by omega
        go_wp2_with fail
        go_meet
        have hr := HR.out
        rw [refsU_len] at hr
        exact ⟨hr, HB.out⟩
  case rest =>
    obtain ⟨hr, hb⟩ := hcut
    have HR := Lib.hid hr; have HB := Lib.hid hb
    clear hr hb
    go_wp2_with fail
    simp only [Exit.noGoto]
    go_ret
    exact ⟨_, rfl, HR.out, HB.out⟩
end Go.Proofs.Ytaeppclimafikaa
