/-
  CONTRACTS of field.place, its closure, and slices.IndexFunc at fields: where the first field with a tag is; nothing that was there is written.
-/
import Derived.Test.YtlohggdabpfkhaaFieldWrite
namespace Go.Proofs.Ytlohggdabpfkhaa
open Go.RowKit Pl

/-- Where the first field with a tag is, -1 if there is none. -/
def plc (t : Int) : Nat → List Fld → Int
  | _, [] => -1
  | k, p :: L => if p.1 = t then (k : Int) else plc t (k + 1) L
def placeF (L : List Fld) (t : Int) : Int := plc t 0 L
theorem plc_step (t : Int) (L : List Fld) (k : Nat) (hk : k < L.length) : plc t k (L.drop k) = if ft L k = t then (k : Int) else plc t (k + 1) (L.drop (k + 1)) := by
  rw [List.drop_eq_getElem_cons hk]
  simp [plc, ft, List.getD_eq_getElem?_getD, hk]

set_option maxRecDepth 100000 in
set_option maxHeartbeats 1000000 in
theorem placeC_calls (t u : Int) (v : Value) (B : Nat) (w : World) (hB : B < w.heap.size) (hc : w.cell? ⟨B, 0, none⟩ = some (.int .i64 t)) (W : World) (hb : Below w.heap.size w W) :
    Calls Try.prog 123 #[.agg #[.int .i64 u, v], .pointer (some ⟨B, 0, none⟩)] W fun e w' => e = .returned (.bool (u == t)) ∧ Below w.heap.size w w' := by
  have hcW := (hb.cell (p := ⟨B, 0, none⟩) hB).trans hc
  have hlt : B < W.heap.size := Nat.lt_of_lt_of_le hB hb.size
  have HB := Lib.hid hb
  clear hb hc
  go_enter Try.func123, Try.ntmps123
  go_wp2
  go_ret
  exact ⟨rfl, HB.out.alloc HB.out.size _⟩

set_option maxRecDepth 100000 in
set_option maxHeartbeats 1000000 in
theorem indexFunc_calls (t : Int) (v : Value) (L : List Fld) (B : Nat) (w : World) (h : FRow w v L) (hB : B < w.heap.size) (hc : w.cell? ⟨B, 0, none⟩ = some (.int .i64 t)) :
    Calls Try.prog 122 #[v, .func (.func 123) #[] #[.pointer (some ⟨B, 0, none⟩)]] w fun e w' => e = .returned (.int .i64 (placeF L t)) ∧ Below w.heap.size w w' := by
  have HP := Lib.hid (fun u v W hb => placeC_calls t u v B w hB hc W hb)
  clear hB hc
  obtain ⟨ht, ⟨a, c, rfl, rfl, -⟩ | ⟨b, off, cap, A, C, rfl, hc, hm, hcell⟩⟩ := h
  · go_enter Try.func122, Try.ntmps122
    go_wp2
    go_loopw [8] (fun i wr => i = .int .i64 0 ∧ Below w.heap.size w wr) (fun i _ => 0)
    case atStart => exact ⟨rfl, Below.refl _ _⟩
    case round =>
      obtain ⟨rfl, hbel⟩ := hrel
      go_wp2
      go_ret
      exact ⟨rfl, hbel⟩
  · have HC := Lib.hid hcell
    have hcs : (L.length : Int) ≤ 9223372036854775807 := by unfold maxLen at hm; omega
    clear hcell hm ht
    have eg := enters_of Try.func123 (by kernel_rfl) rfl
    go_enter Try.func122, Try.ntmps122
    go_wp2
    go_loopw [8] (fun i wr => ∃ k, k ≤ L.length ∧ i = .int .i64 (k : Nat) ∧ plc t k (L.drop k) = placeF L t ∧ Below w.heap.size w wr) (fun i _ => L.length - (intOf i).toNat)
    case atStart => exact ⟨0, Nat.zero_le _, rfl, rfl, Below.refl _ _⟩
    case round =>
      obtain ⟨k, hk, rfl, hpl, hbel⟩ := hrel
      have HPl := Lib.hid hpl
      have HB := Lib.hid hbel
      by_cases hlt : k < L.length
      · obtain ⟨c1, c2, -⟩ := HC.out k hlt
        have hst := plc_step t L k hlt
        generalize A k = A1 at c2
        generalize C k = C1 at c2
        have c1' := (hbel.cell (p := ⟨b, off + k * 2, none⟩) (block_lt_of_cell c1)).trans c1
        have c2' := (hbel.cell (p := ⟨b, off + k * 2 + 1, none⟩) (block_lt_of_cell c2)).trans c2
        generalize ft L k = u at *
        generalize fb L k = bs at *
        clear c1 c2 hbel hpl
        obtain ⟨q, hq⟩ : ∃ q, (u == t) = q := ⟨_, rfl⟩
        have hcall := Lib.hid (HP.out u (.slice A1 bs.length C1) wr HB.out)
        rw [hq] at hcall
        cases q with
        | true =>
          have e : u = t := by simpa using hq
          rw [if_pos e] at hst
          clear hq
          have hst2 := Lib.hid hst
          clear hst
          subst e
          go_wp2_with (go_at_call 123; refine hcall.out.mono ?_; rintro e w2 ⟨rfl, hb2⟩)
          go_ret
          exact ⟨ret_int (by rw [← HPl.out, hst2.out]), hb2⟩
        | false =>
          have e : ¬ u = t := by simpa using hq
          rw [if_neg e] at hst
          have hst2 := Lib.hid hst
          clear hq hst
          go_wp2_with (go_at_call 123; refine hcall.out.mono ?_; rintro e w2 ⟨rfl, hb2⟩)
          go_roundw
          case rel => exact ⟨k + 1, by omega, by go_num, by rw [← HPl.out, hst2.out], hb2⟩
          case measure => simp [intOf]; omega
      · obtain rfl : k = L.length := by omega
        clear hpl hbel
        go_wp2
        go_ret
        exact ⟨ret_int (by rw [← HPl.out, List.drop_length]; rfl), HB.out⟩

theorem FRow.below {w w' : World} {v : Value} {L : List Fld} (h : FRow w v L) (hb : Below w.heap.size w w') : FRow w' v L := by
  obtain ⟨ht, hn | ⟨b, off, cap, A, C, hv, h1, h2, h3⟩⟩ := h
  · exact ⟨ht, .inl hn⟩
  · refine ⟨ht, .inr ⟨b, off, cap, A, C, hv, h1, h2, fun i hi => ?_⟩⟩
    obtain ⟨c1, c2, c3⟩ := h3 i hi
    exact ⟨(hb.cell (p := ⟨b, off + i * 2, none⟩) (block_lt_of_cell c1)).trans c1, (hb.cell (p := ⟨b, off + i * 2 + 1, none⟩) (block_lt_of_cell c2)).trans c2, c3.below hb⟩

set_option maxRecDepth 100000 in
set_option maxHeartbeats 1000000 in
theorem place_calls (t : Int) (v : Value) (L : List Fld) (w : World) (h : FRow w v L) :
    Calls Try.prog 100 #[v, .int .i64 t] w fun e w' => e = .returned (.int .i64 (placeF L t)) ∧ Below w.heap.size w w' := by
  have hA := (Below.refl w.heap.size w).alloc (Nat.le_refl _) (.cells #[.int .i64 t] 3)
  have HI := Lib.hid (indexFunc_calls t v L w.heap.size (w.alloc (.cells #[.int .i64 t] 3)) (h.below hA) (by simp) (by simp))
  have HA := Lib.hid hA
  clear hA h
  go_enter Try.func100, Try.ntmps100
  go_wp2_with (go_at_call 122; refine HI.out.mono ?_; rintro e w2 ⟨rfl, hb2⟩)
  go_ret
  exact ⟨rfl, HA.out.trans (hb2.mono HA.out.size)⟩
end Go.Proofs.Ytlohggdabpfkhaa
