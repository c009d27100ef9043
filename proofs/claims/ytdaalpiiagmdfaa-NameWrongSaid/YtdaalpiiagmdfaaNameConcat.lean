/-
  CONTRACTS of slices.Grow (of nil) and slices.Concat at strings.
-/
import Derived.Test.YtdaalpiiagmdfaaNameFew
import Derived.Lib.AppendZeros
namespace Go.Proofs.Ytdaalpiiagmdfaa
open Go.RowKit Go.Shelf

theorem own_from {w : World} {base q : Nat} {v : Value} {l : List (List UInt8)} (h : OwnS w base v l) (hq : v.ownBlock = some q) : base ≤ q := by
  rcases h.2 with ⟨rfl, _⟩ | ⟨g, cap, cur, rfl, hb, _⟩
  · cases hq
  · simp [Value.ownBlock] at hq; omega

set_option maxRecDepth 100000 in
theorem grow_calls (n : Nat) (hn : n ≤ 100000) (w : World) :
    Calls Try.prog 79 #[.slice none 0 0, .int .i64 (n : Int)] w fun e w' => ∃ v, e = .returned v ∧ OwnS w' w.heap.size v [] ∧ Below w.heap.size w w' := by
  by_cases h0 : 0 < n
  · obtain ⟨i0, hi, hz0, hz1, hz2⟩ := info_parts info_str
    obtain ⟨G, hG⟩ : ∃ G, G = grownCap w n 0 9 := ⟨_, rfl⟩
    have hGn : n ≤ G := by rw [hG]; exact grownCap_ge w _ _ _
    have hGm : G ≤ maxLen := by rw [hG]; exact grownCap_le_maxLen w _ _ _ (by unfold maxLen; omega)
    obtain ⟨ROW, hROW⟩ : ∃ ROW : Array Value, ROW = Builtin.zeroCells (Value.string ⟨#[]⟩).cells n ++ Builtin.zeroCells (Value.string ⟨#[]⟩).cells (G - n) := ⟨_, rfl⟩
    have hrz : ∀ ty, (Builtin.append_ #[22, 3] ty #[.slice none 0 0, .int .i64 (n : Int)]).run Try.prog w = .ok (.slice (some ⟨w.heap.size, 0, none⟩) n G) (w.drew.alloc (.cells ROW 9)) := fun ty => by
      have h := Lib.run_append_nil_zeros (P := Try.prog) w 22 3 ty 9 i0 (.string ⟨#[]⟩) .i64 .i64 Try.underlying22 Try.underlying3 hi hz0 n h0 (by omega) (by omega) (by rw [hz2]; omega)
      rw [← hG, ← hROW] at h
      exact h
    have hROWs : ROW.size = G * 1 := by
      rw [hROW]
      simp only [Array.size_append, size_zeroCells, show (Value.string ⟨#[]⟩).cells.size = 1 from rfl]
      omega
    have hown : OwnS (w.drew.alloc (.cells ROW 9)) w.heap.size (.slice (some ⟨w.heap.size, 0, none⟩) 0 G) [] := by
      refine ⟨rfl, .inr ⟨w.heap.size, G, ROW, rfl, Nat.le_refl _, World.alloc_heap_new w.drew _, Nat.zero_le _, hGm, hROWs, by simp⟩⟩
    have hbel : Below w.heap.size w (w.drew.alloc (.cells ROW 9)) := (Below.refl _ _).drew.alloc (Nat.le_refl _) _
    have HO := Lib.hid hown
    have HB := Lib.hid hbel
    have HR := Lib.hid hrz
    have hn0 : ¬ (n : Int) < 0 := by omega
    have hn1 : (0 : Int) < (n : Int) := by omega
    have hG1 : (n : Int) ≤ (G : Int) := by omega
    clear hown hbel hrz hROW hROWs hz0 hz1 hz2 hi hG hGn
    go_enter Try.func79, Try.ntmps79
    go_wp2_with (at_builtin; refine Lib.wpList_append_run _ rfl _ _ _ _ rfl _ _ rfl rfl _ _ (HR.out _) ?_)
    go_ret
    exact ⟨_, rfl, HO.out, HB.out⟩
  · obtain rfl : n = 0 := by omega
    go_enter Try.func79, Try.ntmps79
    go_wp2
    go_ret
    exact ⟨_, rfl, World.ownsRow_nil _ _ _ _, Below.refl _ _⟩

/-- The first k of some lists, one behind the other. -/
def catN (L : Nat → List (List UInt8)) : Nat → List (List UInt8)
  | 0 => []
  | k + 1 => catN L k ++ L k
theorem catN_le (L : Nat → List (List UInt8)) {k m : Nat} (h : k ≤ m) : (catN L k).length ≤ (catN L m).length := by
  induction m with
  | zero => cases Nat.le_zero.1 h; exact Nat.le_refl _
  | succ m ih =>
    by_cases hk : k = m + 1
    · subst hk; exact Nat.le_refl _
    · have := ih (by omega)
      rw [show catN L (m + 1) = catN L m ++ L m from rfl, List.length_append]
      omega

set_option maxRecDepth 100000 in
set_option maxHeartbeats 2000000 in
theorem concat_calls (b m c : Nat) (V : Nat → Value) (L : Nat → List (List UInt8)) (w : World) (hmc : m ≤ c) (hm3 : m ≤ 100) (hbw : b < w.heap.size) (hcell : ∀ i, i < m → w.cell? ⟨b, i, none⟩ = some (V i)) (hrow : ∀ i, i < m → TRow w (V i) (L i)) (hlen : (catN L m).length ≤ 100000) :
    Calls Try.prog 53 #[.slice (some ⟨b, 0, none⟩) m c] w fun e w' => ∃ v, e = .returned v ∧ OwnS w' w.heap.size v (catN L m) ∧ Below w.heap.size w w' := by
  have HC := Lib.hid hcell
  have HR := Lib.hid hrow
  have HB := Lib.hid hbw
  have HL := Lib.hid (fun k (h : k ≤ m) => Nat.le_trans (catN_le L h) hlen)
  have hGr := Lib.hid (fun n hn W => grow_calls n hn W)
  have hmc2 : (m : Int) ≤ (c : Int) := by omega
  clear hcell hrow hbw hlen
  go_enter Try.func53, Try.ntmps53
  go_wp2_with fail
  go_loopw [3, 11] (fun s i wr => ∃ k : Nat, k ≤ m ∧ i = .int .i64 (k : Int) ∧ s = .int .i64 ((catN L k).length : Int) ∧ wr = w) (fun _ i _ => m - (intOf i).toNat)
  case atStart => exact ⟨0, by omega, rfl, rfl, rfl⟩
  case round =>
    obtain ⟨k, hk, rfl, rfl, hw⟩ := hrel
    have hw := hw.symm
    subst hw
    have hlk := HL.out k hk
    by_cases hlt : k < m
    · have hc := HC.out k hlt
      obtain ⟨a, c', hV, -⟩ := trow_shape (HR.out k hlt)
      rw [hV] at hc
      have hls := HL.out (k + 1) hlt
      have hadd : (catN L (k + 1)).length = (catN L k).length + (L k).length := by rw [show catN L (k + 1) = catN L k ++ L k from rfl, List.length_append]
      obtain ⟨s2, hs2⟩ : ∃ s2, (catN L (k + 1)).length = s2 := ⟨_, rfl⟩
      have HS2 := Lib.hid hs2
      rw [hs2] at hls hadd
      generalize (catN L k).length = s at *
      generalize (L k).length = n at *
      have hsn : (s : Int) + (n : Int) = (s2 : Int) := by omega
      clear hadd hs2
      go_wp2_with fail
      go_roundw
      case rel => exact ⟨k + 1, by omega, by go_num, by rw [HS2.out], trivial⟩
      case measure => simp [intOf]; omega
    · obtain rfl : k = m := by omega
      go_wp2_with fail
      refine (hGr.out _ hlk _).mono ?_
      rintro e w1 ⟨v1, rfl, ho, hb⟩
      have HO1 := Lib.hid ho
      have HB1 := Lib.hid hb
      clear ho hb
      go_wp2_with fail
      go_loopw [6, 27] (fun v i wr => ∃ j : Nat, j ≤ k ∧ i = .int .i64 (j : Int) ∧ OwnS wr w.heap.size v (catN L j) ∧ Below w.heap.size w wr) (fun _ i _ => k - (intOf i).toNat)
      case atStart => exact ⟨0, by omega, rfl, HO1.out, HB1.out⟩
      case round =>
        obtain ⟨j, hj, rfl, ho, hb⟩ := hrel
        have HO := Lib.hid ho
        have HBj := Lib.hid hb
        clear ho hb
        by_cases hlt2 : j < k
        · have hc := (HBj.out.cell (p := ⟨b, j, none⟩) HB.out).trans (HC.out j hlt2)
          have HRj := Lib.hid ((HR.out j hlt2).below HBj.out)
          have hls := HL.out (j + 1) hlt2
          have hadd : (catN L (j + 1)).length = (catN L j).length + (L j).length := by rw [show catN L (j + 1) = catN L j ++ L j from rfl, List.length_append]
          have hcat : catN L j ++ L j = catN L (j + 1) := rfl
          have HCat := Lib.hid hcat
          have hsum : (catN L j).length + (L j).length ≤ 1000000 := by omega
          have HSum := Lib.hid hsum
          clear hadd hcat hls hsum hlk
          generalize V j = vj at *
          go_wp2_with (at_builtin; refine wpList_appendS rfl _ _ rfl w.heap.size _ _ rfl HO.out _ _ rfl HRj.out HSum.out HBj.out.size ?_; intro v2 w2 ho2 hg2; have HO2 := Lib.hid ho2; have HB2 := Lib.hid (HBj.out.grown hg2 HBj.out.size (fun q hq => own_from HO.out hq)); clear ho2 hg2)
          go_roundw
          case rel => exact ⟨j + 1, by omega, by go_num, HO2.out, HB2.out⟩
          case measure => simp [intOf]; omega
        · obtain rfl : j = k := by omega
          go_wp2
          go_ret
          exact ⟨_, rfl, HO.out, HBj.out⟩
end Go.Proofs.Ytdaalpiiagmdfaa
