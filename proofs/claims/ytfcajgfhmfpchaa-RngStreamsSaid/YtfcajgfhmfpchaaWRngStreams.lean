/-
  THE WALK of fermatalaw06.RngStreams: it returns true, and writes nothing that was there.
-/
import Derived.Test.YtfcajgfhmfpchaaActs
import Derived.Test.YtfcajgfhmfpchaaRngF
namespace Go.Proofs.Ytfcajgfhmfpchaa
open Go.RowKit Pl

/-- Where the law's stream stands. -/
structure StmI (w W : World) (X : Nat) (key : BitVec 64) (j : Nat) : Prop where
  below : Below w.heap.size w W
  s : SIs W X key j
  wx : w.heap.size ≤ X
/-- The same, with an act that was copied. -/
structure StmA (w W : World) (X : Nat) (key : BitVec 64) (j g : Nat) (K N : Int) : Prop where
  i : StmI w W X key j
  gx : X < g
  gl : g < W.heap.size
  c0 : W.cell? ⟨g, 0, none⟩ = some (.int .u8 K)
  c1 : W.cell? ⟨g, 1, none⟩ = some (.int .i64 N)
theorem StmI.to {w W W' : World} {X j : Nat} {key : BitVec 64} (h : StmI w W X key j) (hb : Below W.heap.size W W') : StmI w W' X key j :=
  ⟨h.below.trans (hb.mono h.below.size), h.s.below hb, h.wx⟩
theorem StmI.on {w W W' : World} {X j j' : Nat} {key : BitVec 64} (h : StmI w W X key j) (hs : SIs W' X key j') (hg : W.grownBy W' (some X)) : StmI w W' X key j' :=
  ⟨h.below.grown hg h.below.size (fun k hk => by cases hk; exact h.wx), hs, h.wx⟩
theorem StmA.new {w W : World} {X j : Nat} {key : BitVec 64} (h : StmI w W X key j) (K N : Int) (t : TypeId) : StmA w (W.alloc (.cells #[.int .u8 K, .int .i64 N] t)) X key j W.heap.size K N :=
  ⟨h.to ((Below.refl _ _).alloc (Nat.le_refl _) _), h.s.lt, by simp, by simp, by simp⟩
theorem StmA.to {w W W' : World} {X j g : Nat} {key : BitVec 64} {K N : Int} (h : StmA w W X key j g K N) (hb : Below W.heap.size W W') : StmA w W' X key j g K N :=
  ⟨h.i.to hb, h.gx, Nat.lt_of_lt_of_le h.gl hb.size, cell_below hb h.gl h.c0, cell_below hb h.gl h.c1⟩
theorem StmA.on {w W W' : World} {X j j' g : Nat} {key : BitVec 64} {K N : Int} (h : StmA w W X key j g K N) (hs : SIs W' X key j') (hg : W.grownBy W' (some X)) : StmA w W' X key j' g K N := by
  have hb : W'.heap[g]? = W.heap[g]? := hg.block g h.gl (fun e => by have := Option.some.inj e; have := h.gx; omega)
  exact ⟨h.i.on hs hg, h.gx, Nat.lt_of_lt_of_le h.gl hg.size, (World.cell?_of_block (w := W) hb).trans h.c0, (World.cell?_of_block (w := W) hb).trans h.c1⟩

set_option maxRecDepth 100000 in
set_option maxHeartbeats 4000000 in
theorem rngStreams_some (s : BitVec 64) (p b off n c : Nat) (Z0 Z1 : Nat → Int) (hp : p ≤ 65536) (hc : n ≤ c) (hm : c ≤ maxLen) (hn : n ≤ 100) (w : World) (hbw : b < w.heap.size)
    (hcell : ∀ i, i < n → w.cell? ⟨b, off + i * 2, none⟩ = some (.int .u8 (Z0 i)) ∧ w.cell? ⟨b, off + i * 2 + 1, none⟩ = some (.int .i64 (Z1 i)) ∧ 0 ≤ Z0 i ∧ Z0 i < 256 ∧ -9223372036854775808 ≤ Z1 i ∧ Z1 i ≤ 9223372036854775807) :
    Calls Try.prog 4 #[.int .u64 (s.toNat : Int), .int .i64 (p : Int), .slice (some ⟨b, off, none⟩) n c] w fun e w' => e = .returned (.bool true) ∧ Below w.heap.size w w' := by
  have AW := Lib.hid (fun W => awakeR_calls W)
  have hN := Lib.hid (fun W => newR_yes s p hp W)
  have hP := Lib.hid (fun W => rProcess_yes p hp W)
  have hV := Lib.hid (fun i hi W => rValue_calls s p i hp hi W)
  generalize keyB s p = key at *
  have hsb := uv_bounds s
  generalize s.toNat = sn at *
  have HC := Lib.hid hcell
  have HB := Lib.hid hbw
  have hm2 : (c : Int) ≤ 9223372036854775807 := by have : c ≤ 9223372036854775807 := hm; omega
  clear hcell hbw hm
  go_enter Try.func4, Try.ntmps4
  go_wp2_with fail
  refine (hN.out _).mono ?_
  rintro e w1 ⟨X, rfl, hX, hs, hb⟩
  have I1 := Lib.hid (show StmI w w1 X key 0 from ⟨hb, hs, hX⟩)
  clear hs hb hX
  go_wp2_with fail
  refine (hP.out _).mono ?_
  rintro e w' ⟨rfl, rfl⟩
  clear hp hsb
  go_wp2_with fail
  go_loopw [9, 60] (fun a i wr => ∃ k j : Nat, k ≤ n ∧ j ≤ 281474976710657 ∧ i = .int .i64 (k : Int) ∧ a = .int .i64 (j : Int) ∧ StmI w wr X key j) (fun _ i _ => n - (intOf i).toNat)
  case atStart => exact ⟨0, 0, by omega, by omega, rfl, rfl, I1.out⟩
  case round =>
    obtain ⟨k, j, hk, hj, rfl, rfl, hI⟩ := hrel
    have I2 := Lib.hid hI
    clear hI
    by_cases hlt : k < n
    · obtain ⟨c0, c1, hz0, hz1, hz2, hz3⟩ := HC.out k hlt
      have c0 := cell_below I2.out.below HB.out c0
      have c1 := cell_below I2.out.below HB.out c1
      generalize Z0 k = K at *
      generalize Z1 k = N at *
      have A0 := Lib.hid (StmA.new I2.out K N 32)
      have d0 := A0.out.c0
      have d1 := A0.out.c1
      obtain ⟨r, hr⟩ : ∃ r : Int, K % 5 = r := ⟨_, rfl⟩
      have hr1 : 0 ≤ r := by omega
      have hr2 : r < 5 := by omega
      have hr3 : K.tmod 5 = r := by rw [Int.tmod_eq_emod_of_nonneg hz0]; exact hr
      by_cases hf : j ≤ 281474976710656
      · have HV := Lib.hid (fun W => hV.out j hf W)
        have NY := Lib.hid (fun W hs => nextR_yes X j key W hs hf)
        have DY := Lib.hid (fun M h0 h1 W hs => drawR_yes X j M key W hs hf h0 h1)
        have RB := Lib.hid (fun M h0 h1 W => rBelow_calls (valB key j).toNat M (valB key j).isLt h0 h1 W)
        have hf1 : ¬ 281474976710656 < (j : Int) := by omega
        obtain ⟨bn, hbn⟩ : ∃ bn : Nat → Nat, (fun M => belN (valB key j).toNat M) = bn := ⟨_, rfl⟩
        have hbn2 : ∀ M, belN (valB key j).toNat M = bn M := fun M => by rw [← hbn]
        simp only [hbn2] at DY RB
        clear hbn hbn2
        have hvv : (((valB key j).toNat : Int) == ((valB key j).toNat : Int)) = true := by simp
        generalize (valB key j).toNat = v at *
        go_wp2_with fail
        refine (HV.out _).mono ?_
        rintro e w2 ⟨rfl, hb⟩
        have A1 := Lib.hid (A0.out.to hb)
        clear hb d0 d1
        have d0 := A1.out.c0
        have d1 := A1.out.c1
        rcases (show r = 0 ∨ r = 1 ∨ r = 2 ∨ r = 3 ∨ r = 4 by omega) with rfl | rfl | rfl | rfl | rfl
        · skip
          go_wp2_with fail
          refine (NY.out _ A1.out.i.s).mono ?_
          rintro e w3 ⟨rfl, hs, hg⟩
          have A2 := Lib.hid (A1.out.on hs hg)
          clear hs hg
          go_wp2_with fail
          refine (indexR_calls X (j + 1) key _ A2.out.i.s).mono ?_
          rintro e w' ⟨rfl, rfl⟩
          go_wp2
          go_roundw
          case rel => exact ⟨k + 1, (j + 1), by omega, by omega, by go_num, by first | rfl | go_num, A2.out.i⟩
          case measure => simp [intOf]; omega
        · skip
          go_wp2_with fail
          refine (NY.out _ A1.out.i.s).mono ?_
          rintro e w3 ⟨rfl, hs, hg⟩
          have A2 := Lib.hid (A1.out.on hs hg)
          clear hs hg
          go_wp2_with fail
          refine (indexR_calls X (j + 1) key _ A2.out.i.s).mono ?_
          rintro e w' ⟨rfl, rfl⟩
          go_wp2
          go_roundw
          case rel => exact ⟨k + 1, (j + 1), by omega, by omega, by go_num, by first | rfl | go_num, A2.out.i⟩
          case measure => simp [intOf]; omega
        · skip
          by_cases hN1 : N < 1
          · go_wp2_with fail
            refine (drawR_bound X j N key _ A1.out.i.s hN1).mono ?_
            rintro e w' ⟨rfl, rfl⟩
            go_wp2_with fail
            refine (indexR_calls X j key _ A1.out.i.s).mono ?_
            rintro e w' ⟨rfl, rfl⟩
            go_wp2
            go_roundw
            case rel => exact ⟨k + 1, j, by omega, by omega, by go_num, by first | rfl | go_num, A1.out.i⟩
            case measure => simp [intOf]; omega
          · obtain ⟨M, rfl⟩ : ∃ M : Nat, N = (M : Int) := ⟨N.toNat, by omega⟩
            have hM0 : 0 < M := by omega
            have hM1 : M < 9223372036854775808 := by omega
            go_wp2_with fail
            refine (DY.out M hM0 hM1 _ A1.out.i.s).mono ?_
            rintro e w3 ⟨rfl, hs, hg⟩
            have A2 := Lib.hid (A1.out.on hs hg)
            clear hs hg d0 d1
            have d0 := A2.out.c0
            have d1 := A2.out.c1
            go_wp2_with fail
            refine (RB.out M hM0 hM1 _).mono ?_
            rintro e w' ⟨rfl, rfl⟩
            go_wp2_with fail
            refine (indexR_calls X (j + 1) key _ A2.out.i.s).mono ?_
            rintro e w' ⟨rfl, rfl⟩
            go_wp2
            go_roundw
            case rel => exact ⟨k + 1, (j + 1), by omega, by omega, by go_num, by first | rfl | go_num, A2.out.i⟩
            case measure => simp [intOf]; omega
        · skip
          by_cases hN1 : N < 1
          · go_wp2_with fail
            refine (drawR_bound X j N key _ A1.out.i.s hN1).mono ?_
            rintro e w' ⟨rfl, rfl⟩
            go_wp2_with fail
            refine (indexR_calls X j key _ A1.out.i.s).mono ?_
            rintro e w' ⟨rfl, rfl⟩
            go_wp2
            go_roundw
            case rel => exact ⟨k + 1, j, by omega, by omega, by go_num, by first | rfl | go_num, A1.out.i⟩
            case measure => simp [intOf]; omega
          · obtain ⟨M, rfl⟩ : ∃ M : Nat, N = (M : Int) := ⟨N.toNat, by omega⟩
            have hM0 : 0 < M := by omega
            have hM1 : M < 9223372036854775808 := by omega
            go_wp2_with fail
            refine (DY.out M hM0 hM1 _ A1.out.i.s).mono ?_
            rintro e w3 ⟨rfl, hs, hg⟩
            have A2 := Lib.hid (A1.out.on hs hg)
            clear hs hg d0 d1
            have d0 := A2.out.c0
            have d1 := A2.out.c1
            go_wp2_with fail
            refine (RB.out M hM0 hM1 _).mono ?_
            rintro e w' ⟨rfl, rfl⟩
            go_wp2_with fail
            refine (indexR_calls X (j + 1) key _ A2.out.i.s).mono ?_
            rintro e w' ⟨rfl, rfl⟩
            go_wp2
            go_roundw
            case rel => exact ⟨k + 1, (j + 1), by omega, by omega, by go_num, by first | rfl | go_num, A2.out.i⟩
            case measure => simp [intOf]; omega
        · skip
          by_cases hN1 : 0 ≤ N ∧ N ≤ 281474976710657
          · obtain ⟨M, rfl⟩ : ∃ M : Nat, N = (M : Int) := ⟨N.toNat, by omega⟩
            have hM1 : M ≤ 281474976710657 := by omega
            have hM2 : (0 : Int) ≤ (M : Int) := by omega
            have hM3 : (M : Int) ≤ 281474976710657 := by omega
            clear hN1
            go_wp2_with fail
            refine (moveR_yes X j M key _ A1.out.i.s hM1).mono ?_
            rintro e w3 ⟨rfl, hw⟩
            have A2 := Lib.hid (show StmA w w3 X key M _ K (M : Int) by rw [hw]; exact A1.out.on (A1.out.i.s.put M) (SIs.grown _))
            clear hw d0 d1
            have d0 := A2.out.c0
            have d1 := A2.out.c1
            go_wp2_with fail
            refine (indexR_calls X M key _ A2.out.i.s).mono ?_
            rintro e w' ⟨rfl, rfl⟩
            go_wp2
            go_roundw
            case rel => exact ⟨k + 1, M, by omega, by omega, by go_num, by first | rfl | go_num, A2.out.i⟩
            case measure => simp [intOf]; omega
          · have hN2 : N < 0 ∨ 281474976710657 < N := by omega
            clear hN1
            rcases hN2 with hN3 | hN3
            all_goals
              go_wp2_with fail
              refine (moveR_no X j N key _ A1.out.i.s (by omega)).mono ?_
              rintro e w' ⟨rfl, rfl⟩
              go_wp2_with fail
              refine (indexR_calls X j key _ A1.out.i.s).mono ?_
              rintro e w' ⟨rfl, rfl⟩
              go_wp2
              go_roundw
              case rel => exact ⟨k + 1, j, by omega, by omega, by go_num, by first | rfl | go_num, A1.out.i⟩
              case measure => simp [intOf]; omega
      · obtain rfl : j = 281474976710657 := by omega
        have NF := Lib.hid (fun W hs => nextR_full X key W hs)
        have DF := Lib.hid (fun M h0 W hs => drawR_full X M key W hs h0)
        have A1 := A0
        clear A0
        rcases (show r = 0 ∨ r = 1 ∨ r = 2 ∨ r = 3 ∨ r = 4 by omega) with rfl | rfl | rfl | rfl | rfl
        · skip
          go_wp2_with fail
          refine (NF.out _ A1.out.i.s).mono ?_
          rintro e w' ⟨rfl, rfl⟩
          go_wp2_with fail
          refine (indexR_calls X 281474976710657 key _ A1.out.i.s).mono ?_
          rintro e w' ⟨rfl, rfl⟩
          go_wp2
          go_roundw
          case rel => exact ⟨k + 1, 281474976710657, by omega, by omega, by go_num, by first | rfl | go_num, A1.out.i⟩
          case measure => simp [intOf]; omega
        · skip
          go_wp2_with fail
          refine (NF.out _ A1.out.i.s).mono ?_
          rintro e w' ⟨rfl, rfl⟩
          go_wp2_with fail
          refine (indexR_calls X 281474976710657 key _ A1.out.i.s).mono ?_
          rintro e w' ⟨rfl, rfl⟩
          go_wp2
          go_roundw
          case rel => exact ⟨k + 1, 281474976710657, by omega, by omega, by go_num, by first | rfl | go_num, A1.out.i⟩
          case measure => simp [intOf]; omega
        · skip
          by_cases hN1 : N < 1
          · go_wp2_with fail
            refine (drawR_bound X 281474976710657 N key _ A1.out.i.s hN1).mono ?_
            rintro e w' ⟨rfl, rfl⟩
            go_wp2_with fail
            refine (indexR_calls X 281474976710657 key _ A1.out.i.s).mono ?_
            rintro e w' ⟨rfl, rfl⟩
            go_wp2
            go_roundw
            case rel => exact ⟨k + 1, 281474976710657, by omega, by omega, by go_num, by first | rfl | go_num, A1.out.i⟩
            case measure => simp [intOf]; omega
          · obtain ⟨M, rfl⟩ : ∃ M : Nat, N = (M : Int) := ⟨N.toNat, by omega⟩
            have hM0 : 0 < M := by omega
            have hM1 : M < 9223372036854775808 := by omega
            go_wp2_with fail
            refine (DF.out M hM0 _ A1.out.i.s).mono ?_
            rintro e w' ⟨rfl, rfl⟩
            go_wp2_with fail
            refine (indexR_calls X 281474976710657 key _ A1.out.i.s).mono ?_
            rintro e w' ⟨rfl, rfl⟩
            go_wp2
            go_roundw
            case rel => exact ⟨k + 1, 281474976710657, by omega, by omega, by go_num, by first | rfl | go_num, A1.out.i⟩
            case measure => simp [intOf]; omega
        · skip
          by_cases hN1 : N < 1
          · go_wp2_with fail
            refine (drawR_bound X 281474976710657 N key _ A1.out.i.s hN1).mono ?_
            rintro e w' ⟨rfl, rfl⟩
            go_wp2_with fail
            refine (indexR_calls X 281474976710657 key _ A1.out.i.s).mono ?_
            rintro e w' ⟨rfl, rfl⟩
            go_wp2
            go_roundw
            case rel => exact ⟨k + 1, 281474976710657, by omega, by omega, by go_num, by first | rfl | go_num, A1.out.i⟩
            case measure => simp [intOf]; omega
          · obtain ⟨M, rfl⟩ : ∃ M : Nat, N = (M : Int) := ⟨N.toNat, by omega⟩
            have hM0 : 0 < M := by omega
            have hM1 : M < 9223372036854775808 := by omega
            go_wp2_with fail
            refine (DF.out M hM0 _ A1.out.i.s).mono ?_
            rintro e w' ⟨rfl, rfl⟩
            go_wp2_with fail
            refine (indexR_calls X 281474976710657 key _ A1.out.i.s).mono ?_
            rintro e w' ⟨rfl, rfl⟩
            go_wp2
            go_roundw
            case rel => exact ⟨k + 1, 281474976710657, by omega, by omega, by go_num, by first | rfl | go_num, A1.out.i⟩
            case measure => simp [intOf]; omega
        · skip
          by_cases hN1 : 0 ≤ N ∧ N ≤ 281474976710657
          · obtain ⟨M, rfl⟩ : ∃ M : Nat, N = (M : Int) := ⟨N.toNat, by omega⟩
            have hM1 : M ≤ 281474976710657 := by omega
            have hM2 : (0 : Int) ≤ (M : Int) := by omega
            have hM3 : (M : Int) ≤ 281474976710657 := by omega
            clear hN1
            go_wp2_with fail
            refine (moveR_yes X 281474976710657 M key _ A1.out.i.s hM1).mono ?_
            rintro e w3 ⟨rfl, hw⟩
            have A2 := Lib.hid (show StmA w w3 X key M _ K (M : Int) by rw [hw]; exact A1.out.on (A1.out.i.s.put M) (SIs.grown _))
            clear hw d0 d1
            have d0 := A2.out.c0
            have d1 := A2.out.c1
            go_wp2_with fail
            refine (indexR_calls X M key _ A2.out.i.s).mono ?_
            rintro e w' ⟨rfl, rfl⟩
            go_wp2
            go_roundw
            case rel => exact ⟨k + 1, M, by omega, by omega, by go_num, by first | rfl | go_num, A2.out.i⟩
            case measure => simp [intOf]; omega
          · have hN2 : N < 0 ∨ 281474976710657 < N := by omega
            clear hN1
            rcases hN2 with hN3 | hN3
            all_goals
              go_wp2_with fail
              refine (moveR_no X 281474976710657 N key _ A1.out.i.s (by omega)).mono ?_
              rintro e w' ⟨rfl, rfl⟩
              go_wp2_with fail
              refine (indexR_calls X 281474976710657 key _ A1.out.i.s).mono ?_
              rintro e w' ⟨rfl, rfl⟩
              go_wp2
              go_roundw
              case rel => exact ⟨k + 1, 281474976710657, by omega, by omega, by go_num, by first | rfl | go_num, A1.out.i⟩
              case measure => simp [intOf]; omega
    · obtain rfl : k = n := by omega
      go_wp2_with fail
      refine (AW.out _).mono ?_
      rintro e w6 ⟨rfl, hb⟩
      have I6 := Lib.hid (I2.out.to hb)
      clear hb
      go_wp2
      go_ret
      exact ⟨rfl, I6.out.below⟩
end Go.Proofs.Ytfcajgfhmfpchaa
