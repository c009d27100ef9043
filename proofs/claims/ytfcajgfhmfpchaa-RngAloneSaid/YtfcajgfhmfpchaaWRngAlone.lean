/-
  THE WALK of fermatalaw06.RngAlone: it returns true, and writes nothing that was there.
-/
import Derived.Test.YtfcajgfhmfpchaaFrame
import Derived.Test.YtfcajgfhmfpchaaRngF
namespace Go.Proofs.Ytfcajgfhmfpchaa
open Go.RowKit Pl

/-- Where the law's two streams stand. -/
structure AlnI (w W : World) (X Y : Nat) (key : BitVec 64) (i j : Nat) : Prop where
  below : Below w.heap.size w W
  x : SIs W X key i
  y : SIs W Y key j
  wx : w.heap.size ≤ X
  wy : w.heap.size ≤ Y
  ne : X ≠ Y
theorem AlnI.onX {w W W' : World} {X Y : Nat} {key : BitVec 64} {i j i' : Nat} (h : AlnI w W X Y key i j) (hs : SIs W' X key i') (hg : W.grownBy W' (some X)) : AlnI w W' X Y key i' j :=
  ⟨h.below.grown hg h.below.size (fun k hk => by cases hk; exact h.wx), hs, h.y.kept hg h.ne.symm, h.wx, h.wy, h.ne⟩
theorem AlnI.onY {w W W' : World} {X Y : Nat} {key : BitVec 64} {i j j' : Nat} (h : AlnI w W X Y key i j) (hs : SIs W' Y key j') (hg : W.grownBy W' (some Y)) : AlnI w W' X Y key i j' :=
  ⟨h.below.grown hg h.below.size (fun k hk => by cases hk; exact h.wy), h.x.kept hg h.ne, hs, h.wx, h.wy, h.ne⟩
theorem AlnI.to {w W W' : World} {X Y : Nat} {key : BitVec 64} {i j : Nat} (h : AlnI w W X Y key i j) (hb : Below W.heap.size W W') : AlnI w W' X Y key i j :=
  ⟨h.below.trans (hb.mono h.below.size), h.x.below hb, h.y.below hb, h.wx, h.wy, h.ne⟩

set_option maxRecDepth 100000 in
set_option maxHeartbeats 2000000 in
theorem rngAlone_some (s : BitVec 64) (p at' n b off c : Nat) (Z : Nat → Int) (hp : p < 65536) (hc : n ≤ c) (hm : c ≤ maxLen) (w : World) (hbw : b < w.heap.size)
    (hcell : ∀ i, i < n → w.cell? ⟨b, off + i, none⟩ = some (.int .i64 (Z i))) (hZ : ∀ i, i < n → -9223372036854775808 ≤ Z i ∧ Z i ≤ 9223372036854775807) :
    Calls Try.prog 9 #[.int .u64 (s.toNat : Int), .int .u16 (p : Int), .int .u64 (at' : Int), .slice (some ⟨b, off, none⟩) n c] w fun e w' => e = .returned (.bool true) ∧ Below w.heap.size w w' := by
  have AW := Lib.hid (fun W => awakeR_calls W)
  have hN := Lib.hid (fun W => newR_yes s p (by omega) W)
  obtain ⟨f, hf⟩ : ∃ f, at' % 281474976710606 = f := ⟨_, rfl⟩
  have hf1 : f ≤ 281474976710605 := by omega
  have hf2 : (at' : Int) % 281474976710606 = (f : Int) := by omega
  have hD := Lib.hid (fun i N hi h0 h1 W => draw_yes s p i N (by omega) hi h0 h1 W)
  generalize keyB s p = key at *
  generalize s.toNat = sn at *
  have HC := Lib.hid hcell
  have HZ := Lib.hid hZ
  have HB := Lib.hid hbw
  have hm2 : (c : Int) ≤ 9223372036854775807 := by have : c ≤ 9223372036854775807 := hm; omega
  clear hm
  clear hcell hZ hbw hf
  obtain ⟨m, hmm⟩ : ∃ m : Nat, m = min n 50 := ⟨_, rfl⟩
  have hmn : m ≤ n := by omega
  have hm50 : m ≤ 50 := by omega
  go_enter Try.func9, Try.ntmps9
  go_wp2_with fail
  refine (hN.out _).mono ?_
  rintro e w1 ⟨X, rfl, hX, hs, hb⟩
  have HS1 := Lib.hid hs
  have HB1 := Lib.hid hb
  have hXl := hs.lt
  clear hs hb
  go_wp2_with fail
  refine (hN.out _).mono ?_
  rintro e w2 ⟨Y, rfl, hY, hs, hb⟩
  have I2 := Lib.hid (show AlnI w w2 X Y key 0 0 from ⟨HB1.out.trans (hb.mono HB1.out.size), HS1.out.below hb, hs, hX, Nat.le_trans HB1.out.size hY, by omega⟩)
  clear hs hb hX hXl hY
  go_wp2_with fail
  refine (moveR_yes X 0 f key _ I2.out.x (by omega)).mono ?_
  rintro e w3 ⟨rfl, hw⟩
  have I3 := Lib.hid (show AlnI w w3 X Y key f 0 by rw [hw]; exact I2.out.onX (I2.out.x.put f) (SIs.grown _))
  clear hw
  go_upto_region 8 with fail
  go_cut [3] from 62 to 66 (fun v wx => v = .slice (some ⟨b, off, none⟩) m c ∧ wx = w3)
  case first =>
    have hnc : (n : Int) ≤ (c : Int) := by omega
    rcases (show n ≤ 50 ∨ 50 < n by omega) with h1 | h1
    · obtain rfl : m = n := by omega
      clear hmm hmn
      have h2 : (m : Int) ≤ 50 := by omega
      go_wp2_with fail
      go_meet
      exact ⟨rfl, rfl⟩
    · obtain rfl : m = 50 := by omega
      clear hmm hmn hm50
      have h2 : 50 < (n : Int) := by omega
      have h3 : (50 : Int) ≤ (c : Int) := by omega
      go_wp2_with fail
      go_meet
      exact ⟨rfl, rfl⟩
  case rest =>
    obtain ⟨rfl, rfl⟩ := hcut
    clear hmm
    have hmc : m ≤ c := by omega
    go_wp2_with fail
    go_loopw [69] (fun i wr => ∃ k jy : Nat, k ≤ m ∧ i = .int .i64 (k : Int) ∧ AlnI w wr X Y key (f + k) jy) (fun i _ => m - (intOf i).toNat)
    case atStart => exact ⟨0, 0, by omega, rfl, I3.out⟩
    case round =>
      obtain ⟨k, jy, hk, rfl, hI⟩ := hrel
      have I4 := Lib.hid hI
      clear hI
      by_cases hlt : k < m
      · have c0 := (cell_below I4.out.below HB.out (HC.out k (by omega)))
        have hz := HZ.out k (by omega)
        generalize Z k = z at *
        obtain ⟨N, hN0, hN1, hNz⟩ : ∃ N : Nat, 0 < N ∧ N < 9223372036854775808 ∧ ((z < 1 ∧ N = 1) ∨ (1 ≤ z ∧ z = (N : Int))) := by
          by_cases h : z < 1
          · exact ⟨1, by omega, by omega, .inl ⟨h, rfl⟩⟩
          · exact ⟨z.toNat, by omega, by omega, .inr ⟨by omega, by omega⟩⟩
        have hfk : f + k ≤ 281474976710656 := by omega
        have hfk2 : f + k ≤ 281474976710657 := by omega
        have efk : (f : Int) + (k : Int) = ((f + k : Nat) : Int) := by omega
        obtain ⟨g, hg⟩ : ∃ g, f + k = g := ⟨_, rfl⟩
        have hg2 : f + (k + 1) = g + 1 := by omega
        rw [hg] at hfk hfk2 efk I4
        have D1 := Lib.hid (fun W hs => drawR_yes X g N key W hs hfk hN0 hN1)
        have D2 := Lib.hid (fun W => hD.out g N hfk hN0 hN1 W)
        have M1 := Lib.hid (fun W hs => moveR_yes Y jy g key W hs hfk2)
        have D3 := Lib.hid (fun W hs => drawR_yes Y g N key W hs hfk hN0 hN1)
        have IX := Lib.hid (fun W hs => indexR_calls X (g + 1) key W hs)
        generalize belN (valB key g).toNat N = d at *
        clear hg
        rcases hNz with ⟨hz1, rfl⟩ | ⟨hz1, rfl⟩
        all_goals
          go_wp2_with fail
          refine (D1.out _ I4.out.x).mono ?_
          rintro e w4 ⟨rfl, hs, hg⟩
          have I5 := Lib.hid (I4.out.onX hs hg)
          clear hs hg
          go_wp2_with fail
          refine (D2.out _).mono ?_
          rintro e w5 ⟨rfl, hb⟩
          have I6 := Lib.hid (I5.out.to hb)
          clear hb
          go_wp2_with fail
          refine (M1.out _ I6.out.y).mono ?_
          rintro e w6 ⟨rfl, hw⟩
          have I7 := Lib.hid (show AlnI w w6 X Y key (g + 1) g by rw [hw]; exact I6.out.onY (I6.out.y.put g) (SIs.grown _))
          clear hw
          go_wp2_with fail
          refine (D3.out _ I7.out.y).mono ?_
          rintro e w7 ⟨rfl, hs, hg⟩
          have I8 := Lib.hid (I7.out.onY hs hg)
          clear hs hg
          go_wp2_with fail
          refine (IX.out _ I8.out.x).mono ?_
          rintro e w' ⟨rfl, rfl⟩
          go_wp2
          go_roundw
          case rel => exact ⟨k + 1, g + 1, by omega, by go_num, by rw [hg2]; exact I8.out⟩
          case measure => simp [intOf]; omega
      · obtain rfl : k = m := by omega
        go_wp2_with fail
        refine (moveR_yes X (f + k) f key _ I4.out.x (by omega)).mono ?_
        rintro e w5 ⟨rfl, hw⟩
        have I5 := Lib.hid (show AlnI w w5 X Y key f jy by rw [hw]; exact I4.out.onX (I4.out.x.put f) (SIs.grown _))
        clear hw I4
        go_wp2_with fail
        go_loopw [138] (fun i wr => ∃ q : Nat, q ≤ k ∧ i = .int .i64 (q : Int) ∧ AlnI w wr X Y key (f + q) jy) (fun i _ => k - (intOf i).toNat)
        case atStart => exact ⟨0, by omega, rfl, I5.out⟩
        case round =>
          obtain ⟨q, hq, rfl, hI⟩ := hrel
          have I4 := Lib.hid hI
          clear hI
          by_cases hlt : q < k
          · have c0 := (cell_below I4.out.below HB.out (HC.out q (by omega)))
            have hz := HZ.out q (by omega)
            generalize Z q = z at *
            obtain ⟨N, hN0, hN1, hNz⟩ : ∃ N : Nat, 0 < N ∧ N < 9223372036854775808 ∧ ((z < 1 ∧ N = 1) ∨ (1 ≤ z ∧ z = (N : Int))) := by
              by_cases h : z < 1
              · exact ⟨1, by omega, by omega, .inl ⟨h, rfl⟩⟩
              · exact ⟨z.toNat, by omega, by omega, .inr ⟨by omega, by omega⟩⟩
            have hfk : f + q ≤ 281474976710656 := by omega
            have efk : (f : Int) + (q : Int) = ((f + q : Nat) : Int) := by omega
            obtain ⟨g, hg⟩ : ∃ g, f + q = g := ⟨_, rfl⟩
            have hg2 : f + (q + 1) = g + 1 := by omega
            rw [hg] at hfk efk I4
            have D1 := Lib.hid (fun W hs => drawR_yes X g N key W hs hfk hN0 hN1)
            have D2 := Lib.hid (fun W => hD.out g N hfk hN0 hN1 W)
            generalize belN (valB key g).toNat N = d at *
            clear hg
            rcases hNz with ⟨hz1, rfl⟩ | ⟨hz1, rfl⟩
            all_goals
              go_wp2_with fail
              refine (D1.out _ I4.out.x).mono ?_
              rintro e w4 ⟨rfl, hs, hg⟩
              have I5 := Lib.hid (I4.out.onX hs hg)
              clear hs hg
              go_wp2_with fail
              refine (D2.out _).mono ?_
              rintro e w5 ⟨rfl, hb⟩
              have I6 := Lib.hid (I5.out.to hb)
              clear hb
              go_wp2
              go_roundw
              case rel => exact ⟨q + 1, by omega, by go_num, by rw [hg2]; exact I6.out⟩
              case measure => simp [intOf]; omega
          · obtain rfl : q = k := by omega
            go_wp2_with fail
            refine (AW.out _).mono ?_
            rintro e w6 ⟨rfl, hb⟩
            have I6 := Lib.hid (I4.out.to hb)
            clear hb
            go_wp2
            go_ret
            exact ⟨rfl, I6.out.below⟩
set_option maxRecDepth 100000 in
set_option maxHeartbeats 2000000 in
theorem rngAlone_none (s : BitVec 64) (p at' c : Nat) (a : Option Addr) (hp : p < 65536) (hm : c ≤ maxLen) (w : World) :
    Calls Try.prog 9 #[.int .u64 (s.toNat : Int), .int .u16 (p : Int), .int .u64 (at' : Int), .slice a 0 c] w fun e w' => e = .returned (.bool true) ∧ Below w.heap.size w w' := by
  have AW := Lib.hid (fun W => awakeR_calls W)
  have hN := Lib.hid (fun W => newR_yes s p (by omega) W)
  obtain ⟨f, hf⟩ : ∃ f, at' % 281474976710606 = f := ⟨_, rfl⟩
  have hf1 : f ≤ 281474976710605 := by omega
  have hf2 : (at' : Int) % 281474976710606 = (f : Int) := by omega
  generalize keyB s p = key at *
  generalize s.toNat = sn at *
  have hm2 : (c : Int) ≤ 9223372036854775807 := by have : c ≤ 9223372036854775807 := hm; omega
  clear hm hf
  go_enter Try.func9, Try.ntmps9
  go_wp2_with fail
  refine (hN.out _).mono ?_
  rintro e w1 ⟨X, rfl, hX, hs, hb⟩
  have HS1 := Lib.hid hs
  have HB1 := Lib.hid hb
  have hXl := hs.lt
  clear hs hb
  go_wp2_with fail
  refine (hN.out _).mono ?_
  rintro e w2 ⟨Y, rfl, hY, hs, hb⟩
  have I2 := Lib.hid (show AlnI w w2 X Y key 0 0 from ⟨HB1.out.trans (hb.mono HB1.out.size), HS1.out.below hb, hs, hX, Nat.le_trans HB1.out.size hY, by omega⟩)
  clear hs hb hX hXl hY
  go_wp2_with fail
  refine (moveR_yes X 0 f key _ I2.out.x (by omega)).mono ?_
  rintro e w3 ⟨rfl, hw⟩
  have I3 := Lib.hid (show AlnI w w3 X Y key f 0 by rw [hw]; exact I2.out.onX (I2.out.x.put f) (SIs.grown _))
  clear hw
  cases a with
  | none =>
    go_wp2_with fail
    refine wp_loop_rounds 1 ?_
    rw [rounds_succ]
    go_wp2_with fail
    refine (moveR_yes X f f key _ I3.out.x (by omega)).mono ?_
    rintro e w5 ⟨rfl, hw⟩
    have I5 := Lib.hid (show AlnI w w5 X Y key f 0 by rw [hw]; exact I3.out.onX (I3.out.x.put f) (SIs.grown _))
    clear hw
    go_wp2_with fail
    refine wp_loop_rounds 1 ?_
    rw [rounds_succ]
    go_wp2_with fail
    refine (AW.out _).mono ?_
    rintro e w6 ⟨rfl, hb⟩
    have I6 := Lib.hid (I5.out.to hb)
    clear hb
    go_wp2
    go_ret
    exact ⟨rfl, I6.out.below⟩
  | some ad =>
    go_wp2_with fail
    refine wp_loop_rounds 1 ?_
    rw [rounds_succ]
    go_wp2_with fail
    refine (moveR_yes X f f key _ I3.out.x (by omega)).mono ?_
    rintro e w5 ⟨rfl, hw⟩
    have I5 := Lib.hid (show AlnI w w5 X Y key f 0 by rw [hw]; exact I3.out.onX (I3.out.x.put f) (SIs.grown _))
    clear hw
    go_wp2_with fail
    refine wp_loop_rounds 1 ?_
    rw [rounds_succ]
    go_wp2_with fail
    refine (AW.out _).mono ?_
    rintro e w6 ⟨rfl, hb⟩
    have I6 := Lib.hid (I5.out.to hb)
    clear hb
    go_wp2
    go_ret
    exact ⟨rfl, I6.out.below⟩

/-- A slice of numbers with a sign that came in. -/
theorem rngAlone_walk (s : BitVec 64) (p at' : Nat) (a : Option Addr) (len cap : Nat) (zs : List Int) (hp : p < 65536) (w : World) (h : IsRow .i64 w a len cap zs) :
    Calls Try.prog 9 #[.int .u64 (s.toNat : Int), .int .u16 (p : Int), .int .u64 (at' : Int), .slice a len cap] w fun e w' => e = .returned (.bool true) ∧ Below w.heap.size w w' := by
  rcases h with ⟨rfl, rfl, rfl, rfl⟩ | ⟨x, rfl, hl, hm, hz, hcell, hwz⟩
  · exact rngAlone_none s p at' 0 none hp (Nat.zero_le _) w
  · by_cases h0 : len = 0
    · subst h0
      exact rngAlone_none s p at' cap (some x) hp hm w
    · obtain ⟨b, off, sp⟩ := x
      have hc0 := hcell 0 (by omega)
      have hsp : sp = none := by simpa [Addr.add] using World.cell?_spot hc0
      subst hsp
      have hadd : ∀ i, (⟨b, off, none⟩ : Addr).add i = ⟨b, off + i, none⟩ := fun i => by unfold Addr.add; split <;> simp_all
      rw [hadd 0] at hc0
      have hb := World.block_lt_of_cell? _ _ hc0
      refine rngAlone_some s p at' len b off cap (fun i => zs.getD i 0) hp hl hm w hb (fun i hi => ?_) (fun i hi => ?_)
      · rw [← hadd i]; exact hcell i (by omega)
      · have hmem : zs.getD i 0 ∈ zs := by rw [List.getD_eq_getElem?_getD, List.getElem?_eq_getElem (by omega)]; simp
        exact wf_i64 (hwz _ hmem)
end Go.Proofs.Ytfcajgfhmfpchaa
