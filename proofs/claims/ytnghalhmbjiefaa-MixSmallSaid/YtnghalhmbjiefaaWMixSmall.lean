/-
  THE WALK of fermatalaw05.MixSmall: it returns true, and writes nothing that was there.
-/
import Derived.Test.YtnghalhmbjiefaaWMixJoins
import Derived.Test.YtnghalhmbjiefaaMixTellsC
import Derived.Deep.RegionHeld3
namespace Go.Proofs.Ytnghalhmbjiefaa
open Go.RowKit Pl

attribute [-go_sem] run_string_add_if

/-- Short strings are put together. -/
theorem cat1 (a : ByteArray) (c : UInt8) (h : a.size ≤ 13) (W : World) : (Op.stringOp .add a ⟨#[c]⟩).run Try.prog W = .ok (.string (a ++ ⟨#[c]⟩)) W :=
  run_string_add W a ⟨#[c]⟩ (by omega) (by show ((1 : Nat) : Int) ≤ _; omega)
theorem cat2 (a : ByteArray) (c : UInt8) (b : ByteArray) (h : a.size ≤ 13) (h2 : b.size ≤ 13) (W : World) : (Op.stringOp .add (a ++ ⟨#[c]⟩) b).run Try.prog W = .ok (.string (a ++ ⟨#[c]⟩ ++ b)) W :=
  run_string_add W _ b (by rw [ByteArray.size_append, show (⟨#[c]⟩ : ByteArray).size = 1 from rfl]; omega) (by omega)


theorem wrap_bv (a : Int) : ∃ X : BitVec 64, IntKind.u64.wrap a = (X.toNat : Int) := by
  rw [IntKind.wrap_u64]
  exact uv_of (Int.emod_nonneg _ (by decide)) (Int.emod_lt_of_pos _ (by decide))

theorem not_bv (X : BitVec 64) : ∃ N : BitVec 64, bits .xor .u64 IntKind.u64.max (X.toNat : Int) = (N.toNat : Int) := by
  refine ⟨BitVec.allOnes 64 ^^^ X, ?_⟩
  rw [← uv_xor]
  rfl
theorem u64_unsigned : IntKind.u64.signed = false := rfl
theorem take_row (w : World) (x y z : Nat) (hx : x < 18446744073709551616) (hy : y < 18446744073709551616) (hz : z < 18446744073709551616) (t : TypeId) (r : Nat) (hr : r ≤ 3) :
    ∃ l : List Nat, l.length = r ∧ NRow (w.alloc (.cells #[.int .u64 (x : Int), .int .u64 (y : Int), .int .u64 (z : Int)] t)) (.slice (some ⟨w.heap.size, 0, none⟩) r 3) l := by
  have h := NRow.lit w [x, y, z] t (by intro a ha; simp at ha; omega) (by simp)
  refine ⟨[x, y, z].take r, by simp; omega, ?_⟩
  exact NRow.head5 h r (by simpa using hr)

theorem size3 (a : ByteArray) (c : UInt8) (b : ByteArray) (h : a.size ≤ 13) (h2 : b.size ≤ 13) : (a ++ ⟨#[c]⟩ ++ b).size ≤ 100 := by
  rw [ByteArray.size_append, ByteArray.size_append, show (⟨#[c]⟩ : ByteArray).size = 1 from rfl]; omega
theorem ten_short (P K S : ByteArray) (sP : P.size ≤ 13) (sK : K.size ≤ 13) (sS : S.size ≤ 13) : ∀ j, j < 10 → ∃ s : ByteArray, (#[.string P, .string S, .string (P ++ ⟨#[48]⟩ ++ S), .string (K ++ ⟨#[119]⟩ ++ S), .string (K ++ ⟨#[86]⟩ ++ S), .string (K ++ ⟨#[103]⟩ ++ S), .string (K ++ ⟨#[47]⟩ ++ S), .string (K ++ ⟨#[58]⟩ ++ S), .string (K ++ ⟨#[96]⟩ ++ S), .string (K ++ ⟨#[0]⟩ ++ S)] : Array Value)[j]? = some (.string s) ∧ s.size ≤ 100 := by
  intro j hj
  have : j = 0 ∨ j = 1 ∨ j = 2 ∨ j = 3 ∨ j = 4 ∨ j = 5 ∨ j = 6 ∨ j = 7 ∨ j = 8 ∨ j = 9 := by omega
  rcases this with rfl | rfl | rfl | rfl | rfl | rfl | rfl | rfl | rfl | rfl
  · exact ⟨_, rfl, by omega⟩
  · exact ⟨_, rfl, by omega⟩
  · exact ⟨_, rfl, size3 _ _ _ sP sS⟩
  all_goals exact ⟨_, rfl, size3 _ _ _ sK sS⟩
theorem reads_of {s : ByteArray} (h : s.size ≤ 100) (W : World) : Calls Try.prog 17 #[.string s] W fun e w' => e = .returned (.bool true) ∧ Below W.heap.size W w' := by
  have hl : s.data.toList.length = s.size := by obtain ⟨⟨l⟩⟩ := s; rfl
  have h2 := reads5_calls s.data.toList (by rw [hl]; omega) W
  have e : (⟨s.data.toList.toArray⟩ : ByteArray) = s := by obtain ⟨⟨l⟩⟩ := s; rfl
  rwa [e] at h2
set_option maxRecDepth 100000 in
set_option maxHeartbeats 8000000 in
theorem mixSmall_walk (w : World) :
    Calls Try.prog 6 #[] w fun e w' => e = .returned (.bool true) ∧ Below w.heap.size w w' := by
  have AW := Lib.hid (fun W => awake5_calls W)
  have TL := Lib.hid (fun x y W => tells_calls x y W)
  have MJ := Lib.hid (fun j a c l W h => mixJoins_walk j a c l W h)
  have RD := Lib.hid (fun s hs W => reads5_calls s hs W)
  go_enter Try.func6, Try.ntmps6
  go_wp2
  go_loopw [10] (fun i wr => ∃ k : Nat, k ≤ 64 ∧ i = .int .i64 (k : Int) ∧ Below w.heap.size w wr) (fun i _ => 64 - (intOf i).toNat)
  case atStart => exact ⟨0, by omega, rfl, Below.refl _ _⟩
  case round =>
    obtain ⟨i, hi, rfl, hbel⟩ := hrel
    have HB := Lib.hid hbel
    clear hbel
    by_cases hlt : i < 64
    · obtain ⟨X, hX⟩ := wrap_bv (2 ^ i)
      obtain ⟨N, hN⟩ := not_bv X
      obtain ⟨Y, hY⟩ := wrap_bv ((X.toNat : Int) - 1)
      have hsg := u64_unsigned
      have hd64 : decide ((i : Int) < 64) = true := decide_eq_true (by omega)
      go_wp2
      go_loopw [15] (fun n wr => ∃ k : Nat, k ≤ 66 ∧ n = .int .i64 (k : Int) ∧ Below w.heap.size w wr) (fun i _ => 66 - (intOf i).toNat)
      case atStart => exact ⟨0, by omega, rfl, HB.out⟩
      case round =>
        obtain ⟨k, hk, rfl, hbel⟩ := hrel
        have HB2 := Lib.hid hbel
        clear hbel
        by_cases hlt2 : k < 66
        · go_wp2_with fail
          refine (TL.out X _ _).mono ?_
          rintro e w1 ⟨rfl, hb1⟩
          have HB3 := Lib.hid (HB2.out.trans (hb1.mono HB2.out.size))
          clear hb1
          go_wp2_with fail
          refine (TL.out N _ _).mono ?_
          rintro e w2 ⟨rfl, hb2⟩
          have HB4 := Lib.hid (HB3.out.trans (hb2.mono HB3.out.size))
          clear hb2
          go_wp2
          go_roundw
          case rel => first | exact ⟨k + 1, by omega, by go_num, HB4.out⟩ | ((repeat apply Exists.intro); exact ⟨⟨k + 1, by omega, by go_num, HB4.out⟩, rfl⟩)
          case measure => simp [intOf]; omega
        · obtain rfl : k = 66 := by omega
          go_wp2_with fail
          refine (TL.out Y _ _).mono ?_
          rintro e w1 ⟨rfl, hb1⟩
          have HB3 := Lib.hid (HB2.out.trans (hb1.mono HB2.out.size))
          clear hb1
          obtain ⟨r, hr, hr3⟩ : ∃ r : Nat, (i : Int) % 4 = (r : Int) ∧ r ≤ 3 := ⟨i % 4, by omega, by omega⟩
          obtain ⟨l, hl, hrow⟩ := take_row w1 X.toNat i N.toNat X.isLt (by omega) N.isLt 22 r hr3
          subst hl
          have HM := Lib.hid (MJ.out X _ _ l _ hrow)
          have HBa := Lib.hid (HB3.out.alloc HB3.out.size (.cells #[.int .u64 (X.toNat : Int), .int .u64 (i : Int), .int .u64 (N.toNat : Int)] 22))
          clear hrow
          go_wp2_with fail
          refine HM.out.mono ?_
          rintro e w2 ⟨rfl, hb2⟩
          have HB4 := Lib.hid (HBa.out.trans (hb2.mono HBa.out.size))
          clear hb2
          go_wp2
          go_roundw
          case rel => exact ⟨i + 1, by omega, by go_num, HB4.out⟩
          case measure => simp [intOf]; omega
    · obtain rfl : i = 64 := by omega
      rw [show ((64 : Nat) : Int) = 64 from rfl]
      go_wp2
      go_loopw [53] (fun i wr => ∃ k : Nat, k ≤ 300 ∧ i = .int .u64 (k : Int) ∧ Below w.heap.size w wr) (fun i _ => 300 - (intOf i).toNat)
      case atStart => exact ⟨0, by omega, rfl, HB.out⟩
      case round =>
        obtain ⟨k, hk, rfl, hbel⟩ := hrel
        have HB2 := Lib.hid hbel
        clear hbel HB
        by_cases hlt2 : k < 300
        · have hTk := Lib.hid (fun y W => by have h := TL.out (BitVec.ofNat 64 k) y W; rw [← uvn (by omega : k < 18446744073709551616)] at h; exact h)
          obtain ⟨S, hS⟩ := wrap_bv ((k : Int) * (k : Int))
          go_wp2_with fail
          refine (hTk.out _ _).mono ?_
          rintro e w1 ⟨rfl, hb1⟩
          have HB3 := Lib.hid (HB2.out.trans (hb1.mono HB2.out.size))
          clear hb1
          have HM := Lib.hid (MJ.out S (some ⟨w1.heap.size, 0, none⟩) 1 [k] _ (NRow.one w1 k (by omega) 22))
          have HBa := Lib.hid (HB3.out.alloc HB3.out.size (.cells #[.int .u64 (k : Int)] 22))
          go_wp2_with fail
          refine HM.out.mono ?_
          rintro e w2 ⟨rfl, hb2⟩
          have HB4 := Lib.hid (HBa.out.trans (hb2.mono HBa.out.size))
          clear hb2
          go_wp2
          go_roundw
          case rel => first | exact ⟨k + 1, by omega, by go_num, HB4.out⟩ | ((repeat apply Exists.intro); exact ⟨⟨k + 1, by omega, by go_num, HB4.out⟩, rfl⟩)
          case measure => simp [intOf]; omega
        · obtain rfl : k = 300 := by omega
          rw [show ((300 : Nat) : Int) = 300 from rfl]
          go_wp2
          go_loopw [75] (fun i wr => ∃ k : Nat, k ≤ 14 ∧ i = .int .i64 (k : Int) ∧ Below w.heap.size w wr) (fun i _ => 14 - (intOf i).toNat)
          case atStart => exact ⟨0, by omega, rfl, HB2.out⟩
          case round =>
            obtain ⟨i, hi, rfl, hbel⟩ := hrel
            have HB := Lib.hid hbel
            clear hbel HB2
            by_cases hlt3 : i < 14
            · obtain ⟨k, hk, hk13⟩ : ∃ k : Nat, max ((i : Int) - 1) 0 = (k : Int) ∧ k ≤ 13 := ⟨i - 1, by omega, by omega⟩
              obtain ⟨P, hP⟩ : ∃ P, (⟨#[102, 49, 50, 51, 52, 53, 54, 55, 56, 57, 117, 118, 103]⟩ : ByteArray).extract 0 i = P := ⟨_, rfl⟩
              obtain ⟨S, hS⟩ : ∃ S, (⟨#[102, 49, 50, 51, 52, 53, 54, 55, 56, 57, 117, 118, 103]⟩ : ByteArray).extract i 13 = S := ⟨_, rfl⟩
              obtain ⟨K, hK⟩ : ∃ K, (⟨#[102, 49, 50, 51, 52, 53, 54, 55, 56, 57, 117, 118, 103]⟩ : ByteArray).extract 0 k = K := ⟨_, rfl⟩
              have sP : P.size ≤ 13 := by rw [← hP, ByteArray.size_extract]; omega
              have sS : S.size ≤ 13 := by rw [← hS, ByteArray.size_extract]; omega
              have sK : K.size ≤ 13 := by rw [← hK, ByteArray.size_extract]; omega
              have hd14 : decide ((i : Int) < 14) = true := decide_eq_true (by omega)
              have hi13 : (i : Int) ≤ 13 := by omega
              have hk13' : (k : Int) ≤ 13 := by omega
              go_wp2
              have HBx := Lib.hid (show Below w.heap.size w wr.drew from HB.out.drew)
              have f0 := fun W => cat1 P 48 sP W
              have g0 := fun W => cat2 P 48 S sP sS W
              have f1 := fun W => cat1 K 119 sK W
              have g1 := fun W => cat2 K 119 S sK sS W
              have f2 := fun W => cat1 K 86 sK W
              have g2 := fun W => cat2 K 86 S sK sS W
              have f3 := fun W => cat1 K 103 sK W
              have g3 := fun W => cat2 K 103 S sK sS W
              have f4 := fun W => cat1 K 47 sK W
              have g4 := fun W => cat2 K 47 S sK sS W
              have f5 := fun W => cat1 K 58 sK W
              have g5 := fun W => cat2 K 58 S sK sS W
              have f6 := fun W => cat1 K 96 sK W
              have g6 := fun W => cat2 K 96 S sK sS W
              have f7 := fun W => cat1 K 0 sK W
              have g7 := fun W => cat2 K 0 S sK sS W
              dsimp only [List.append]
              go_region_held3 (fun _ => True) (trivial) (first | fail)
              clear f0 g0 f1 g1 f2 g2 f3 g3 f4 g4 f5 g5 f6 g6 f7 g7 hP hS hK
              have hall := ten_short P K S sP sK sS
              obtain ⟨C, hC⟩ : ∃ C : Array Value, C = #[.string P, .string S, .string (P ++ ⟨#[48]⟩ ++ S), .string (K ++ ⟨#[119]⟩ ++ S), .string (K ++ ⟨#[86]⟩ ++ S), .string (K ++ ⟨#[103]⟩ ++ S), .string (K ++ ⟨#[47]⟩ ++ S), .string (K ++ ⟨#[58]⟩ ++ S), .string (K ++ ⟨#[96]⟩ ++ S), .string (K ++ ⟨#[0]⟩ ++ S)] := ⟨_, rfl⟩
              rw [← hC] at hall ⊢
              clear hC
              have hrow : ((wr.alloc (.cells C 9)).drew).heap[wr.heap.size]? = some (.cells C 9 (0, 0)) := World.alloc_heap_new wr _
              have hb3 : Below w.heap.size w ((wr.alloc (.cells C 9)).drew) := (HB.out.alloc HB.out.size _).drew
              obtain ⟨W3, hW3⟩ : ∃ W3, W3 = (wr.alloc (.cells C 9)).drew := ⟨_, rfl⟩
              rw [← hW3] at hrow hb3 ⊢
              have HR := Lib.hid hrow
              have HB3 := Lib.hid hb3
              have HA := Lib.hid hall
              clear hrow hb3 hW3 hall HBx
              generalize wr.heap.size = bk at *
              go_wp2
              go_loopw [153] (fun n wx => ∃ j : Nat, j ≤ 10 ∧ n = .int .i64 (j : Int) ∧ Below W3.heap.size W3 wx) (fun n _ => 10 - (intOf n).toNat)
              case atStart => exact ⟨0, by omega, rfl, Below.refl _ _⟩
              case round =>
                obtain ⟨j, hj, rfl, hbx⟩ := hrel
                have HBX := Lib.hid hbx
                clear hbx
                by_cases hlt4 : j < 10
                · obtain ⟨s, hs, hsz⟩ := HA.out j hlt4
                  have hcell := (HBX.out.cell (p := ⟨bk, j, none⟩) (Array.getElem?_eq_some_iff.1 HR.out).1).trans ((cell_of_row W3 bk j C 9 (0, 0) HR.out).trans hs)
                  have HRd := Lib.hid (fun W => reads_of hsz W)
                  clear hs hsz
                  go_wp2_with fail
                  refine (HRd.out _).mono ?_
                  rintro e w1 ⟨rfl, hb1⟩
                  have HB5 := Lib.hid (HBX.out.trans (hb1.mono HBX.out.size))
                  clear hb1
                  go_wp2
                  go_roundw
                  case rel => first | exact ⟨j + 1, by omega, by go_num, HB5.out⟩ | ((repeat apply Exists.intro); exact ⟨⟨j + 1, by omega, by go_num, HB5.out⟩, rfl⟩)
                  case measure => simp [intOf]; omega
                · obtain rfl : j = 10 := by omega
                  have HB6 := Lib.hid (HB3.out.trans (HBX.out.mono HB3.out.size))
                  go_wp2
                  go_roundw
                  case rel => first | exact ⟨i + 1, by omega, by go_num, HB6.out⟩ | ((repeat apply Exists.intro); exact ⟨⟨i + 1, by omega, by go_num, HB6.out⟩, rfl⟩)
                  case measure => simp [intOf]; omega
            · obtain rfl : i = 14 := by omega
              go_wp2_with fail
              refine (RD.out [102, 118, 118, 118, 118, 118, 118, 118, 118, 118, 118, 118, 118] (by simp) _).mono ?_
              rintro e w1 ⟨rfl, hb1⟩
              have HB1 := Lib.hid (HB.out.trans (hb1.mono HB.out.size))
              clear hb1
              go_wp2_with fail
              refine (RD.out [48, 48, 48, 48, 48, 48, 48, 48, 48, 48, 48, 48, 48] (by simp) _).mono ?_
              rintro e w2 ⟨rfl, hb2⟩
              have HB2 := Lib.hid (HB1.out.trans (hb2.mono HB1.out.size))
              clear hb2
              go_wp2_with fail
              refine (RD.out [118, 118, 118, 118, 118, 118, 118, 118, 118, 118, 118, 118, 118] (by simp) _).mono ?_
              rintro e w3 ⟨rfl, hb3⟩
              have HB3 := Lib.hid (HB2.out.trans (hb3.mono HB2.out.size))
              clear hb3
              go_wp2_with fail
              refine (AW.out _).mono ?_
              rintro e w4 ⟨rfl, hb4⟩
              have HB4 := Lib.hid (HB3.out.trans (hb4.mono HB3.out.size))
              clear hb4
              go_wp2
              go_ret
              exact ⟨rfl, HB4.out⟩
end Go.Proofs.Ytnghalhmbjiefaa
