/-
  THE WALK of fermatalaw06.RngSmall: it returns true, and writes nothing that was there.
-/
import Derived.Test.YtfcajgfhmfpchaaRngBad
namespace Go.Proofs.Ytfcajgfhmfpchaa
open Go.RowKit Pl

/-- tells, for whatever it is asked. -/
theorem tellsR_calls (s v : BitVec 64) (p i n k : Int) (hn : n ≤ 9223372036854775807) (W : World) :
    Calls Try.prog 12 #[.int .u64 (s.toNat : Int), .int .i64 p, .int .i64 i, .int .i64 n, .int .i64 k, .int .u64 (v.toNat : Int)] W fun e w' => e = .returned (.bool true) ∧ Below W.heap.size W w' := by
  by_cases hp : p < 0 ∨ 65536 < p
  · exact tellsR_no s v p i n k hp W
  · obtain ⟨q, rfl⟩ : ∃ q : Nat, p = (q : Int) := ⟨p.toNat, by omega⟩
    exact tellsR_yes s v q i n k (by omega) hn W
theorem wrap_bv (a : Int) : ∃ X : BitVec 64, IntKind.u64.wrap a = (X.toNat : Int) := by
  rw [IntKind.wrap_u64]
  exact uv_of (Int.emod_nonneg _ (by decide)) (Int.emod_lt_of_pos _ (by decide))

set_option maxRecDepth 100000 in
set_option maxHeartbeats 8000000 in
theorem rngSmall_walk (w : World) :
    Calls Try.prog 5 #[] w fun e w' => e = .returned (.bool true) ∧ Below w.heap.size w w' := by
  have AW := Lib.hid (fun W => awakeR_calls W)
  have TL := Lib.hid (fun s v p i n k hn W => tellsR_calls s v p i n k hn W)
  have BL := Lib.hid (fun v n k hv hn W => belowL_calls v n k hv hn W)
  go_enter Try.func5, Try.ntmps5
  have LW1 := Lib.hid (LitR.new w #[.int .u64 0, .int .u64 1, .int .u64 18446744073709551615, .int .u64 11400714819323198485] 22 IsU (by intro v hv; simp at hv; rcases hv with rfl | rfl | rfl | rfl <;> exact isU_of (by decide) (by decide)))
  have BW1 := Lib.hid ((Below.refl w.heap.size w).alloc (Nat.le_refl _) (.cells #[.int .u64 0, .int .u64 1, .int .u64 18446744073709551615, .int .u64 11400714819323198485] 22))
  go_wp2_with fail
  generalize w.alloc (.cells #[.int .u64 0, .int .u64 1, .int .u64 18446744073709551615, .int .u64 11400714819323198485] 22) = W1 at *
  go_loopw [21] (fun i wr => ∃ k : Nat, k ≤ 4 ∧ i = .int .i64 (k : Int) ∧ Below W1.heap.size W1 wr) (fun i _ => 4 - (intOf i).toNat)
  case atStart => exact ⟨0, by omega, rfl, Below.refl _ _⟩
  case round =>
    obtain ⟨k1, hk1, rfl, hbel⟩ := hrel
    have C1 := Lib.hid hbel
    clear hbel
    by_cases hlk1 : k1 < 4
    · obtain ⟨u1, ⟨x1, rfl⟩, hc1⟩ := (LW1.out.below C1.out).2 k1 hlk1
      obtain ⟨V1, hV1⟩ : ∃ V1, V1 = wr := ⟨_, rfl⟩
      rw [← hV1] at C1 hc1 ⊢
      clear hV1
      have hd1 : decide ((k1 : Int) < 4) = true := decide_eq_true (by omega)
      have LW2 := Lib.hid (LitR.new V1 #[.int .i64 (-1), .int .i64 0, .int .i64 1, .int .i64 2, .int .i64 65536, .int .i64 65537, .int .i64 (-9223372036854775808)] 3 IsI (by intro v hv; simp at hv; rcases hv with rfl | rfl | rfl | rfl | rfl | rfl | rfl <;> exact isI_of (by decide)))
      have BW2 := Lib.hid ((Below.refl V1.heap.size V1).alloc (Nat.le_refl _) (.cells #[.int .i64 (-1), .int .i64 0, .int .i64 1, .int .i64 2, .int .i64 65536, .int .i64 65537, .int .i64 (-9223372036854775808)] 3))
      go_wp2_with fail
      generalize V1.alloc (.cells #[.int .i64 (-1), .int .i64 0, .int .i64 1, .int .i64 2, .int .i64 65536, .int .i64 65537, .int .i64 (-9223372036854775808)] 3) = W2 at *
      go_loopw [27] (fun i wr => ∃ k : Nat, k ≤ 7 ∧ i = .int .i64 (k : Int) ∧ Below W2.heap.size W2 wr) (fun i _ => 7 - (intOf i).toNat)
      case atStart => exact ⟨0, by omega, rfl, Below.refl _ _⟩
      case round =>
        obtain ⟨k2, hk2, rfl, hbel⟩ := hrel
        have C2 := Lib.hid hbel
        clear hbel
        by_cases hlk2 : k2 < 7
        · obtain ⟨u2, ⟨x2, hx2, rfl⟩, hc2⟩ := (LW2.out.below C2.out).2 k2 hlk2
          obtain ⟨V2, hV2⟩ : ∃ V2, V2 = wr := ⟨_, rfl⟩
          rw [← hV2] at C2 hc2 ⊢
          clear hV2
          have hd2 : decide ((k2 : Int) < 7) = true := decide_eq_true (by omega)
          have LW3 := Lib.hid (LitR.new V2 #[.int .i64 (-1), .int .i64 0, .int .i64 1, .int .i64 2, .int .i64 281474976710655, .int .i64 281474976710656, .int .i64 281474976710657] 3 IsI (by intro v hv; simp at hv; rcases hv with rfl | rfl | rfl | rfl | rfl | rfl | rfl <;> exact isI_of (by decide)))
          have BW3 := Lib.hid ((Below.refl V2.heap.size V2).alloc (Nat.le_refl _) (.cells #[.int .i64 (-1), .int .i64 0, .int .i64 1, .int .i64 2, .int .i64 281474976710655, .int .i64 281474976710656, .int .i64 281474976710657] 3))
          go_wp2_with fail
          generalize V2.alloc (.cells #[.int .i64 (-1), .int .i64 0, .int .i64 1, .int .i64 2, .int .i64 281474976710655, .int .i64 281474976710656, .int .i64 281474976710657] 3) = W3 at *
          go_loopw [33] (fun i wr => ∃ k : Nat, k ≤ 7 ∧ i = .int .i64 (k : Int) ∧ Below W3.heap.size W3 wr) (fun i _ => 7 - (intOf i).toNat)
          case atStart => exact ⟨0, by omega, rfl, Below.refl _ _⟩
          case round =>
            obtain ⟨k3, hk3, rfl, hbel⟩ := hrel
            have C3 := Lib.hid hbel
            clear hbel
            by_cases hlk3 : k3 < 7
            · obtain ⟨u3, ⟨x3, hx3, rfl⟩, hc3⟩ := (LW3.out.below C3.out).2 k3 hlk3
              obtain ⟨y3, hy3⟩ := wrap_bv x3
              go_wp2_with fail
              refine (TL.out x1 x1 x2 x3 x3 x2 hx3 _).mono ?_
              rintro e w4 ⟨rfl, hb⟩
              have D4 := Lib.hid (C3.out.trans (hb.mono C3.out.size))
              clear hb
              go_wp2_with fail
              refine (TL.out x1 y3 x2 x3 6 5 (by omega) _).mono ?_
              rintro e w5 ⟨rfl, hb⟩
              have D5 := Lib.hid (D4.out.trans (hb.mono D4.out.size))
              clear hb
              go_wp2
              go_roundw
              case rel => first | exact ⟨k3 + 1, by omega, by go_num, D5.out⟩ | ((repeat apply Exists.intro); exact ⟨⟨k3 + 1, by omega, by go_num, D5.out⟩, rfl⟩)
              case measure => simp [intOf]; omega
            · obtain rfl : k3 = 7 := by omega
              have D3 := Lib.hid (C2.out.trans ((BW3.out.trans (C3.out.mono BW3.out.size)).mono C2.out.size))
              go_wp2
              go_roundw
              case rel => first | exact ⟨k2 + 1, by omega, by go_num, D3.out⟩ | ((repeat apply Exists.intro); exact ⟨⟨k2 + 1, by omega, by go_num, D3.out⟩, rfl⟩)
              case measure => simp [intOf]; omega
        · obtain rfl : k2 = 7 := by omega
          have D2 := Lib.hid (C1.out.trans ((BW2.out.trans (C2.out.mono BW2.out.size)).mono C1.out.size))
          go_wp2
          go_roundw
          case rel => first | exact ⟨k1 + 1, by omega, by go_num, D2.out⟩ | ((repeat apply Exists.intro); exact ⟨⟨k1 + 1, by omega, by go_num, D2.out⟩, rfl⟩)
          case measure => simp [intOf]; omega
    · obtain rfl : k1 = 4 := by omega
      have D1 := Lib.hid (BW1.out.trans (C1.out.mono BW1.out.size))
      clear LW1 BW1 C1
      go_wp2_with fail
      obtain ⟨V4, hV4⟩ : ∃ V4, V4 = wr := ⟨_, rfl⟩
      rw [← hV4] at D1 ⊢
      clear hV4
      go_loopw [57] (fun i wr => ∃ k : Nat, k ≤ 41 ∧ i = .int .i64 (k : Int) ∧ Below V4.heap.size V4 wr) (fun i _ => 41 - (intOf i).toNat)
      case atStart => exact ⟨0, by omega, rfl, Below.refl _ _⟩
      case round =>
        obtain ⟨k4, hk4, rfl, hbel⟩ := hrel
        have C4 := Lib.hid hbel
        clear hbel
        by_cases hlk4 : k4 < 41
        · have hd4 : decide ((k4 : Int) < 41) = true := decide_eq_true (by omega)
          obtain ⟨y4, hy4⟩ := wrap_bv ((k4 : Int) * 288230376151711744)
          go_wp2_with fail
          obtain ⟨V5, hV5⟩ : ∃ V5, V5 = wr := ⟨_, rfl⟩
          rw [← hV5] at C4 ⊢
          clear hV5
          go_loopw [62] (fun i wr => ∃ k : Nat, k ≤ k4 + 2 ∧ i = .int .i64 (k : Int) ∧ Below V5.heap.size V5 wr) (fun i _ => k4 + 2 - (intOf i).toNat)
          case atStart => exact ⟨0, by omega, rfl, Below.refl _ _⟩
          case round =>
            obtain ⟨k5, hk5, rfl, hbel⟩ := hrel
            have C5 := Lib.hid hbel
            clear hbel
            by_cases hlk5 : k5 < k4 + 2
            · have hd5 : decide ((k5 : Int) < (k4 : Int) + 2) = true := decide_eq_true (by omega)
              go_wp2_with fail
              refine (BL.out y4.toNat (k4 : Int) _ y4.isLt (by omega) _).mono ?_
              rintro e w' ⟨rfl, rfl⟩
              go_wp2
              go_roundw
              case rel => first | exact ⟨k5 + 1, by omega, by go_num, C5.out⟩ | ((repeat apply Exists.intro); exact ⟨⟨k5 + 1, by omega, by go_num, C5.out⟩, rfl⟩)
              case measure => simp [intOf]; omega
            · obtain rfl : k5 = k4 + 2 := by omega
              have D5 := Lib.hid (C4.out.trans (C5.out.mono C4.out.size))
              go_wp2
              go_roundw
              case rel => first | exact ⟨k4 + 1, by omega, by go_num, D5.out⟩ | ((repeat apply Exists.intro); exact ⟨⟨k4 + 1, by omega, by go_num, D5.out⟩, rfl⟩)
              case measure => simp [intOf]; omega
        · obtain rfl : k4 = 41 := by omega
          have D4 := Lib.hid (D1.out.trans (C4.out.mono D1.out.size))
          clear C4 D1
          obtain ⟨V6, hV6⟩ : ∃ V6, V6 = wr := ⟨_, rfl⟩
          rw [← hV6] at D4 ⊢
          clear hV6
          have LW6 := Lib.hid (LitR.new V6 #[.int .i64 (-9223372036854775808), .int .i64 4294967296, .int .i64 4294967297, .int .i64 4611686018427387904, .int .i64 4611686018427387905, .int .i64 9223372036854775807] 2 IsI (by intro v hv; simp at hv; rcases hv with rfl | rfl | rfl | rfl | rfl | rfl <;> exact isI_of (by decide)))
          have BW6 := Lib.hid ((Below.refl V6.heap.size V6).alloc (Nat.le_refl _) (.cells #[.int .i64 (-9223372036854775808), .int .i64 4294967296, .int .i64 4294967297, .int .i64 4611686018427387904, .int .i64 4611686018427387905, .int .i64 9223372036854775807] 2))
          go_wp2_with fail
          generalize V6.alloc (.cells #[.int .i64 (-9223372036854775808), .int .i64 4294967296, .int .i64 4294967297, .int .i64 4611686018427387904, .int .i64 4611686018427387905, .int .i64 9223372036854775807] 2) = W6 at *
          go_loopw [77] (fun i wr => ∃ k : Nat, k ≤ 6 ∧ i = .int .i64 (k : Int) ∧ Below W6.heap.size W6 wr) (fun i _ => 6 - (intOf i).toNat)
          case atStart => exact ⟨0, by omega, rfl, Below.refl _ _⟩
          case round =>
            obtain ⟨k6, hk6, rfl, hbel⟩ := hrel
            have C6 := Lib.hid hbel
            clear hbel
            by_cases hlk6 : k6 < 6
            · obtain ⟨u6', ⟨x6, hx6, rfl⟩, hc6⟩ := (LW6.out.below C6.out).2 k6 hlk6
              obtain ⟨V7, hV7⟩ : ∃ V7, V7 = wr := ⟨_, rfl⟩
              rw [← hV7] at C6 hc6 ⊢
              clear hV7
              have hd6 : decide ((k6 : Int) < 6) = true := decide_eq_true (by omega)
              have hJ : ∀ A B C D : Int, ∀ v ∈ (#[.int .i64 0, .int .i64 1, .int .i64 A, .int .i64 B, .int .i64 C, .int .i64 D] : Array Value), IsJ v := by
                intro A B C D v hv
                simp at hv
                rcases hv with rfl | rfl | rfl | rfl | rfl | rfl <;> exact ⟨_, rfl⟩
              obtain ⟨R7, hR7⟩ : ∃ R7 : Array Value, R7 = #[.int .i64 0, .int .i64 1, .int .i64 (wrap64 (x6.tdiv 2)), .int .i64 (wrap64 (x6 - 2)), .int .i64 (wrap64 (x6 - 1)), .int .i64 x6] := ⟨_, rfl⟩
              have hR8 : R7.size = 6 := by rw [hR7]; rfl
              have hL7 := LitR.new V7 R7 2 IsJ (by rw [hR7]; exact hJ _ _ _ _)
              rw [hR8] at hL7
              have LW7 := Lib.hid hL7
              have BW7 := Lib.hid ((Below.refl V7.heap.size V7).alloc (Nat.le_refl _) (.cells R7 2))
              clear hL7 hR8 hJ
              go_wp2_with fail
              rw [← hR7]
              clear hR7
              generalize V7.alloc (.cells R7 2) = W7 at *
              go_loopw [90] (fun i wr => ∃ k : Nat, k ≤ 6 ∧ i = .int .i64 (k : Int) ∧ Below W7.heap.size W7 wr) (fun i _ => 6 - (intOf i).toNat)
              case atStart => exact ⟨0, by omega, rfl, Below.refl _ _⟩
              case round =>
                obtain ⟨k7, hk7, rfl, hbel⟩ := hrel
                have C7 := Lib.hid hbel
                clear hbel
                by_cases hlk7 : k7 < 6
                · obtain ⟨u7', ⟨x7, rfl⟩, hc7⟩ := (LW7.out.below C7.out).2 k7 hlk7
                  go_wp2_with fail
                  refine (BL.out 9223372036854775808 x6 x7 (by omega) hx6 _).mono ?_
                  rintro e w' ⟨rfl, rfl⟩
                  go_wp2_with fail
                  refine (BL.out 18446744073709551615 x6 x7 (by omega) hx6 _).mono ?_
                  rintro e w' ⟨rfl, rfl⟩
                  go_wp2_with fail
                  refine (BL.out 0 x6 x7 (by omega) hx6 _).mono ?_
                  rintro e w' ⟨rfl, rfl⟩
                  go_wp2
                  go_roundw
                  case rel => first | exact ⟨k7 + 1, by omega, by go_num, C7.out⟩ | ((repeat apply Exists.intro); exact ⟨⟨k7 + 1, by omega, by go_num, C7.out⟩, rfl⟩)
                  case measure => simp [intOf]; omega
                · obtain rfl : k7 = 6 := by omega
                  have D7 := Lib.hid (C6.out.trans ((BW7.out.trans (C7.out.mono BW7.out.size)).mono C6.out.size))
                  go_wp2
                  go_roundw
                  case rel => first | exact ⟨k6 + 1, by omega, by go_num, D7.out⟩ | ((repeat apply Exists.intro); exact ⟨⟨k6 + 1, by omega, by go_num, D7.out⟩, rfl⟩)
                  case measure => simp [intOf]; omega
            · obtain rfl : k6 = 6 := by omega
              have D6 := Lib.hid (D4.out.trans ((BW6.out.trans (C6.out.mono BW6.out.size)).mono D4.out.size))
              clear LW6 BW6 C6 D4
              obtain ⟨V8, hV8⟩ : ∃ V8, V8 = wr := ⟨_, rfl⟩
              rw [← hV8] at D6 ⊢
              clear hV8
              obtain ⟨Z8, hZ8⟩ : ∃ Z8, Z8 = V8.alloc (.cells #[.int .u64 0, .int .i64 0, .bool false] 52) := ⟨_, rfl⟩
              have hs8 : V8.heap.size < Z8.heap.size := by rw [hZ8]; simp
              have hc8 : Z8.cell? ⟨V8.heap.size, 2, none⟩ = some (.bool false) := by rw [hZ8]; simp
              have hb8 : Below V8.heap.size V8 Z8 := by rw [hZ8]; exact (Below.refl _ _).alloc (Nat.le_refl _) _
              have hg8 : V8.heap.size + 1 = Z8.heap.size := by rw [hZ8]; simp
              have hP8 : ∀ v ∈ (#[.pointer none, .pointer (some ⟨V8.heap.size, 0, none⟩)] : Array Value), BadS Z8 v := by
                intro v hv
                simp at hv
                rcases hv with rfl | rfl
                · exact .inl rfl
                · exact .inr ⟨_, rfl, hs8, hc8⟩
              have LW8 := Lib.hid (LitR.new Z8 #[.pointer none, .pointer (some ⟨V8.heap.size, 0, none⟩)] 26 (BadS Z8) hP8)
              have BW8 := Lib.hid (hb8.trans (((Below.refl Z8.heap.size Z8).alloc (Nat.le_refl _) (.cells #[.pointer none, .pointer (some ⟨V8.heap.size, 0, none⟩)] 26)).mono hb8.size))
              have BZ8 := Lib.hid ((Below.refl Z8.heap.size Z8).alloc (Nat.le_refl _) (.cells #[.pointer none, .pointer (some ⟨V8.heap.size, 0, none⟩)] 26))
              have HZ8 := Lib.hid hZ8
              have HG8 := Lib.hid hg8
              clear hs8 hc8 hb8 hP8 hZ8 hg8
              go_wp2_with fail
              rw [← HZ8.out]
              simp only [HG8.out]
              generalize Z8.alloc (.cells #[.pointer none, .pointer (some ⟨V8.heap.size, 0, none⟩)] 26) = W8 at *
              go_loopw [116] (fun i wr => ∃ k : Nat, k ≤ 2 ∧ i = .int .i64 (k : Int) ∧ Below W8.heap.size W8 wr) (fun i _ => 2 - (intOf i).toNat)
              case atStart => exact ⟨0, by omega, rfl, Below.refl _ _⟩
              case round =>
                obtain ⟨k8, hk8, rfl, hbel⟩ := hrel
                have C8 := Lib.hid hbel
                clear hbel
                by_cases hlk8 : k8 < 2
                · obtain ⟨v8, hv8, hc8⟩ := (LW8.out.below C8.out).2 k8 hlk8
                  have hbad := (hv8.below BZ8.out).below C8.out
                  have N8 := Lib.hid (next_bad v8 wr hbad)
                  have R8 := Lib.hid (draw_bad v8 0 wr hbad)
                  have M8 := Lib.hid (move_bad v8 (-1) wr hbad)
                  have X8 := Lib.hid (index_bad v8 wr hbad)
                  clear hv8 hbad
                  go_wp2_with fail
                  refine N8.out.mono ?_
                  rintro e w' ⟨rfl, rfl⟩
                  go_wp2_with fail
                  refine R8.out.mono ?_
                  rintro e w' ⟨rfl, rfl⟩
                  go_wp2_with fail
                  refine M8.out.mono ?_
                  rintro e w' ⟨rfl, rfl⟩
                  go_wp2_with fail
                  refine X8.out.mono ?_
                  rintro e w' ⟨rfl, rfl⟩
                  go_wp2
                  go_roundw
                  case rel => first | exact ⟨k8 + 1, by omega, by go_num, C8.out⟩ | ((repeat apply Exists.intro); exact ⟨⟨k8 + 1, by omega, by go_num, C8.out⟩, rfl⟩)
                  case measure => simp [intOf]; omega
                · obtain rfl : k8 = 2 := by omega
                  have D8 := Lib.hid (D6.out.trans ((BW8.out.trans (C8.out.mono BW8.out.size)).mono D6.out.size))
                  go_wp2_with fail
                  refine (AW.out _).mono ?_
                  rintro e w9 ⟨rfl, hb⟩
                  have D9 := Lib.hid (D8.out.trans (hb.mono D8.out.size))
                  clear hb
                  go_wp2
                  go_ret
                  exact ⟨rfl, D9.out⟩
end Go.Proofs.Ytfcajgfhmfpchaa
