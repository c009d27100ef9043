/-
  CONTRACTS of the reference's decimal, Text and Bytes.
-/
import Derived.Test.YtapaccbffhcjdaaDoorKeyRef
import Derived.Test.YtapaccbffhcjdaaDoorKeyOwnB
import Derived.Deep.RegionHeld3
namespace Go.Proofs.YtapaccbffhcjdaaDoor
open Go.RowKit Go.Shelf
open Go.Lib (decDigits)

theorem dec_len2 (x : Nat) (h : x ≤ 281474976710656) : (decDigits x).length ≤ 21 := dec_len x h
theorem cell_br {W : World} {p : Nat} {c : Int} (h0 : 0 ≤ c) (h1 : c < 256) (h : W.heap[p]? = some (.cells #[.int .u8 c] 5 (0, 0))) : BR W (.slice (some ⟨p, 0, none⟩) 1 1) [UInt8.ofNat c.toNat] := by
  refine .inr ⟨p, 0, 1, rfl, (Array.getElem?_eq_some_iff.1 h).1, by simp, by unfold maxLen; omega, fun j hj => ?_⟩
  obtain rfl : j = 0 := by simpa using hj
  have e : ((UInt8.ofNat c.toNat).toNat : Int) = c := by rw [UInt8.toNat_ofNat']; omega
  simp only [World.cell?, h, List.getD_cons_zero, e]
  rfl
set_option maxRecDepth 100000 in
set_option maxHeartbeats 2000000 in
theorem decimal_calls (x : Nat) (w : World) (hx : x ≤ 281474976710656) :
    Calls Tryd.prog 78 #[.int .i64 (x : Int)] w fun e w' => e = .returned (.string ⟨(decDigits x).toArray⟩) ∧ Below w.heap.size w w' := by
  induction x using Nat.strongRecOn generalizing w with
  | _ x ih =>
  by_cases hs : x < 10
  · have HR := Lib.hid (show decDigits x = [UInt8.ofNat (48 + (x : Int)).toNat] by rw [dec_small hs, show (48 + (x : Int)).toNat = 48 + x by omega])
    have HB := Lib.hid ((Below.refl w.heap.size w).alloc (Nat.le_refl _) (.cells #[.int .u8 (48 + (x : Int))] 5))
    have hcv := br_text (br_one w (48 + (x : Int)) (by omega) (by omega))
    have d3 : IntKind.u8.wrap (48 + (x : Int)) = 48 + (x : Int) := by rw [IntKind.wrap_u8]; omega
    have hs' : (x : Int) < 10 := by omega
    rw [HR.out]
    clear ih hx hs
    go_enter Tryd.func78, Tryd.ntmps78
    go_wp2
    go_ret
    exact ⟨rfl, HB.out⟩
  · have hq : x / 10 < x := by omega
    have IH := Lib.hid (fun W => ih (x / 10) hq W (by omega))
    have d1 : (x : Int).tdiv 10 = ((x / 10 : Nat) : Int) := by rw [Int.tdiv_eq_ediv_of_nonneg (by omega)]; omega
    have d2 : (x : Int).tmod 10 = ((x % 10 : Nat) : Int) := by rw [Int.tmod_eq_emod_of_nonneg (by omega)]; omega
    have e1 : (x : Int) / 10 = ((x / 10 : Nat) : Int) := by omega
    have e2 : (x : Int) % 10 = ((x % 10 : Nat) : Int) := by omega
    have hl := dec_len2 (x / 10) (by omega)
    have HX := Lib.hid (dec_big hs)
    obtain ⟨q, hqe⟩ : ∃ q, x / 10 = q := ⟨_, rfl⟩
    obtain ⟨r, hre⟩ : ∃ r, x % 10 = r := ⟨_, rfl⟩
    rw [hqe] at IH d1 e1 hl HX
    rw [hre] at d2 e2 HX
    have hr0 : r < 10 := by omega
    have hq1 : (q : Int) ≤ 281474976710656 := by omega
    have hq0 : (0 : Int) ≤ (q : Int) := by omega
    have hr1 : (r : Int) < 10 := by omega
    have hr2 : (0 : Int) ≤ (r : Int) := by omega
    have d3 : IntKind.u8.wrap (48 + (r : Int)) = 48 + (r : Int) := by rw [IntKind.wrap_u8]; omega
    have wq : IntKind.i64.wrap (q : Int) = (q : Int) := by rw [IntKind.wrap_i64]; omega
    have wr_ : IntKind.i64.wrap (r : Int) = (r : Int) := by rw [IntKind.wrap_i64]; omega
    have w48 : IntKind.i64.wrap (48 + (r : Int)) = 48 + (r : Int) := by rw [IntKind.wrap_i64]; omega
    have hs' : ¬ (x : Int) < 10 := by omega
    have HCv := Lib.hid (fun (W : World) (p : Nat) (h : W.heap[p]? = some (.cells #[.int .u8 (48 + (r : Int))] 5 (0, 0))) => br_text (cell_br (c := 48 + (r : Int)) (by omega) (by omega) h))
    have hcat := bcat (decDigits q) [UInt8.ofNat (48 + (r : Int)).toNat]
    have hfin : (⟨(decDigits q ++ [UInt8.ofNat (48 + (r : Int)).toNat]).toArray⟩ : ByteArray) = ⟨(decDigits x).toArray⟩ := by
      rw [HX.out, show (48 + (r : Int)).toNat = 48 + r by omega]
    rw [hfin] at hcat
    have sD : (⟨(decDigits q).toArray⟩ : ByteArray).size = (decDigits q).length := by simp [ByteArray.size]
    have sC : (⟨[UInt8.ofNat (48 + (r : Int)).toNat].toArray⟩ : ByteArray).size = 1 := by simp [ByteArray.size]
    obtain ⟨D, hD⟩ : ∃ D : ByteArray, ⟨(decDigits q).toArray⟩ = D := ⟨_, rfl⟩
    obtain ⟨C, hC⟩ : ∃ D : ByteArray, ⟨[UInt8.ofNat (48 + (r : Int)).toNat].toArray⟩ = D := ⟨_, rfl⟩
    obtain ⟨X, hX⟩ : ∃ D : ByteArray, ⟨(decDigits x).toArray⟩ = D := ⟨_, rfl⟩
    rw [hD] at IH hcat sD
    rw [hC] at HCv hcat sC
    rw [hX] at hcat ⊢
    have n1 : D.size + C.size ≤ 9223372036854775807 := by omega
    have n2 : ¬ 9223372036854775807 < D.size + C.size := by omega
    clear ih hx hs hq hl HX hqe hre hfin hD hC hX sD sC
    go_enter Tryd.func78, Tryd.ntmps78
    go_wp2_with fail
    refine (wpIn_wide (n := 5)).1 ?_
    refine wpIn_region_inv (by kernel_rfl) (by kernel_rfl) (fun B a wc => ∃ p : Nat, a = { tmps := #[.int .i64 (x : Int), undef, bif B 10 then .string X else .string ⟨#[]⟩, .int .i64 (x : Int), .bool false, undef, undef, undef, undef, undef, bif B 0 then .int .i64 (x : Int) else undef, bif B 1 then .int .i64 (q : Int) else undef, bif B 2 then .string D else undef, bif B 3 then .int .i64 (x : Int) else undef, bif B 4 then .int .i64 (r : Int) else undef, bif B 5 then .int .i64 (48 + (r : Int)) else undef, bif B 6 then .int .u8 (48 + (r : Int)) else undef, bif B 7 then .slice (some ⟨p, 0, none⟩) 1 1 else undef, bif B 8 then .string C else undef, bif B 9 then .string X else undef], defers := [] } ∧ Below w.heap.size w wc ∧ (B 7 = true → wc.heap[p]? = some (.cells #[.int .u8 (48 + (r : Int))] 5 (0, 0)) ∧ p < wc.heap.size)) ?init ?step ?fin
    case init => exact ⟨0, rfl, (Below.refl _ _).drew, by simp⟩
    case step =>
      intro B j a wc hj hbj hcl hw hI K hK
      obtain ⟨p, rfl, hB, h7⟩ := hI
      have hj : j < 11 := hj
      clear hcl
      obtain rfl | rfl | rfl | rfl | rfl | rfl | rfl | rfl | rfl | rfl | rfl : j = 0 ∨ j = 1 ∨ j = 2 ∨ j = 3 ∨ j = 4 ∨ j = 5 ∨ j = 6 ∨ j = 7 ∨ j = 8 ∨ j = 9 ∨ j = 10 := by omega
      all_goals (simp [waits, Region.binds] at hw)
      · simp only [hbj, cond_false]
        refine wpOpIn_step rfl ?_
        intro K' hK'
        go_simp
        exact hK' _ _ (hK _ _ ⟨p, by simp [upd], hB, fun h => by simpa [upd] using h7 (by simpa [upd] using h)⟩)
      · simp only [hbj, hw, cond_true, cond_false]
        refine wpOpIn_step rfl ?_
        intro K' hK'
        go_simp
        exact hK' _ _ (hK _ _ ⟨p, by simp [upd, hw], hB, fun h => by simpa [upd] using h7 (by simpa [upd] using h)⟩)
      · simp only [hbj, hw, cond_true, cond_false]
        refine wpOpIn_step rfl ?_
        intro K' hK'
        go_simp
        refine ⟨trivial, (callsIn_wide.2 (IH.out wc)).mono ?_⟩
        rintro e w' ⟨rfl, hb⟩
        exact hK' _ _ (hK _ _ ⟨p, by simp [upd, hw], hB.trans (hb.mono hB.size), fun h => (hb.block _ (h7 (by simpa [upd] using h)).2).trans (h7 (by simpa [upd] using h)).1 |> fun e => ⟨e, Nat.lt_of_lt_of_le (h7 (by simpa [upd] using h)).2 hb.size⟩⟩)
      · simp only [hbj, cond_false]
        refine wpOpIn_step rfl ?_
        intro K' hK'
        go_simp
        exact hK' _ _ (hK _ _ ⟨p, by simp [upd], hB, fun h => by simpa [upd] using h7 (by simpa [upd] using h)⟩)
      · simp only [hbj, hw, cond_true, cond_false]
        refine wpOpIn_step rfl ?_
        intro K' hK'
        go_simp
        exact hK' _ _ (hK _ _ ⟨p, by simp [upd, hw], hB, fun h => by simpa [upd] using h7 (by simpa [upd] using h)⟩)
      · simp only [hbj, hw, cond_true, cond_false]
        refine wpOpIn_step rfl ?_
        intro K' hK'
        go_simp
        exact hK' _ _ (hK _ _ ⟨p, by simp [upd, hw], hB, fun h => by simpa [upd] using h7 (by simpa [upd] using h)⟩)
      · simp only [hbj, hw, cond_true, cond_false]
        refine wpOpIn_step rfl ?_
        intro K' hK'
        go_simp
        exact hK' _ _ (hK _ _ ⟨p, by simp [upd, hw], hB, fun h => by simpa [upd] using h7 (by simpa [upd] using h)⟩)
      · simp only [hbj, hw, cond_true, cond_false]
        refine wpOpIn_step rfl ?_
        intro K' hK'
        go_simp
        have hb := (Below.refl wc.heap.size wc).alloc (Nat.le_refl _) (.cells #[.int .u8 (48 + (r : Int))] 5)
        exact hK' _ _ (hK _ _ ⟨wc.heap.size, by simp [upd, hw], hB.trans (hb.mono hB.size), fun _ => ⟨World.alloc_heap_new wc _, by simp⟩⟩)
      · have hp := (h7 (by simp [hw])).1
        have hcv := HCv.out wc p hp
        simp only [hbj, hw, cond_true, cond_false]
        refine wpOpIn_step rfl ?_
        intro K' hK'
        go_simp
        exact hK' _ _ (hK _ _ ⟨p, by simp [upd, hw], hB, fun h => by simpa [upd] using h7 (by simpa [upd] using h)⟩)
      · simp only [hbj, hw, cond_true, cond_false]
        refine wpOpIn_step rfl ?_
        intro K' hK'
        go_simp
        exact hK' _ _ (hK _ _ ⟨p, by simp [upd, hw], hB, fun h => by simpa [upd] using h7 (by simpa [upd] using h)⟩)
      · simp only [hbj, hw, cond_true, cond_false]
        refine wpOpIn_step rfl ?_
        intro K' hK'
        go_simp
        exact hK' _ _ (hK _ _ ⟨p, by simp [upd, hw], hB, fun h => by simpa [upd] using h7 (by simpa [upd] using h)⟩)
    case fin =>
      intro B a wc hall hI
      obtain ⟨p, rfl, hB, -⟩ := hI
      simp only [hall 0 (by decide), hall 1 (by decide), hall 2 (by decide), hall 3 (by decide), hall 4 (by decide), hall 5 (by decide), hall 6 (by decide), hall 7 (by decide), hall 8 (by decide), hall 9 (by decide), hall 10 (by decide), cond_true]
      clear hall
      have HB := Lib.hid hB
      clear hB
      go_wp2
      go_ret
      exact ⟨rfl, HB.out⟩
end Go.Proofs.YtapaccbffhcjdaaDoor
