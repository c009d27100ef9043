/-
  SLICES OF Small (layer 7) that came in, and the CONTRACT of the law's Keys.
-/
import Derived.Test.YtapaccbffhcjdaaDoorKeyLawP
namespace Go.Proofs.YtapaccbffhcjdaaDoor
open Go.RowKit Go.Shelf Go.Sort

/-- THE SLICE v OF Small READS AS S. -/
def SmRow (w : World) (v : Value) (S : List Ky) : Prop :=
  (∀ x ∈ S, SmallK x) ∧ ((S = [] ∧ ∃ a c, v = .slice a 0 c ∧ c ≤ maxLen) ∨ ∃ b o c, v = .slice (some ⟨b, o, none⟩) S.length c ∧ b < w.heap.size ∧ S.length ≤ c ∧ c ≤ maxLen ∧
    ∀ j, j < S.length → w.cell? ⟨b, o + j * 3, none⟩ = some (.int .u64 (kq S j).1) ∧ w.cell? ⟨b, o + j * 3 + 1, none⟩ = some (.int .u32 (kq S j).2.1) ∧ w.cell? ⟨b, o + j * 3 + 2, none⟩ = some (.int .u32 (kq S j).2.2))
theorem SmRow.shape {w : World} {v : Value} {S : List Ky} (h : SmRow w v S) : ∃ a c, v = .slice a S.length c ∧ S.length ≤ c ∧ c ≤ maxLen := by
  rcases h.2 with ⟨rfl, a, c, rfl, hc⟩ | ⟨b, o, c, rfl, _, h1, h2, _⟩
  · exact ⟨a, c, rfl, Nat.zero_le _, hc⟩
  · exact ⟨_, c, rfl, h1, h2⟩
theorem SmRow.below {w w' : World} {v : Value} {S : List Ky} (h : SmRow w v S) (hb : Below w.heap.size w w') : SmRow w' v S := by
  refine ⟨h.1, ?_⟩
  rcases h.2 with h | ⟨b, o, c, rfl, h1, h2, h3, h4⟩
  · exact .inl h
  · exact .inr ⟨b, o, c, rfl, Nat.lt_of_lt_of_le h1 hb.size, h2, h3, fun j hj => by
      have hc : ∀ q, w'.cell? ⟨b, q, none⟩ = w.cell? ⟨b, q, none⟩ := fun q => cell_blk (hb.block b h1) q
      rw [hc, hc, hc]; exact h4 j hj⟩
theorem SmRow.at {w : World} {b o n c : Nat} {S : List Ky} (h : SmRow w (.slice (some ⟨b, o, none⟩) n c) S) (j : Nat) (hj : j < S.length) :
    b < w.heap.size ∧ w.cell? ⟨b, o + j * 3, none⟩ = some (.int .u64 (kq S j).1) ∧ w.cell? ⟨b, o + j * 3 + 1, none⟩ = some (.int .u32 (kq S j).2.1) ∧ w.cell? ⟨b, o + j * 3 + 2, none⟩ = some (.int .u32 (kq S j).2.2) := by
  rcases h.2 with ⟨rfl, _⟩ | ⟨b', o', c', e, h1, _, _, h4⟩
  · cases hj
  · cases e; exact ⟨h1, h4 j hj⟩
theorem krow_one (w : World) (k : Ky) : KRow (w.alloc (.cells #[.int .i64 k.1, .int .i64 k.2.1, .int .i64 k.2.2] 23)) (.slice (some ⟨w.heap.size, 0, none⟩) 1 1) [k] := by
  refine .inr ⟨w.heap.size, 0, 1, rfl, by simp, by simp, by unfold maxLen; omega, fun t u ht => ?_⟩
  have hc := World.alloc_heap_new w (.cells #[.int .i64 k.1, .int .i64 k.2.1, .int .i64 k.2.2] 23)
  rw [Nat.zero_add]
  simp only [World.cell?, hc]
  rw [← Array.getElem?_toList]
  exact ht
theorem kq_mem {S : List Ky} {j : Nat} (h : j < S.length) : kq S j ∈ S := by
  unfold kq
  rw [List.getD_eq_getElem?_getD, List.getElem?_eq_getElem h]
  exact List.getElem_mem h
theorem kq_take {S : List Ky} {k : Nat} (h : k < S.length) : S.take (k + 1) = S.take k ++ [kq S k] := by
  rw [List.take_succ_eq_append_getElem h]
  congr 2
  simp [kq, List.getD_eq_getElem?_getD, h]

set_option maxRecDepth 100000 in
set_option maxHeartbeats 2000000 in
theorem keysK_calls (v : Value) (S : List Ky) (w : World) (h : SmRow w v S) :
    Calls Tryd.prog 28 #[v, .int .i64 40] w fun e w' => (∃ v', e = .returned v' ∧ OwnK w' w.heap.size v' ((S.take 40).map madeK)) ∧ Below w.heap.size w w' := by
  have HR := Lib.hid h
  obtain ⟨a, c, rfl, hlc, hc⟩ := h.shape
  unfold maxLen at hc
  obtain ⟨n, hn⟩ : ∃ n, S.length = n := ⟨_, rfl⟩
  have HN := Lib.hid hn
  obtain ⟨m, hm⟩ : ∃ m, min n 40 = m := ⟨_, rfl⟩
  have hmn : m ≤ n := by omega
  have hm40 : m ≤ 40 := by omega
  have e1 : (min (n : Int) 40).toNat = m := by omega
  have e2 : min (n : Int) 40 = (m : Int) := by omega
  have HT40 := Lib.hid (show S.take m = S.take 40 by
    rw [List.take_eq_take_iff]; omega)
  rw [hn] at hlc HR ⊢
  have hmc : (m : Int) ≤ (c : Int) := by omega
  have hn0 : (0 : Int) ≤ (n : Int) := by omega
  have hnc : (n : Int) ≤ (c : Int) := by omega
  have hm0 : (0 : Int) ≤ (m : Int) := by omega
  have hcc : (c : Int) ≤ 9223372036854775807 := by omega
  have HB0 := Lib.hid (Below.refl w.heap.size w)
  have HO0 := Lib.hid (OwnK.nil w w.heap.size)
  clear h hn hm hc
  go_enter Tryd.func28, Tryd.ntmps28
  go_wp2_with fail
  go_loopw [5, 15] (fun s5 s15 wr => ∃ k : Nat, k ≤ m ∧ s15 = .int .i64 (k : Int) ∧ OwnK wr w.heap.size s5 ((S.take k).map madeK) ∧ Below w.heap.size w wr) (fun _ s15 _ => m - (intOf s15).toNat)
  case atStart => exact ⟨0, Nat.zero_le _, rfl, HO0.out, HB0.out⟩
  case round =>
    obtain ⟨k, hk, rfl, hO, hB⟩ := hrel
    have HO := Lib.hid hO; have HB := Lib.hid hB
    clear hO hB
    by_cases hlt : k < m
    · have hkm : (k : Int) < (m : Int) := by omega
      have hlS : k < S.length := by rw [HN.out]; omega
      have hr := HR.out.below HB.out
      rcases HR.out.2 with ⟨h0, _⟩ | ⟨b, o, c', e, _⟩
      · rw [h0] at hlS; cases hlS
      · cases e
        obtain ⟨hbl, y0, y1, y2⟩ := hr.at k hlS
        have hsm := HR.out.1 _ (kq_mem hlS)
        have HTk := Lib.hid (kq_take hlS)
        obtain ⟨x, hx⟩ : ∃ x, kq S k = x := ⟨_, rfl⟩
        rw [hx] at y0 y1 y2 hsm HTk
        have HM := Lib.hid (fun W => madeK_calls x W hsm)
        have HSm := Lib.hid (show SAt (wr.alloc (.cells #[.int .u64 x.1, .int .u32 x.2.1, .int .u32 x.2.2] 33)) wr.heap.size x from World.alloc_heap_new wr _)
        have hb := (Below.refl wr.heap.size wr).alloc (Nat.le_refl _) (.cells #[.int .u64 x.1, .int .u32 x.2.1, .int .u32 x.2.2] 33)
        have HO1 := Lib.hid (HO.out.below hb)
        have HB1 := Lib.hid (HB.out.trans (hb.mono HB.out.size))
        have HLn := Lib.hid (show ((S.take k).map madeK).length ≤ 40 by rw [List.length_map, List.length_take]; omega)
        have HMk := Lib.hid (show (S.take (k + 1)).map madeK = (S.take k).map madeK ++ [madeK x] by rw [HTk.out, List.map_append]; rfl)
        clear hb hr hlS hsm hx hbl
        go_wp2_with fail
        clear y0 y1 y2
        refine (HM.out _).mono ?_
        rintro e w5 ⟨rfl, hb⟩
        have HO5 := Lib.hid (HO1.out.below hb)
        have HB5 := Lib.hid (HB1.out.trans (hb.mono HB1.out.size))
        clear hb
        have HA := Lib.hid ((Below.refl w5.heap.size w5).alloc (Nat.le_refl _) (.cells #[.int .i64 (madeK x).1, .int .i64 (madeK x).2.1, .int .i64 (madeK x).2.2] 23))
        have HK := Lib.hid (krow_one w5 (madeK x))
        generalize madeK x = y at *
        go_wp2_with (at_builtin; go_must (refine wpList_appendK rfl (.tmp 19) (.tmp 22) (by rfl) w.heap.size _ ((S.take k).map madeK) (by first | rfl | simp [Act.eval]) (HO5.out.below HA.out) _ [y] (by first | rfl | simp [Act.eval]) HK.out (by have := HLn.out; simp only [List.length_singleton]; omega) (Nat.le_trans HB5.out.size HA.out.size) ?_; intro v6 w6 hr6 hg6 _ _; have HR6 := Lib.hid hr6; have HB6 := Lib.hid ((HB5.out.trans (HA.out.mono HB5.out.size)).grown hg6 (Nat.le_trans HB5.out.size HA.out.size) (fun j hj => (World.ownsRow.lt (HO5.out.below HA.out) j hj).1)); clear hr6 hg6))
        go_roundw
        case rel => exact ⟨k + 1, by omega, by go_num, by rw [HMk.out]; exact HR6.out, HB6.out⟩
        case measure => simp [intOf]; omega
    · have hkm : ¬ (k : Int) < (m : Int) := by omega
      obtain rfl : k = m := by omega
      clear hlt
      go_wp2
      go_ret
      refine ⟨⟨_, rfl, ?_⟩, HB.out⟩
      have h := HO.out
      rw [HT40.out] at h
      first | exact h | (rw [List.map_take] at h; exact h)
end Go.Proofs.YtapaccbffhcjdaaDoor
