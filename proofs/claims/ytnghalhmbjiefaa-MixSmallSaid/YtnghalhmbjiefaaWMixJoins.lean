/-
  THE WALK of fermatalaw05.MixJoins: it returns true, and writes nothing that was there.
-/
import Derived.Test.YtnghalhmbjiefaaFrame
import Derived.Test.YtnghalhmbjiefaaMixAwake
import Derived.Test.YtnghalhmbjiefaaMixRefC
import Derived.Test.YtnghalhmbjiefaaAppend64
import Derived.BigQuiet
namespace Go.Proofs.Ytnghalhmbjiefaa
open Go.RowKit Pl

theorem nrow_slice {w : World} {v : Value} {l : List Nat} (h : NRow w v l) : ∃ a c, v = .slice a l.length c ∧ l.length ≤ c ∧ c ≤ maxLen := by
  obtain ⟨_, ⟨a, c, rfl, rfl, hc⟩ | ⟨b, off, cap, rfl, h1, h2, _⟩⟩ := h
  · exact ⟨a, c, rfl, Nat.zero_le _, hc⟩
  · exact ⟨_, cap, rfl, h1, h2⟩
theorem nrow_at {w : World} {a : Option Addr} {n c : Nat} {l : List Nat} (h : NRow w (.slice a n c) l) (i : Nat) (hi : i < l.length) : ∃ b off, a = some ⟨b, off, none⟩ ∧ w.cell? ⟨b, off + i, none⟩ = some (.int .u64 (gt l i : Int)) := by
  obtain ⟨_, ⟨_, _, _, rfl, _⟩ | ⟨b, off, cap, hv, _, _, h3⟩⟩ := h
  · simp at hi
  · simp only [Value.slice.injEq] at hv
    exact ⟨b, off, hv.1, h3 i hi⟩
theorem join_last_back (j : BitVec 64) (l : List Nat) : joinN (l ++ [(lastB j (bvL l)).toNat]) = j := by
  rw [joinN_snoc, BitVec.ofNat_toNat, BitVec.setWidth_eq]
  have := joinB_last j (bvL l)
  rwa [joinB_snoc] at this

set_option maxRecDepth 100000 in
set_option maxHeartbeats 2000000 in
theorem mixJoins_walk (j : BitVec 64) (a : Option Addr) (c : Nat) (l : List Nat) (w : World) (hl : NRow w (.slice a l.length c) l) :
    Calls Try.prog 4 #[.int .u64 (j.toNat : Int), .slice a l.length c] w fun e w' => e = .returned (.bool true) ∧ Below w.heap.size w w' := by
  have AW := Lib.hid (fun W => awake5_calls W)
  by_cases h40 : 40 < l.length
  · have h1 : (40 : Int) < (l.length : Int) := by omega
    clear hl
    go_enter Try.func4, Try.ntmps4
    go_wp2_with fail
    refine (AW.out _).mono ?_
    rintro e w2 ⟨rfl, hb2⟩
    have HB2 := Lib.hid hb2
    clear hb2
    go_wp2
    go_ret
    exact ⟨rfl, HB2.out⟩
  · have h1 : ¬ (40 : Int) < (l.length : Int) := by omega
    have HL := Lib.hid hl
    have hbnd := Lib.hid hl.1
    have hn := Lib.hid (show l.length ≤ 40 by omega)
    clear hl h40
    go_enter Try.func4, Try.ntmps4
    go_wp2_with (at_builtin; refine wpList_appendN rfl _ _ rfl w.heap.size _ [] rfl (ownN_lit w [] _ _ _ _ rfl rfl rfl rfl (by simp) _ (Nat.le_refl _)) _ l rfl (HL.out.below ((Below.refl _ _).alloc (Nat.le_refl _) _)) (by have := hn.out; simp; omega) (by simp) ?_; intro v1 w1 hown hgrow; have HB1 := Lib.hid (((Below.refl _ _).alloc (Nat.le_refl _) _).trans (below_appendN (ownN_lit w [] _ _ _ _ rfl rfl rfl rfl (by simp) _ (Nat.le_refl _)) hgrow (by simp))); have HO := Lib.hid (show OwnN w1 w.heap.size v1 l from hown); clear hown hgrow)
    obtain ⟨a1, c1, rfl, hc1, hm1⟩ := ownN_shape HO.out
    unfold maxLen at hm1
    have HR1 := Lib.hid (NRow.of_ownN HO.out hbnd.out)
    refine (join_calls _ l _ HR1.out).mono ?_
    rintro e w' ⟨rfl, rfl⟩
    go_wp2_with fail
    refine (last_calls j _ l _ HR1.out).mono ?_
    rintro e w2 ⟨rfl, hb2⟩
    have HB2 := Lib.hid (HB1.out.trans (hb2.mono HB1.out.size))
    have HR2 := Lib.hid (HR1.out.below hb2)
    have HO2 := Lib.hid (ownsRow_below HO.out hb2)
    have HL2 := Lib.hid (HL.out.below HB2.out)
    clear hb2
    have hback := Lib.hid (join_last_back j l)
    have hlast := Lib.hid (uv_bounds (lastB j (bvL l)))
    generalize lastB j (bvL l) = la at *
    go_wp2
    go_loopw [23] (fun i wr => ∃ k : Nat, k ≤ l.length ∧ i = .int .i64 (k : Int) ∧ ∃ n, wr = w2.drewN n) (fun i _ => l.length - (intOf i).toNat)
    case atStart => exact ⟨0, by omega, rfl, 0, rfl⟩
    case round =>
      obtain ⟨k, hk, rfl, nd, rfl⟩ := hrel
      by_cases hlt : k < l.length
      · obtain ⟨b, off, rfl, hcell⟩ := nrow_at HL2.out k hlt
        obtain ⟨b1, off1, rfl, hcell1⟩ := nrow_at HR2.out k hlt
        have hne : ((gt l k : Int) != (gt l k : Int)) = false := by simp
        go_wp2
        go_quiet (fail)
        rename_i nq
        go_wp2
        go_roundw
        case rel => exact ⟨k + 1, by omega, by go_num, nd + nq, by simp [World.drewN]⟩
        case measure => simp [intOf]; omega
      · obtain rfl : k = l.length := by omega
        have HB3 := Lib.hid (below_drewN HB2.out nd)
        have HO3 := Lib.hid (ownsRow_below HO2.out (below_drewN (Below.refl _ _) nd))
        have HL3 := Lib.hid (HL2.out.below (below_drewN (Below.refl _ _) nd))
        generalize w2.drewN nd = w3 at *
        have hjj : ((joinN l).toNat : Int) = ((joinN l).toNat : Int) := rfl
        have qj : (((joinN l).toNat : Int) == ((joinN l).toNat : Int)) = true := by simp
        have qj2 : ((j.toNat : Int) == (j.toNat : Int)) = true := by simp
        clear hjj
        go_wp2_with fail
        refine (rjoin_calls l.length _ l _ rfl HL3.out).mono ?_
        rintro e w' ⟨rfl, nd2, rfl⟩
        have HB4 := Lib.hid (below_drewN HB3.out nd2)
        have HO4 := Lib.hid (ownsRow_below HO3.out (below_drewN (Below.refl _ _) nd2))
        generalize w3.drewN nd2 = w4 at *
        go_wp2_with (at_builtin; refine wpList_appendNW (by rfl) _ _ rfl w.heap.size _ l rfl (ownsRow_below HO4.out ((Below.refl _ _).alloc (Nat.le_refl _) _)) _ [la.toNat] rfl (NRow.one w4 la.toNat (by have := hlast.out; omega) _) (by have := hn.out; simp; omega) (by have := HB4.out.size; simp; omega) ?_; intro v5 w5 hown hgrow; have HB5 := Lib.hid ((HB4.out.alloc HB4.out.size _).trans (below_appendN (ownsRow_below HO4.out ((Below.refl _ _).alloc (Nat.le_refl _) _)) hgrow (by have := HB4.out.size; simp; omega))); have HO5 := Lib.hid hown; clear hown hgrow)
        have HR5 := Lib.hid (NRow.of_ownN HO5.out (by intro x hx; rcases List.mem_append.1 hx with h | h; exact hbnd.out x h; rw [List.mem_singleton.1 h]; have := hlast.out; omega))
        refine (rjoin_calls _ _ (l ++ [la.toNat]) _ rfl HR5.out).mono ?_
        rw [hback.out]
        rintro e w' ⟨rfl, nd3, rfl⟩
        have HB6 := Lib.hid (below_drewN HB5.out nd3)
        generalize w5.drewN nd3 = w6 at *
        go_wp2_with fail
        refine (AW.out _).mono ?_
        rintro e w7 ⟨rfl, hb7⟩
        have HB7 := Lib.hid (HB6.out.trans (hb7.mono HB6.out.size))
        clear hb7
        go_wp2
        go_ret
        exact ⟨rfl, HB7.out⟩
end Go.Proofs.Ytnghalhmbjiefaa
