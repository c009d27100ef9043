/-
  CONTRACT of the law's made: the names of some numbers.
-/
import Derived.Test.YtdaalpiiagmdfaaNameFew
import Derived.Test.YtdaalpiiagmdfaaNameMadeP
namespace Go.Proofs.Ytdaalpiiagmdfaa
open Go.RowKit Go.Shelf

/-- A slice of small numbers that lies in a world. -/
def MRow (w : World) (v : Value) (l : List Nat) : Prop :=
  (l = [] ∧ ∃ a c, v = .slice a 0 c) ∨ ∃ b o c, v = .slice (some ⟨b, o, none⟩) l.length c ∧ b < w.heap.size ∧ l.length ≤ c ∧ ∀ (i x : Nat), l[i]? = some x → w.cell? ⟨b, o + i, none⟩ = some (.int .u16 (x : Int))
/-- The names of the first 40. -/
def mades (l : List Nat) : List (List UInt8) := (l.take 40).map madeN

set_option maxRecDepth 100000 in
set_option maxHeartbeats 2000000 in
theorem mades_calls (v : Value) (l : List Nat) (w : World) (h : MRow w v l) (hl : ∀ x ∈ l, x < 65536) (hlen : l.length ≤ maxLen) :
    Calls Try.prog 18 #[v] w fun e w' => ∃ v', e = .returned v' ∧ OwnS w' w.heap.size v' (mades l) ∧ Below w.heap.size w w' := by
  obtain ⟨i0, hi0, hz0, hz1, hz2⟩ := info_parts info_str
  have HI := Lib.hid hi0
  have HZ0 := Lib.hid hz0
  have HZ1 := Lib.hid hz1
  have HZ2 := Lib.hid hz2
  clear hi0 hz0 hz1 hz2
  unfold maxLen at hlen
  have HLt := Lib.hid hl
  obtain ⟨n, hnn⟩ : ∃ n, min l.length 40 = n := ⟨_, rfl⟩
  have hmin : min (l.length : Int) 40 = (n : Int) := by omega
  have hmax : max (n : Int) 0 = (n : Int) := by omega
  have hnl : n ≤ l.length := by omega
  have hm : mades l = (l.take n).map madeN := by
    unfold mades
    rw [← hnn]
    by_cases h40 : l.length ≤ 40
    · rw [Nat.min_eq_left h40, List.take_of_length_le h40, List.take_length]
    · rw [Nat.min_eq_right (by omega)]
  have HM := Lib.hid hm
  have hn40 : n ≤ 40 := by omega
  clear hl hm
  rcases h with ⟨rfl, a, c, rfl⟩ | ⟨b, o, c, rfl, hb, hc, hcell⟩
  · obtain rfl : n = 0 := by simp at hnn; omega
    clear hnn hmin hmax
    go_enter Try.func18, Try.ntmps18
    go_wp2
    refine wp_loop_rounds 1 ?_
    rw [rounds_succ]
    go_wp2
    go_ret
    exact ⟨_, rfl, by rw [HM.out]; exact World.ownsRow_nil _ _ _ _, Below.refl _ _⟩
  · have HCell := Lib.hid hcell
    clear hcell hnn
    go_enter Try.func18, Try.ntmps18
    go_wp2
    go_loopw [3, 12] (fun ov iv wr => ∃ k : Nat, k ≤ n ∧ iv = .int .i64 (k : Int) ∧ OwnS wr w.heap.size ov ((l.take k).map madeN) ∧ Below w.heap.size w wr) (fun _ iv _ => n - (intOf iv).toNat)
    case atStart => exact ⟨0, by omega, rfl, World.ownsRow_nil _ _ _ _, Below.refl _ _⟩
    case round =>
      obtain ⟨k, hk, rfl, hown, hbel⟩ := hrel
      have HO := Lib.hid hown
      have HB := Lib.hid hbel
      have hsize := hbel.size
      obtain ⟨oa, oc, rfl⟩ := ownsS_shape hown
      clear hown hbel
      by_cases hlt : k < n
      · have hkl : k < l.length := by omega
        have c1 := (HB.out.cell (p := ⟨b, o + k, none⟩) hb).trans (HCell.out k l[k] (List.getElem?_eq_getElem hkl))
        have HMk := Lib.hid (fun W => made_calls l[k] (HLt.out _ (List.getElem_mem hkl)) W)
        have HTk := Lib.hid (show (l.take (k + 1)).map madeN = (l.take k).map madeN ++ [madeN l[k]] by rw [List.take_succ_eq_append_getElem hkl, List.map_append]; rfl)
        have hlen2 : ((l.take k).map madeN).length ≤ 40 := by rw [List.length_map, List.length_take]; omega
        have hlt' : (k : Int) < (n : Int) := by omega
        generalize l[k] = x at *
        generalize (l.take k).map madeN = O at *
        generalize madeN x = y at *
        simp only [str] at HMk
        go_wp2_with fail
        refine (HMk.out _).mono ?_
        rintro e w1 ⟨rfl, hb1⟩
        have HB1 := Lib.hid (HB.out.trans (hb1.mono HB.out.size))
        have HO1 := Lib.hid (ownS_below HO.out hb1)
        have hs1 := HB1.out.size
        clear hb1
        go_wp2_with (at_builtin; refine wpList_append_own _ rfl _ _ 22 rfl w.heap.size 9 i0 (.string ⟨#[]⟩) 1 16 Try.underlying22 HI.out HZ0.out HZ1.out HZ2.out rfl (by decide) _ _ _ rfl (HO1.out.alloc _) ⟨w1.heap.size, 0, none⟩ 1 1 [str y] rfl rfl (cell_one_new _ _ _) (strs_one [y]) (by unfold maxLen; omega) (by omega) (by simp; omega) ?_; intro v2 w2 hown2 hgr2 _; have HO2 := Lib.hid (show OwnS w2 w.heap.size v2 (O ++ [y]) by unfold OwnS; rw [List.length_append, List.map_append]; exact hown2); have HB2 := Lib.hid ((HB1.out.alloc HB1.out.size _).grown hgr2 (by simp; omega) (fun k hk => (HO1.out.lt k hk).1)); clear hown2 hgr2)
        go_roundw
        case rel => exact ⟨k + 1, by omega, by go_num, by rw [HTk.out]; exact HO2.out, HB2.out⟩
        case measure => simp [intOf]; omega
      · obtain rfl : k = n := by omega
        have hnn2 : ¬ (k : Int) < (k : Int) := by omega
        generalize (l.take k).map madeN = O at *
        go_wp2
        go_ret
        exact ⟨_, rfl, by rw [HM.out]; exact HO.out, HB.out⟩
end Go.Proofs.Ytdaalpiiagmdfaa
