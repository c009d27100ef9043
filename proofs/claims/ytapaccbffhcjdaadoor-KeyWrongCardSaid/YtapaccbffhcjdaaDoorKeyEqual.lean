/-
  CONTRACT of slices.Equal at keys; and a LAW for a region that draws its order, by a relation that is kept.
-/
import Derived.Test.YtapaccbffhcjdaaDoorKeyOrder
import Derived.Test.YtapaccbffhcjdaaDoorRegionBools
namespace Go.Proofs.YtapaccbffhcjdaaDoor
open Go.RowKit Go.Shelf Go.Sort

theorem kq_ext {l m : List Ky} (h : l.length = m.length) (hk : ∀ j, j < l.length → kq l j = kq m j) : l = m := by
  apply List.ext_getElem h
  intro j h1 h2
  have := hk j h1
  simpa only [kq, List.getD_eq_getElem?_getD, List.getElem?_eq_getElem h1, List.getElem?_eq_getElem h2, Option.getD_some] using this

set_option maxRecDepth 100000 in
set_option maxHeartbeats 1000000 in
theorem equalKs_calls (v1 v2 : Value) (l m : List Ky) (w : World) (h1 : KRow w v1 l) (h2 : KRow w v2 m) (hn : l.length ≤ 1000000) (hm : m.length ≤ 1000000) :
    Calls Tryd.prog 32 #[v1, v2] w fun e w' => e = .returned (.bool (decide (l = m))) ∧ Below w.heap.size w w' := by
  by_cases hlen : l.length = m.length
  · rcases h1 with ⟨rfl, a, c, rfl, hc⟩ | ⟨b, o, c, rfl, q1, q2, q3, q4⟩
    · obtain rfl : m = [] := List.eq_nil_of_length_eq_zero hlen.symm
      obtain ⟨a2, c2, rfl, -, -⟩ := h2.shape
      clear h2
      go_enter Tryd.func32, Tryd.ntmps32
      go_wp2_with fail
      go_loopw [5, 13] (fun s5 s13 wr => s13 = .int .i64 0 ∧ wr = w) (fun _ _ _ => 0)
      case atStart => exact ⟨rfl, rfl⟩
      case round =>
        obtain ⟨rfl, rfl⟩ := hrel
        go_wp2
        go_ret
        exact ⟨rfl, Below.refl _ _⟩
    · have HR := Lib.hid (show KRow w (.slice (some ⟨b, o, none⟩) l.length c) l from .inr ⟨b, o, c, rfl, q1, q2, q3, q4⟩)
      clear q1 q2 q3 q4
      rcases h2 with ⟨rfl, a, c2, rfl, hc⟩ | ⟨b2, o2, c2, rfl, r1, r2, r3, r4⟩
      · obtain rfl : l = [] := List.eq_nil_of_length_eq_zero hlen
        go_enter Tryd.func32, Tryd.ntmps32
        go_wp2_with fail
        go_loopw [5, 13] (fun s5 s13 wr => s13 = .int .i64 0 ∧ wr = w) (fun _ _ _ => 0)
        case atStart => exact ⟨rfl, rfl⟩
        case round =>
          obtain ⟨rfl, rfl⟩ := hrel
          go_wp2
          go_ret
          exact ⟨rfl, Below.refl _ _⟩
      · have HR2 := Lib.hid (show KRow w (.slice (some ⟨b2, o2, none⟩) m.length c2) m from .inr ⟨b2, o2, c2, rfl, r1, r2, r3, r4⟩)
        clear r1 r2 r3 r4
        obtain ⟨n, hln⟩ : ∃ n, l.length = n := ⟨_, rfl⟩
        have HN := Lib.hid hln
        have HM := Lib.hid (show m.length = n by omega)
        obtain ⟨d, hd⟩ : ∃ d, decide (l = m) = d := ⟨_, rfl⟩
        have HD := Lib.hid hd
        rw [hln] at hn
        rw [hln, HM.out, hd]
        clear hln hd hlen hm
        go_enter Tryd.func32, Tryd.ntmps32
        go_wp2_with fail
        go_loopw [5, 13] (fun s5 s13 wr => ∃ k : Nat, k ≤ n ∧ s13 = .int .i64 (k : Int) ∧ (∀ j, j < k → kq l j = kq m j) ∧ ∃ q, wr = w.drewN q) (fun _ s13 _ => n - (intOf s13).toNat)
        case atStart => exact ⟨0, Nat.zero_le _, rfl, fun j hj => absurd hj (Nat.not_lt_zero _), 0, rfl⟩
        case round =>
          obtain ⟨k, hk, rfl, hall, q, rfl⟩ := hrel
          have HAll := Lib.hid hall
          clear hall
          by_cases hlt : k < n
          · have hlt' : (k : Int) < (n : Int) := by omega
            obtain ⟨-, a1, a2, a3⟩ := HR.out.cells k (by rw [HN.out]; exact hlt)
            obtain ⟨-, b1, b2, b3⟩ := HR2.out.cells k (by rw [HM.out]; exact hlt)
            obtain ⟨x, hx⟩ : ∃ x, kq l k = x := ⟨_, rfl⟩
            obtain ⟨y, hy⟩ : ∃ y, kq m k = y := ⟨_, rfl⟩
            have HX := Lib.hid hx; have HY := Lib.hid hy
            rw [hx] at a1 a2 a3
            rw [hy] at b1 b2 b3
            have hNe := fun W => neqK x.1 x.2.1 x.2.2 y.1 y.2.1 y.2.2 W
            clear hx hy
            by_cases hxy : x = y
            · have hdd : decide ((x.1, x.2.1, x.2.2) = (y.1, y.2.1, y.2.2)) = true := decide_eq_true (show x = y from hxy)
              rw [hdd, Bool.not_true] at hNe
              clear hdd
              have HXY := Lib.hid hxy
              clear hxy
              go_wp2_with fail
              go_quiet (fail)
              go_wp2
              go_roundw
              case rel =>
                refine ⟨k + 1, hlt, by go_num, fun j hj => ?_, _, rfl⟩
                by_cases e : j = k
                · subst e; rw [HX.out, HY.out]; exact HXY.out
                · exact HAll.out j (by omega)
              case measure => simp [intOf]; omega
            · have hdd : decide ((x.1, x.2.1, x.2.2) = (y.1, y.2.1, y.2.2)) = false := decide_eq_false (show ¬ x = y from hxy)
              rw [hdd, Bool.not_false] at hNe
              clear hdd
              have e : d = false := by
                rw [← HD.out]
                exact decide_eq_false (fun h => hxy (by rw [← HX.out, ← HY.out, h]))
              subst e
              clear hxy HD
              go_wp2_with fail
              go_quiet (fail)
              go_wp2
              go_ret
              refine ⟨rfl, ?_⟩
              first
                | exact below_drewN _ _
                | (rw [World.drewN_drewN]; exact below_drewN _ _)
          · have hlt' : ¬ (k : Int) < (n : Int) := by omega
            have e : d = true := by
              rw [← HD.out]
              exact decide_eq_true (kq_ext (by rw [HN.out, HM.out]) (fun j hj => HAll.out j (by have := HN.out; omega)))
            subst e
            clear HD
            go_wp2
            go_ret
            exact ⟨rfl, below_drewN _ _⟩
  · have hd : decide (l = m) = false := decide_eq_false (fun h => hlen (by rw [h]))
    obtain ⟨a1, c1, rfl, -, -⟩ := h1.shape
    obtain ⟨a2, c2, rfl, -, -⟩ := h2.shape
    rw [hd]
    have hne : ¬ (l.length : Int) = (m.length : Int) := by omega
    clear h1 h2 hd
    go_enter Tryd.func32, Tryd.ntmps32
    go_wp2
    go_ret
    exact ⟨rfl, Below.refl _ _⟩
end Go.Proofs.YtapaccbffhcjdaaDoor
