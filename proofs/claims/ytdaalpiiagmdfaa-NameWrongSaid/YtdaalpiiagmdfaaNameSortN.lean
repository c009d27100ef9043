/-
  CONTRACT of slices.SortFunc at nil, and of slices.Compact at a slice of the call's own.
-/
import Derived.Test.YtdaalpiiagmdfaaNameFew
import Derived.Test.YtdaalpiiagmdfaaNameOfP
import Derived.Lib.OwnBridge
import Derived.Sort.OwnSorted
namespace Go.Proofs.Ytdaalpiiagmdfaa
open Go.RowKit Go.Shelf Go.Sort

set_option maxRecDepth 100000 in
theorem insNil_calls (fv : Value) (w : World) :
    Calls Try.prog 89 #[.slice none 0 0, .int .i64 0, .int .i64 0, fv] w fun e w' => e = .returned (.tuple #[]) ∧ w' = w := by
  go_enter Try.func89, Try.ntmps89
  go_wp2
  refine wp_loop_rounds 1 ?_
  rw [rounds_succ]
  go_wp2
  go_end0
  exact ⟨rfl, rfl⟩
set_option maxRecDepth 100000 in
set_option maxHeartbeats 2000000 in
theorem pdqNil_calls (lim : Int) (fv : Value) (w : World) :
    Calls Try.prog 76 #[.slice none 0 0, .int .i64 0, .int .i64 0, .int .i64 lim, fv] w fun e w' => e = .returned (.tuple #[]) ∧ w' = w := by
  have hi := Lib.hid (fun W => insNil_calls fv W)
  go_enter Try.func76, Try.ntmps76
  go_wp2
  refine wp_loop_rounds 1 ?_
  rw [rounds_succ]
  go_wp2_with fail
  refine (hi.out _).mono ?_
  rintro e w' ⟨rfl, rfl⟩
  go_wp2
  (try simp only [Exit.inBlock, Exit.then])
  refine bodyPost_ret (results_none rfl _ _ _) rfl ?_
  exact ⟨rfl, rfl⟩
set_option maxRecDepth 100000 in
theorem sortNil_calls (fv : Value) (w : World) :
    Calls Try.prog 50 #[.slice none 0 0, fv] w fun e w' => e = .returned (.tuple #[]) ∧ w' = w := by
  have hp := Lib.hid (fun lim W => pdqNil_calls lim fv W)
  have hl := Lib.hid (fun W => Try.bits_Len 0 W (by omega) (by omega))
  go_enter Try.func50, Try.ntmps50
  go_wp2_with fail
  refine (hl.out _).mono ?_
  rintro e w' ⟨rfl, rfl⟩
  go_wp2_with fail
  refine (hp.out _ _).mono ?_
  rintro e w' ⟨rfl, rfl⟩
  go_wp2
  go_end0
  exact ⟨rfl, rfl⟩

theorem compactS_calls (v : Value) (ts : List (List UInt8)) (w : World) (base : Nat) (hown : OwnS w base v ts) (hlen : ts.length ≤ 1000000) :
    Calls Try.prog 51 #[v] w fun e w' => ∃ v', e = .returned v' ∧ OwnS w' base v' (Lib.compact ts) ∧ ∀ B w0, Below B w0 w → B ≤ base → Below B w0 w' := by
  by_cases hv : v = .slice none 0 0
  · subst hv
    have hn : ts = [] := by
      obtain ⟨hl, ⟨_, h0⟩ | ⟨g, cap, cur, e0, _⟩⟩ := hown
      · exact List.eq_nil_of_length_eq_zero h0
      · cases e0
    subst hn
    exact (Try.slices_Compact_string_empty none 0 w).mono fun e w' ⟨he, hw⟩ => ⟨_, he, by rw [hw]; exact World.ownsRow_nil _ _ _ _, fun B w0 h _ => by rw [hw]; exact h⟩
  · obtain ⟨g, cap, rfl, hbase, hlt, hnc, hcm, hlz, hH⟩ := Lib.holds_of_ownsRow (enc := encStr) (zs := ts) hown hv
    have h := Try.slices_Compact_string g 0 cap ts w hH (by omega) hnc
    refine h.mono ?_
    rintro e w' ⟨he, q, rfl⟩
    have hle := Lib.compact_length_le ts
    refine ⟨_, he, ?_, fun B w0 hB hb => Lib.below_putRow hB (by omega)⟩
    have := Lib.ownsRow_putRow (enc := encStr) (q := q) (k := (Lib.compact ts).length) (ys := Lib.compact ts ++ List.replicate (ts.length - (Lib.compact ts).length) []) hown (by simp; omega) (by omega)
    rw [List.take_left] at this
    exact this
end Go.Proofs.Ytdaalpiiagmdfaa
