/-
  CONTRACTS of the methods of a stream that is none (nil, or not made by New); rows of numbers of the walk's own.
-/
import Derived.Test.YtfcajgfhmfpchaaWRngTells
namespace Go.Proofs.Ytfcajgfhmfpchaa
open Go.RowKit Pl

/-- No stream. -/
def BadS (W : World) (v : Value) : Prop := v = .pointer none ∨ ∃ X, v = .pointer (some ⟨X, 0, none⟩) ∧ X < W.heap.size ∧ W.cell? ⟨X, 2, none⟩ = some (.bool false)
theorem BadS.below {W W' : World} {v : Value} (h : BadS W v) (hb : Below W.heap.size W W') : BadS W' v := by
  rcases h with h | ⟨X, h1, h2, h3⟩
  · exact .inl h
  · exact .inr ⟨X, h1, Nat.lt_of_lt_of_le h2 hb.size, cell_below hb h2 h3⟩
theorem is_bad (v : Value) (w : World) (h : BadS w v) :
    Calls Try.prog 33 #[v] w fun e w' => e = .returned (.bool false) ∧ w = w' := by
  rcases h with rfl | ⟨X, rfl, _, hc⟩
  · go_enter Try.func33, Try.ntmps33
    go_wp2
    go_ret
    exact ⟨rfl, rfl⟩
  · go_enter Try.func33, Try.ntmps33
    go_wp2
    go_ret
    exact ⟨rfl, rfl⟩
theorem next_bad (v : Value) (w : World) (h : BadS w v) :
    Calls Try.prog 17 #[v] w fun e w' => e = .returned (.tuple #[.int .u64 0, .int .i64 1]) ∧ w = w' := by
  have hI := Lib.hid (is_bad v w h)
  clear h
  go_enter_defers Try.func17, Try.ntmps17
  go_wp2_with fail
  refine hI.out.mono ?_
  rintro e w' ⟨rfl, rfl⟩
  go_wp2
  exact ⟨_, results_tmp2 rfl _ _ _, rfl, rfl⟩
theorem draw_bad (v : Value) (n : Int) (w : World) (h : BadS w v) :
    Calls Try.prog 18 #[v, .int .i64 n] w fun e w' => e = .returned (.tuple #[.int .i64 0, .int .i64 1]) ∧ w = w' := by
  have hI := Lib.hid (is_bad v w h)
  clear h
  go_enter Try.func18, Try.ntmps18
  go_wp2_with fail
  refine hI.out.mono ?_
  rintro e w' ⟨rfl, rfl⟩
  go_wp2
  go_ret2
  exact ⟨rfl, rfl⟩
theorem move_bad (v : Value) (n : Int) (w : World) (h : BadS w v) :
    Calls Try.prog 20 #[v, .int .i64 n] w fun e w' => e = .returned (.int .i64 1) ∧ w = w' := by
  have hI := Lib.hid (is_bad v w h)
  clear h
  go_enter Try.func20, Try.ntmps20
  go_wp2_with fail
  refine hI.out.mono ?_
  rintro e w' ⟨rfl, rfl⟩
  go_wp2
  go_ret
  exact ⟨rfl, rfl⟩
theorem index_bad (v : Value) (w : World) (h : BadS w v) :
    Calls Try.prog 21 #[v] w fun e w' => e = .returned (.int .i64 0) ∧ w = w' := by
  have hI := Lib.hid (is_bad v w h)
  clear h
  go_enter Try.func21, Try.ntmps21
  go_wp2_with fail
  refine hI.out.mono ?_
  rintro e w' ⟨rfl, rfl⟩
  go_wp2
  go_ret
  exact ⟨rfl, rfl⟩

/-- A row of n values of the walk's own, each of which is right. -/
def LitR (W : World) (g n : Nat) (P : Value → Prop) : Prop := g < W.heap.size ∧ ∀ k, k < n → ∃ v, P v ∧ W.cell? ⟨g, k, none⟩ = some v
theorem LitR.below {W W' : World} {g n : Nat} {P : Value → Prop} (h : LitR W g n P) (hb : Below W.heap.size W W') : LitR W' g n P :=
  ⟨Nat.lt_of_lt_of_le h.1 hb.size, fun k hk => by obtain ⟨v, h1, h2⟩ := h.2 k hk; exact ⟨v, h1, cell_below hb h.1 h2⟩⟩
theorem LitR.new (W : World) (cs : Array Value) (t : TypeId) (P : Value → Prop) (h : ∀ v ∈ cs, P v) : LitR (W.alloc (.cells cs t)) W.heap.size cs.size P := by
  refine ⟨by simp, fun k hk => ⟨cs[k], h _ (Array.getElem_mem hk), ?_⟩⟩
  have hn := World.alloc_heap_new W (.cells cs t)
  unfold World.cell?
  rw [hn]
  exact Array.getElem?_eq_getElem hk
/-- Numbers with and without a sign. -/
def IsU (v : Value) : Prop := ∃ x : BitVec 64, v = .int .u64 (x.toNat : Int)
def IsI (v : Value) : Prop := ∃ x : Int, x ≤ 9223372036854775807 ∧ v = .int .i64 x
def IsJ (v : Value) : Prop := ∃ x : Int, v = .int .i64 x
theorem isU_of {x : Int} (h0 : 0 ≤ x) (h1 : x < 18446744073709551616) : IsU (.int .u64 x) := by
  obtain ⟨y, rfl⟩ := uv_of h0 h1
  exact ⟨y, rfl⟩
theorem isI_of {x : Int} (h : x ≤ 9223372036854775807) : IsI (.int .i64 x) := ⟨x, h, rfl⟩
end Go.Proofs.Ytfcajgfhmfpchaa
