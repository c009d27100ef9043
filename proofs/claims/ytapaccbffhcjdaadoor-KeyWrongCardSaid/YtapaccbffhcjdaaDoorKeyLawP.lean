/-
  WHAT THE LAWS OF LAYER 7 SHARE: blocks with keys, carried from world to world.
-/
import Derived.Test.YtapaccbffhcjdaaDoorKeyStepsP
import Derived.Test.YtapaccbffhcjdaaDoorKeyCmp
namespace Go.Proofs.YtapaccbffhcjdaaDoor
open Go.RowKit Go.Shelf Go.Sort

theorem KAt.below {W W' : World} {K : Nat} {k : Ky} (h : KAt W K k) (hb : Below W.heap.size W W') : KAt W' K k := (hb.block _ h.lt).trans h
/-- A block holds a small key. -/
def SAt (W : World) (b : Nat) (x : Ky) : Prop := W.heap[b]? = some (.cells #[.int .u64 x.1, .int .u32 x.2.1, .int .u32 x.2.2] 33 (0, 0))
theorem SAt.lt {W : World} {b : Nat} {x : Ky} (h : SAt W b x) : b < W.heap.size := (Array.getElem?_eq_some_iff.1 h).1
theorem SAt.below {W W' : World} {b : Nat} {x : Ky} (h : SAt W b x) (hb : Below W.heap.size W W') : SAt W' b x := (hb.block _ h.lt).trans h
theorem SAt.cells {W : World} {b : Nat} {x : Ky} (h : SAt W b x) : W.cell? ⟨b, 0, none⟩ = some (.int .u64 x.1) ∧ W.cell? ⟨b, 1, none⟩ = some (.int .u32 x.2.1) ∧ W.cell? ⟨b, 2, none⟩ = some (.int .u32 x.2.2) := by
  unfold SAt at h
  exact ⟨by simp [World.cell?, h], by simp [World.cell?, h], by simp [World.cell?, h]⟩
theorem orderL3_calls (a1 a2 a3 b1 b2 b3 : Int) (w : World) :
    Calls Tryd.prog 23 #[.agg #[.int .i64 a1, .int .i64 a2, .int .i64 a3], .agg #[.int .i64 b1, .int .i64 b2, .int .i64 b3]] w fun e w' => e = .returned (.int .i64 (cfK (a1, a2, a3) (b1, b2, b3))) ∧ Below w.heap.size w w' := orderL_calls (a1, a2, a3) (b1, b2, b3) w
theorem text_le {k : Ky} (h : RightK k) : (textK k).length ≤ 100 := by
  unfold RightK at h
  have h1 := dec_len k.1.toNat (by omega)
  have h2 := dec_len k.2.1.toNat (by omega)
  have h3 := dec_len k.2.2.toNat (by omega)
  unfold textK
  simp only [List.length_append, List.length_singleton]
  omega
theorem rightL_grown (k : Ky) (h : RightK k) (w : World) : Calls Tryd.prog 21 #[.agg #[.int .i64 k.1, .int .i64 k.2.1, .int .i64 k.2.2]] w fun e w' => e = .returned (.bool true) ∧ ∃ q os, w' = Go.Sort.grow (w.drewN q) os := by
  have := rightK_calls k w
  rw [decide_eq_true h] at this
  exact Drawn.calls_grow this
theorem grown_same {f : FuncId} {args : Array Value} {w : World} {v : Value} (h : Calls Tryd.prog f args w fun e w' => e = .returned v ∧ w = w') : Calls Tryd.prog f args w fun e w' => e = .returned v ∧ ∃ q os, w' = Go.Sort.grow (w.drewN q) os :=
  h.mono fun _ _ ⟨he, hw⟩ => ⟨he, 0, #[], by rw [← hw, Go.Sort.grow_empty]; rfl⟩
end Go.Proofs.YtapaccbffhcjdaaDoor
