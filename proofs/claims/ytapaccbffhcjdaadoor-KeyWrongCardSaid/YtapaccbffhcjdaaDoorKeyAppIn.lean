/-
  ONE STEP of a region that draws its order, in whatever fence: an append to a row of keys of the call's own.
-/
import Derived.Test.YtapaccbffhcjdaaDoorKeyOwn
import Derived.Test.YtapaccbffhcjdaaDoorRegionAny
namespace Go.Proofs.YtapaccbffhcjdaaDoor
open Go Go.RowKit

theorem wpOpIn_append {F : Fence} {n : Nat} {ops : Array Oper} {Q : Exit → Act → World → Prop} {i : Nat} {o : Oper} {K : Act → World → Prop} {a : Act} {w w' : World} {v xv v' : Value} (ho : ops[i]? = some o) (hgd : o.guard = none) (s x : Operand)
    (hop : o.op = .call { callee := .builtin .append, args := #[s, x], argTypes := #[28, 28] })
    (hs : a.eval s = v) (hx : a.eval x = xv) (hr : (Builtin.append_ #[28, 28] o.type #[v, xv]).run Tryd.prog w = .ok v' w') (h : K (a.put o.dst v') w') : wpOpIn F n Tryd.prog ops Q i K a w := by
  refine wpOpIn_step ho ?_
  intro K' hK'
  rw [if_pos (by simp [Region.wanted, hgd])]
  refine ⟨fun f hf => ?_, ?_⟩
  · simp [Oper.about, hop, resolve, Target.leads] at hf
  · rw [Oper.semAt_eq _ _ _ (by rw [hop]; intro c h; cases h)]
    unfold execOp
    simp only [hop, resolve, invoke, builtin, Sem.run_bind, Sem.run_pure, Result.andThen_ok, List.map_toArray, List.map_cons, List.map_nil, hs, hx, hr]
    exact hK' _ _ h
end Go.Proofs.YtapaccbffhcjdaaDoor
