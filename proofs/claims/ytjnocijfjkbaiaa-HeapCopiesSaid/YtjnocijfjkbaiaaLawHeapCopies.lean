/-
  PROVED: fermatalaw08.HeapCopies returns true for every slice of acts and every act, and leaves what it was handed as it was. No condition beyond the given row's own.
-/
import Derived.Test.YtjnocijfjkbaiaaWHeapCopies
import Derived.Test.YtjnocijfjkbaiaaHeapSmallRow
namespace Go.Proofs.Ytjnocijfjkbaiaa.heapCopies
open Go.ChangeShapes Go.WideShapes Go.ChangeAt Go.RowKit

theorem walk (a0 : Option Addr) (len0 cap0 : Nat) (S0 : List Sm) (a1 b1 c1 g1 : Int) (w : World) (w0 : S0.length = len0 ∧ SmRow w (.slice a0 len0 cap0) S0) (w1 : (Lit.int .u8 a1).wf = true ∧ (Lit.int .u8 b1).wf = true ∧ (Lit.int .u8 c1).wf = true ∧ (Lit.int .u8 g1).wf = true) :
    Calls Try.prog 7 #[.slice a0 len0 cap0, .agg #[.int .u8 a1, .int .u8 b1, .int .u8 c1, .int .u8 g1]] w fun e w' => e = .returned (.bool true) ∧ Below w.heap.size w w' := by
  obtain ⟨x0, rfl, h0⟩ := wf_u8n w1.1
  obtain ⟨x1, rfl, h1⟩ := wf_u8n w1.2.1
  obtain ⟨x2, rfl, h2⟩ := wf_u8n w1.2.2.1
  obtain ⟨x3, rfl, h3⟩ := wf_u8n w1.2.2.2
  exact heapCopies_walk (.slice a0 len0 cap0) S0 (x0, x1, x2, x3) w w0.2 ⟨h0, h1, h2, h3⟩

set_option maxRecDepth 100000 in
theorem lifted (os : Os) (started : os.Started) (H : Type) (enc : TypeId × Value → H) :
    ReturnsInHanded {} Try.checked os 7 .any (Rows.heapCopiesSpec.pre6 enc Try.prog Try.f7 Rows.heapCopiesRow.domain false) (Rows.heapCopiesSpec.post enc Try.prog Try.f7 false true false false) := by
  refine returnsInHanded_of_change (C := Try.checked) own started (by kernel_rfl) Try.func7
    (ChangeSpec.witness6 (enc := enc) (C := Try.checked) false ⟨#[], #[.slice none 0 0, .agg #[.int .u8 0, .int .u8 0, .int .u8 0, .int .u8 0]], []⟩ 8 (by kernel_rfl) (by kernel_rfl) (by kernel_rfl) (by kernel_rfl)) ?_
  intro W base args ds gs before hval0 hW hcnd _
  have hval : ∀ (j : Nat) t v, Try.f7.params[j]? = some t → args[j]? = some v → Value.okWide Try.prog W .any base t v := hval0
  have hW' := hW
  obtain ⟨p, q, hA0, hV, rfl, hfz, hnd⟩ := hW
  have hA : DataW.TrodAll enc Try.prog W 0 (fun _ => true) true Try.f7.params.toList args.toList ds p := hA0
  rw [Try.params7] at hA hval
  obtain ⟨v0, vs0, d0, ds0, p0, q0, hargs, rfl, rfl, h0, r0⟩ := trodAll_cons hA
  obtain ⟨v1, vs1, d1, ds1, p1, q1, rfl, rfl, rfl, h1, r1⟩ := trodAll_cons r0
  obtain ⟨rfl, rfl, rfl⟩ := trodAll_nil r1
  obtain rfl : args = #[v0, v1] := by cases args; simp_all
  obtain ⟨rfl, rfl⟩ := trodVars_none hV
  obtain ⟨a0, len0, cap0, rfl⟩ := okWide_slice Try.underlying52 (hval 0 52 v0 rfl rfl)
  have k0 := h0
  have lt0 : ∀ x ∈ p0, x.block < W.heap.size := by obtain ⟨m, hm⟩ := k0; exact DataW.trod_lt m _ _ _ hm
  obtain ⟨S0, w0⟩ : ∃ S : List Sm, S.length = len0 ∧ SmRow W (.slice a0 len0 cap0) S := by
    obtain ⟨fuel, hf⟩ := h0
    exact open_smalls8 hf
  have k1 := h1
  have lt1 : ∀ x ∈ p1, x.block < W.heap.size := by obtain ⟨m, hm⟩ := k1; exact DataW.trod_lt m _ _ _ hm
  obtain ⟨a1, b1, c1, g1, e1, w1⟩ := open_small4 (hval 1 61 v1 rfl rfl) h1
  subst e1
  clear hA0 hval0
  refine (walk a0 len0 cap0 S0 a1 b1 c1 g1 W w0 w1).mono fun e W' ⟨he, bel⟩ => ?_
  subst he
  exact ⟨_, rfl, _, _, _, [], _, [], hW', trodAll_mk1 (shut_bool Try.underlying4 _), (trodAll_cons_mk (Below.trod laidOut (by kernel_rfl) (of_decide_eq_true (by kernel_rfl)) k0 bel lt0) (trodAll_cons_mk (Below.trod laidOut (by kernel_rfl) (of_decide_eq_true (by kernel_rfl)) k1 bel lt1) trodAll_mk0)), rfl, bel.frame _, fun h => by cases h⟩

theorem over : Rows.heapCopiesRow.holds Try.pinned (OpenSpec.ofChange Rows.heapCopiesSpec) :=
  OpenClaim.holds_of_wide 7 Try.f7 rfl rfl rfl rfl rfl rfl rfl ⟨rfl, rfl, rfl, rfl, rfl⟩ rfl rfl rfl rfl rfl (by kernel_rfl) Try.func7 (by kernel_rfl)
    (of_decide_eq_true (by kernel_rfl)) (by unfold Func.isWrapper; first | (rw [if_pos (by decide +kernel)]; kernel_rfl) | (rw [if_neg (by decide +kernel)]; exact ⟨rfl, rfl⟩))
    (fun os started H enc _ => lifted os started H enc)

theorem proved : Rows.HeapCopiesSaid := over
#print axioms proved
end Go.Proofs.Ytjnocijfjkbaiaa.heapCopies
