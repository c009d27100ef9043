/-
  CONTRACT of the document's own Join of layer 5: it calls itself; the world is left alone, but for draws.
-/
import Derived.Test.YtfcajgfhmfpchaaMixRefA
import Derived.Test.YtfcajgfhmfpchaaMixJoin
namespace Go.Proofs.Ytfcajgfhmfpchaa
open Go.RowKit Pl

theorem NRow.head5 {w : World} {a : Option Addr} {n c : Nat} {l : List Nat} (h : NRow w (.slice a n c) l) (k : Nat) (hk : k ≤ l.length) : NRow w (.slice a k c) (l.take k) := by
  obtain ⟨hb, ⟨a', c', hv, rfl, hc⟩ | ⟨b, off, cap, hv, h1, h2, h3⟩⟩ := h
  · obtain rfl : k = 0 := by simpa using hk
    simp only [Value.slice.injEq] at hv
    obtain ⟨_, _, rfl⟩ := hv
    rw [List.take_nil]
    exact ⟨fun x hx => (by cases hx), .inl ⟨a, c, rfl, rfl, hc⟩⟩
  · simp only [Value.slice.injEq] at hv
    obtain ⟨rfl, rfl, rfl⟩ := hv
    have hl : (l.take k).length = k := by rw [List.length_take]; omega
    refine ⟨fun x hx => hb x (List.mem_of_mem_take hx), .inr ⟨b, off, c, by rw [hl], by rw [hl]; omega, h2, fun i hi => ?_⟩⟩
    rw [hl] at hi
    have : gt (l.take k) i = gt l i := by unfold gt; simp [hi]
    rw [this]
    exact h3 i (by omega)

set_option maxRecDepth 100000 in
set_option maxHeartbeats 1000000 in
theorem rjoin_calls : ∀ (m : Nat) (v : Value) (l : List Nat) (w : World), l.length = m → NRow w v l →
    Calls Try.prog 40 #[v] w fun e w' => e = .returned (.int .u64 ((joinN l).toNat : Int)) ∧ ∃ n, w' = w.drewN n := by
  intro m
  induction m with
  | zero =>
    intro v l w hl h
    obtain rfl : l = [] := List.eq_nil_of_length_eq_zero hl
    obtain ⟨_, ⟨a, c, rfl, _, hac⟩ | ⟨b, off, cap, rfl, hc, hm, hcell⟩⟩ := h
    · clear hac
      go_enter Try.func40, Try.ntmps40
      go_wp2
      go_ret
      exact ⟨rfl, 0, rfl⟩
    · clear hcell hm hc
      go_enter Try.func40, Try.ntmps40
      go_wp2
      go_ret
      exact ⟨rfl, 0, rfl⟩
  | succ k ih =>
    intro v l w hl h
    have hrow := Lib.hid h
    obtain ⟨hb, ⟨a, c, rfl, rfl, hac⟩ | ⟨b, off, cap, rfl, hc, hm, hcell⟩⟩ := h
    · simp at hl
    · have hck := hcell k (by omega)
      have hs := Lib.hid (show joinN l = mixB (goldB + BitVec.ofNat 64 (gt l k) + joinN (l.take k) * goldB) by
        rw [← joinN_snoc, ← take_snoc_gt k (by omega), List.take_of_length_le (by omega)])
      rw [uvn (hb _ (gt_mem (by omega : k < l.length)))] at hck
      have hJ := Lib.hid (fun n => ih (.slice (some ⟨b, off, none⟩) k cap) (l.take k) (w.drewN n) (by rw [List.length_take]; omega) ((hrow.out.head5 k (by omega)).below (below_drewN (Below.refl _ _) n)))
      unfold maxLen at hm
      generalize BitVec.ofNat 64 (gt l k) = x at *
      generalize joinN (l.take k) = j at *
      have e1 : IntKind.u64.wrap (11400714819323198485 + (x.toNat : Int)) = ((goldB + x).toNat : Int) := uv_add goldB x
      have e2 : IntKind.u64.wrap ((j.toNat : Int) * 11400714819323198485) = ((j * goldB).toNat : Int) := uv_mul j goldB
      have e3 := uv_add (goldB + x) (j * goldB)
      have hM := Lib.hid (fun W => rMix_calls (goldB + x + j * goldB) W)
      generalize goldB + x + j * goldB = m3 at *
      generalize goldB + x = m1 at *
      generalize j * goldB = m2 at *
      have hlk : (l.length : Int) = (k : Int) + 1 := by omega
      have hkc : (k : Int) < (cap : Int) := by omega
      rw [hl] at hrow ⊢
      clear hcell hb ih hrow hlk
      rw [hs.out]
      generalize mixB m3 = res at *
      clear hs hl hc
      go_enter Try.func40, Try.ntmps40
      go_wp2
      go_quiet (first
        | (go_at_call 40; exact Calls.quiet_of (hJ.out _))
        | (go_at_call 32; exact (hM.out _).mono fun e w' h => ⟨h.1, _, h.2.symm⟩))
      rename_i nq
      go_wp2
      go_ret
      exact ⟨rfl, nq, rfl⟩
end Go.Proofs.Ytfcajgfhmfpchaa
