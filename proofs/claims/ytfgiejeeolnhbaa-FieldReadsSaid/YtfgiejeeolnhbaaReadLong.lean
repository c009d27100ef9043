/-
  CONTRACT of field.Read where there are too many bytes.
-/
import Derived.Test.YtfgiejeeolnhbaaFieldRead
namespace Go.Proofs.Ytfgiejeeolnhbaa
open Go.RowKit Go.Shelf Pl

attribute [local go_sem] Oper.semAt_some

set_option maxRecDepth 100000 in
set_option maxHeartbeats 1000000 in
theorem fieldReadLong_in (n : Nat) (v : Value) (bs : List Nat) (w : World) (hrow : BRow w v bs) (hlen : 16768 < bs.length) :
    CallsIn Fence.wide n Try.prog 25 #[v] w fun e W' => Below w.heap.size w W' ∧ e = .returned (.tuple #[.slice none 0 0, .int .i64 0, .int .i64 3]) := by
  obtain ⟨sa, sc, rfl⟩ := hrow.shape
  have hd0 : decide ((16768 : Int) < (bs.length : Int)) = true := by simp; omega
  clear hrow
  refine callsIn_of_wp_marks Try.func25 rfl trivial ?_ rfl
  simp only [Try.ntmps25, List.size_toArray, List.length_cons, List.length_nil, Nat.reduceAdd, Nat.reduceSub, Array.replicate_succ, Array.replicate_zero, List.push_toArray, List.append_toArray, List.nil_append, List.cons_append]
  gi_wp2
  refine ⟨.tuple #[.slice none 0 0, .int .i64 0, .int .i64 3], ?_, ((((Below.refl _ w).alloc (Nat.le_refl _) _).alloc (by simp) _).alloc (by simp; omega) _), rfl⟩
  simp [results, Try.f25, go_sem]

/-- field.Read, at any bytes of at most 20000. -/
theorem fieldReadAny_calls (v : Value) (bs : List Nat) (w : World) (hrow : BRow w v bs) (hlen : bs.length ≤ 20000) :
    Calls Try.prog 25 #[v] w fun e W' => Below w.heap.size w W' ∧ ((16768 < bs.length ∧ e = .returned (.tuple #[.slice none 0 0, .int .i64 0, .int .i64 3])) ∨ (bs.length ≤ 16768 ∧ ((∃ at0, readE bs = some at0 ∧ e = .returned (.tuple #[.slice none 0 0, .int .i64 (at0 : Nat), .int .i64 21])) ∨ (readE bs = none ∧ ∃ v', e = .returned (.tuple #[v', .int .i64 0, .int .i64 0]) ∧ FOwn W' w.heap.size v' (readV bs))))) := by
  by_cases h : 16768 < bs.length
  · exact ((callsIn_wide (n := 3)).1 (fieldReadLong_in 3 v bs w hrow h)).mono fun e W' hh => ⟨hh.1, .inl ⟨h, hh.2⟩⟩
  · exact (fieldRead_calls v bs w hrow (by omega)).mono fun e W' hh => ⟨hh.1, .inr ⟨by omega, hh.2⟩⟩
end Go.Proofs.Ytfgiejeeolnhbaa
