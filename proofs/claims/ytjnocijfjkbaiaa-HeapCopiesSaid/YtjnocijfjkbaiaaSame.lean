/-
  CONTRACTS of fermatakit.SameBytes, fermatakit.SameNums: are two lists the same? The world is read alone.
-/
import Derived.Test.YtjnocijfjkbaiaaNumRead
import Derived.BigQuiet
namespace Go.Proofs.Ytjnocijfjkbaiaa
open Go.RowKit Pl

/-- THE VALUE v READS AS THE NUMBERS l of 64 bits. -/
def NRow (w : World) (v : Value) (l : List Nat) : Prop :=
  (∀ x ∈ l, x < 18446744073709551616) ∧ ((∃ a c, v = .slice a 0 c ∧ l = [] ∧ c ≤ maxLen) ∨ ∃ b off cap, v = .slice (some ⟨b, off, none⟩) l.length cap ∧ l.length ≤ cap ∧ cap ≤ maxLen ∧ ∀ i, i < l.length → w.cell? ⟨b, off + i, none⟩ = some (.int .u64 (gt l i : Int)))

theorem same_iff {a b : List Nat} (h : a.length = b.length) : a = b ↔ ∀ i, i < a.length → gt a i = gt b i := by
  constructor
  · rintro rfl i _; rfl
  · intro hi
    refine List.ext_getElem h fun i h1 h2 => ?_
    have := hi i h1
    simpa [gt, h1, h2] using this

theorem decide_same_no {a b : List Nat} (i : Nat) (hd : gt a i ≠ gt b i) : decide (a = b) = false := by
  rw [decide_eq_false_iff_not]; rintro rfl; exact hd rfl

theorem drewN_two (w : World) (n m : Nat) : (w.drewN n).drewN m = w.drewN (n + m) := by simp [World.drewN, Nat.add_assoc]
theorem ret_bool {a b : Bool} (h : a = b) : Ending.returned (.bool a) = .returned (.bool b) := by rw [h]

set_option maxRecDepth 100000 in
set_option maxHeartbeats 1000000 in
theorem sameBytes_calls (v v' : Value) (l m : List Nat) (w : World) (h : BRow w v l) (h' : BRow w v' m) :
    Calls Try.prog 96 #[v, v'] w fun e w' => e = .returned (.bool (decide (l = m))) ∧ ∃ n, w' = w.drewN n := by
  by_cases hlen : l.length = m.length
  · obtain ⟨hb, ⟨a1, c1, rfl, rfl, hac⟩ | ⟨b, off, cap, rfl, hc, hm, hcell⟩⟩ := h
    · clear hac
      obtain rfl : m = [] := List.eq_nil_of_length_eq_zero (by simpa using hlen.symm)
      obtain ⟨hb', ⟨a2, c2, rfl, _, hac⟩ | ⟨b', off', cap', rfl, hc', hm', hcell'⟩⟩ := h'
      · clear hac
        go_enter Try.func96, Try.ntmps96
        go_wp2
        refine wp_loop_rounds 1 ?_
        rw [rounds_succ]
        go_wp2
        go_ret
        exact ⟨rfl, 0, rfl⟩
      · clear hcell'
        go_enter Try.func96, Try.ntmps96
        go_wp2
        refine wp_loop_rounds 1 ?_
        rw [rounds_succ]
        go_wp2
        go_ret
        exact ⟨rfl, 0, rfl⟩
    obtain ⟨hb', ⟨a2, c2, rfl, rfl, hac⟩ | ⟨b', off', cap', rfl, hc', hm', hcell'⟩⟩ := h'
    · clear hac
      obtain rfl : l = [] := List.eq_nil_of_length_eq_zero (by simpa using hlen)
      clear hcell
      go_enter Try.func96, Try.ntmps96
      go_wp2
      refine wp_loop_rounds 1 ?_
      rw [rounds_succ]
      go_wp2
      go_ret
      exact ⟨rfl, 0, rfl⟩
    unfold maxLen at hm hm'
    have hH := Lib.hid hcell
    have hH' := Lib.hid hcell'
    clear hcell hcell' hb hb'
    have hL := Lib.hid hlen
    have hne : ((l.length : Int) != (m.length : Int)) = false := by simp [hlen]
    clear hlen
    go_enter Try.func96, Try.ntmps96
    go_wp2
    go_loopw [5] (fun i wr => ∃ k : Nat, k ≤ l.length ∧ (∀ j, j < k → gt l j = gt m j) ∧ i = .int .i64 k ∧ ∃ n, wr = w.drewN n) (fun i _ => l.length - (intOf i).toNat)
    case atStart => exact ⟨0, by omega, fun j hj => by omega, rfl, 0, rfl⟩
    case round =>
      obtain ⟨k, hk, hsame, rfl, n, rfl⟩ := hrel
      have hS := Lib.hid hsame; clear hsame
      by_cases hlt : k < l.length
      · have hlt' : k < m.length := by have := hL.out; omega
        have c1 := hH.out k hlt
        have c2 := hH'.out k hlt'
        by_cases hd : gt l k = gt m k
        · have hdd : ((gt l k : Int) != (gt m k : Int)) = false := by simp [hd]
          have hD := Lib.hid hd; clear hd
          go_wp2
          go_quiet (fail)
          go_wp2
          go_roundw
          case rel => exact ⟨k + 1, by omega, fun j hj => by by_cases e : j < k; exact hS.out j e; (obtain rfl : j = k := by omega); exact hD.out, by go_num, _, rfl⟩
          case measure => simp [intOf]; omega
        · have hdd : ((gt l k : Int) != (gt m k : Int)) = true := by rw [bne_iff_ne]; omega
          have hD := Lib.hid hd; clear hd
          go_wp2
          go_quiet (fail)
          go_wp2
          go_ret
          exact ⟨ret_bool (decide_same_no k hD.out).symm, _, drewN_two _ _ _⟩
      · obtain rfl : k = l.length := by omega
        go_wp2
        go_ret
        refine ⟨ret_bool ?_, _, rfl⟩
        rw [eq_comm, decide_eq_true_iff]
        exact (same_iff hL.out).2 hS.out
  · have hne : ((l.length : Int) != (m.length : Int)) = true := by rw [bne_iff_ne]; omega
    have hfin : decide (l = m) = false := by rw [decide_eq_false_iff_not]; rintro rfl; exact hlen rfl
    have hF := Lib.hid hfin; clear hfin
    have s1 : ∃ a cap, v = .slice a l.length cap := by
      obtain ⟨_, ⟨a, c, rfl, rfl, _⟩ | ⟨b, off, cap, rfl, _⟩⟩ := h
      · exact ⟨_, _, rfl⟩
      · exact ⟨_, _, rfl⟩
    have s2 : ∃ a cap, v' = .slice a m.length cap := by
      obtain ⟨_, ⟨a, c, rfl, rfl, _⟩ | ⟨b, off, cap, rfl, _⟩⟩ := h'
      · exact ⟨_, _, rfl⟩
      · exact ⟨_, _, rfl⟩
    obtain ⟨a1, c1, rfl⟩ := s1
    obtain ⟨a2, c2, rfl⟩ := s2
    clear h h' hlen
    go_enter Try.func96, Try.ntmps96
    go_wp2
    go_ret
    exact ⟨ret_bool hF.out.symm, 0, rfl⟩

end Go.Proofs.Ytjnocijfjkbaiaa
