/-
  CONTRACTS of the reference of layer 3 (fermataref03): least, Read, Need, Split say of bytes what the program says; nothing that was there is written.
-/
import Derived.Test.YtlohggdabpfkhaaPlain03
import Derived.Test.YtlohggdabpfkhaaEqualM
namespace Go.Proofs.Ytlohggdabpfkhaa
open Go.RowKit Go.Shelf Pl

/-- How many bytes the head has, 0 if it is not whole. -/
def lstH : List Nat → Nat
  | [] => 0
  | d :: t => if d ≤ 246 then 1 else if d = 247 then (match t with | [] => 0 | x :: _ => if x < 247 then 0 else 2) else if d = 248 then (match t with | [] => 0 | [_] => 0 | x :: y :: _ => if x = 0 ∨ 16384 < 256 * x + y then 0 else 3) else 0
theorem lstH_bnd {l : List Nat} {f t : Nat} (h : bnd l = some (f, t)) : lstH l = f ∨ (lstH l = 0 ∧ l.length < t) := by
  cases l with
  | nil => simp [bnd] at h; obtain ⟨rfl, rfl⟩ := h; right; simp [lstH]
  | cons d l =>
    simp only [bnd, lstH] at h ⊢
    by_cases h1 : d ≤ 246
    · rw [if_pos h1] at h ⊢; simp at h; left; omega
    rw [if_neg h1] at h ⊢
    by_cases h2 : d = 247
    · rw [if_pos h2] at h ⊢
      cases l with
      | nil => simp at h; obtain ⟨rfl, rfl⟩ := h; right; simp
      | cons x l => simp only at h ⊢; split at h; simp at h; rename_i hx; rw [if_neg hx]; simp at h; left; omega
    rw [if_neg h2] at h ⊢
    by_cases h3 : d = 248
    · rw [if_pos h3] at h ⊢
      match l, h with
      | [], h => simp at h; obtain ⟨rfl, rfl⟩ := h; right; simp
      | [x], h =>
        simp only at h
        split at h
        · simp at h
        · simp at h; obtain ⟨rfl, rfl⟩ := h; right; refine ⟨rfl, ?_⟩; simp; omega
      | x :: y :: l, h => simp only at h ⊢; split at h; simp at h; rename_i hx; rw [if_neg hx]; simp at h; left; omega
    · rw [if_neg h3] at h; simp at h
theorem ret_int3' {a b c a' b' c' : Int} (h1 : a = a') (h2 : b = b') (h3 : c = c') : Ending.returned (.tuple #[.int .i64 a, .int .i64 b, .int .i64 c]) = .returned (.tuple #[.int .i64 a', .int .i64 b', .int .i64 c']) := by rw [h1, h2, h3]

set_option maxRecDepth 100000 in
set_option maxHeartbeats 2000000 in
theorem least_calls (v : Value) (l : List Nat) (w : World) (h : BRow w v l) :
    Calls Try.prog 114 #[v] w fun e w' => e = .returned (.tuple #[.int .i64 (bndV l).2.1, .int .i64 (lstH l), .int .i64 (bndV l).2.2]) ∧ Below w.heap.size w w' := by
  obtain ⟨ha, ⟨a, c, rfl, rfl, hm⟩ | ⟨b, off, cap, rfl, hc, hm, hcell⟩⟩ := h
  · clear hm
    go_enter Try.func114, Try.ntmps114
    go_wp2
    go_ret3
    exact ⟨rfl, Below.refl _ _⟩
  match l, ha, hc, hcell with
  | [], ha, hc, hcell =>
    clear hcell hc hm
    go_enter Try.func114, Try.ntmps114
    go_wp2
    go_ret3
    exact ⟨rfl, Below.refl _ _⟩
  | d :: t, ha, hc, hcell =>
    have hd := ha d (List.mem_cons_self ..)
    have c0 : w.cell? ⟨b, off, none⟩ = some (.int .u8 d) := hcell 0 (by simp)
    have hn0 : (((d :: t).length : Int) == 0) = false := by rw [beq_eq_false_iff_ne]; simp; omega
    have hn1 : 0 < (d :: t).length := by simp
    by_cases h1 : d ≤ 246
    · have hV : bndV (d :: t) = (1, ((1 + d : Nat) : Int), 0) ∧ lstH (d :: t) = 1 := ⟨by simp [bndV, bnd, h1], by simp [lstH, h1]⟩
      rw [hV.1, hV.2]
      have e1 : (d : Int) ≤ 246 := by omega
      generalize (d :: t).length = n at *
      clear hV hcell hm hc h1
      go_enter Try.func114, Try.ntmps114
      go_wp2
      go_ret3
      exact ⟨ret_int3' (by omega) rfl rfl, Below.refl _ _⟩
    have e1 : ¬ (d : Int) ≤ 246 := by omega
    by_cases h2 : 248 < d
    · have hV : bndV (d :: t) = (0, 0, 31) ∧ lstH (d :: t) = 0 := ⟨by simp [bndV, bnd, h1, show d ≠ 247 by omega, show d ≠ 248 by omega], by simp [lstH, h1, show d ≠ 247 by omega, show d ≠ 248 by omega]⟩
      rw [hV.1, hV.2]
      have e2 : (248 : Int) < (d : Int) := by omega
      generalize (d :: t).length = n at *
      clear hV hcell hm hc h1 h2
      go_enter Try.func114, Try.ntmps114
      go_wp2
      go_ret3
      exact ⟨rfl, Below.refl _ _⟩
    have e2 : ¬ (248 : Int) < (d : Int) := by omega
    by_cases h3 : d = 247
    · have e3 : ((d : Int) == 247) = true := by rw [beq_iff_eq]; omega
      match t, ha, hc, hcell, hn0, hn1 with
      | [], ha, hc, hcell, hn0, hn1 =>
        have hV : bndV [d] = (2, 249, 0) ∧ lstH [d] = 0 := ⟨by simp [bndV, bnd, h3], by simp [lstH, h3]⟩
        rw [hV.1, hV.2]
        clear hV hcell hm hc h1 h2 h3
        go_enter Try.func114, Try.ntmps114
        go_wp2
        go_ret3
        exact ⟨rfl, Below.refl _ _⟩
      | x :: t, ha, hc, hcell, hn0, hn1 =>
        have c1 : w.cell? ⟨b, off + 1, none⟩ = some (.int .u8 x) := hcell 1 (by simp)
        have hx := ha x (by simp)
        have hn2 : (((d :: x :: t).length : Int) == 1) = false := by rw [beq_eq_false_iff_ne]; simp; omega
        have hn3 : 1 < (d :: x :: t).length := by simp
        by_cases h4 : x < 247
        · have hV : bndV (d :: x :: t) = (0, 0, 31) ∧ lstH (d :: x :: t) = 0 := ⟨by simp [bndV, bnd, h3, h4], by simp [lstH, h3, h4]⟩
          rw [hV.1, hV.2]
          have e4 : (x : Int) < 247 := by omega
          generalize (d :: x :: t).length = n at *
          clear hV hcell hm hc h1 h2 h3 h4
          go_enter Try.func114, Try.ntmps114
          go_wp2
          go_ret3
          exact ⟨rfl, Below.refl _ _⟩
        · have hV : bndV (d :: x :: t) = (2, ((2 + x : Nat) : Int), 0) ∧ lstH (d :: x :: t) = 2 := ⟨by simp [bndV, bnd, h3, h4], by simp [lstH, h3, h4]⟩
          rw [hV.1, hV.2]
          have e4 : ¬ (x : Int) < 247 := by omega
          generalize (d :: x :: t).length = n at *
          clear hV hcell hm hc h1 h2 h3 h4
          go_enter Try.func114, Try.ntmps114
          go_wp2
          go_ret3
          exact ⟨ret_int3' (by omega) rfl rfl, Below.refl _ _⟩
    have h5 : d = 248 := by omega
    have e3 : ((d : Int) == 247) = false := by rw [beq_eq_false_iff_ne]; omega
    match t, ha, hc, hcell, hn0, hn1 with
    | [], ha, hc, hcell, hn0, hn1 =>
      have hV : bndV [d] = (3, 259, 0) ∧ lstH [d] = 0 := ⟨by simp [bndV, bnd, h5], by simp [lstH, h5]⟩
      rw [hV.1, hV.2]
      clear hV hcell hm hc h1 h2 h3 h5
      go_enter Try.func114, Try.ntmps114
      go_wp2
      go_ret3
      exact ⟨rfl, Below.refl _ _⟩
    | [x], ha, hc, hcell, hn0, hn1 =>
      have c1 : w.cell? ⟨b, off + 1, none⟩ = some (.int .u8 x) := hcell 1 (by simp)
      have hx := ha x (by simp)
      by_cases h4 : x = 0 ∨ 64 < x
      · have hV : bndV [d, x] = (0, 0, 31) ∧ lstH [d, x] = 0 := ⟨by simp [bndV, bnd, h5, h4], by simp [lstH, h5]⟩
        rw [hV.1, hV.2]
        by_cases h6 : x < 1
        · have e4 : (x : Int) < 1 := by omega
          have e5 : decide ((x : Int) < 1) = true := decide_eq_true e4
          clear hV hcell hm hc h1 h2 h3 h4 h5 h6
          go_enter Try.func114, Try.ntmps114
          go_wp2
          go_ret3
          exact ⟨rfl, Below.refl _ _⟩
        · have e4 : ¬ (x : Int) < 1 := by omega
          have e5 : decide ((x : Int) < 1) = false := decide_eq_false e4
          have e6 : (64 : Int) < (x : Int) := by omega
          clear hV hcell hm hc h1 h2 h3 h4 h5 h6
          go_enter Try.func114, Try.ntmps114
          go_wp2
          go_ret3
          exact ⟨rfl, Below.refl _ _⟩
      · have hV : bndV [d, x] = (3, ((3 + 256 * x : Nat) : Int), 0) ∧ lstH [d, x] = 0 := ⟨by simp [bndV, bnd, h5, h4], by simp [lstH, h5]⟩
        rw [hV.1, hV.2]
        have e4 : ¬ (x : Int) < 1 := by omega
        have e5 : decide ((x : Int) < 1) = false := decide_eq_false e4
        have e6 : ¬ (64 : Int) < (x : Int) := by omega
        have e7 : (x : Int) ≤ 64 := by omega
        clear hV hcell hm hc h1 h2 h3 h4 h5
        go_enter Try.func114, Try.ntmps114
        go_wp2
        go_ret3
        exact ⟨ret_int3' (by omega) rfl rfl, Below.refl _ _⟩
    | x :: y :: t, ha, hc, hcell, hn0, hn1 =>
      have c1 : w.cell? ⟨b, off + 1, none⟩ = some (.int .u8 x) := hcell 1 (by simp)
      have c2 : w.cell? ⟨b, off + 2, none⟩ = some (.int .u8 y) := hcell 2 (by simp)
      have c2' : w.cell? ⟨b, off + 1 + 1, none⟩ = some (.int .u8 y) := c2
      have hx := ha x (by simp)
      have hy := ha y (by simp)
      have hn2 : (((d :: x :: y :: t).length : Int) == 1) = false := by rw [beq_eq_false_iff_ne]; simp; omega
      have hn3 : 1 < (d :: x :: y :: t).length := by simp
      have hn4 : (((d :: x :: y :: t).length : Int) == 2) = false := by rw [beq_eq_false_iff_ne]; simp; omega
      have hn5 : 2 < (d :: x :: y :: t).length := by simp
      by_cases h6 : x < 1
      · have hV : bndV (d :: x :: y :: t) = (0, 0, 31) ∧ lstH (d :: x :: y :: t) = 0 := ⟨by simp [bndV, bnd, h5, show x = 0 by omega], by simp [lstH, h5, show x = 0 by omega]⟩
        rw [hV.1, hV.2]
        have e4 : (x : Int) < 1 := by omega
        have e5 : decide ((x : Int) < 1) = true := decide_eq_true e4
        generalize (d :: x :: y :: t).length = n at *
        clear hV hcell hm hc h1 h2 h3 h5 h6
        go_enter Try.func114, Try.ntmps114
        go_wp2
        go_ret3
        exact ⟨rfl, Below.refl _ _⟩
      have e4 : ¬ (x : Int) < 1 := by omega
      have e5 : decide ((x : Int) < 1) = false := decide_eq_false e4
      by_cases h7 : 64 < x
      · have hV : bndV (d :: x :: y :: t) = (0, 0, 31) ∧ lstH (d :: x :: y :: t) = 0 := ⟨by simp [bndV, bnd, h5, show x = 0 ∨ 16384 < 256 * x + y by omega], by simp [lstH, h5, show x = 0 ∨ 16384 < 256 * x + y by omega]⟩
        rw [hV.1, hV.2]
        have e6 : (64 : Int) < (x : Int) := by omega
        generalize (d :: x :: y :: t).length = n at *
        clear hV hcell hm hc h1 h2 h3 h5 h6 h7
        go_enter Try.func114, Try.ntmps114
        go_wp2
        go_ret3
        exact ⟨rfl, Below.refl _ _⟩
      have e6 : ¬ (64 : Int) < (x : Int) := by omega
      have e7 : (x : Int) ≤ 64 := by omega
      by_cases h8 : 16384 < 256 * x + y
      · have hV : bndV (d :: x :: y :: t) = (0, 0, 31) ∧ lstH (d :: x :: y :: t) = 0 := ⟨by simp [bndV, bnd, h5, show x = 0 ∨ 16384 < 256 * x + y by omega], by simp [lstH, h5, show x = 0 ∨ 16384 < 256 * x + y by omega]⟩
        rw [hV.1, hV.2]
        have e8 : (16384 : Int) < 256 * (x : Int) + (y : Int) := by omega
        generalize (d :: x :: y :: t).length = n at *
        clear hV hcell hm hc h1 h2 h3 h5 h6 h7 h8
        go_enter Try.func114, Try.ntmps114
        go_wp2
        go_region
        go_wp2
        go_ret3
        exact ⟨rfl, (Below.refl _ _).drew⟩
      · have hV : bndV (d :: x :: y :: t) = (3, ((3 + (256 * x + y) : Nat) : Int), 0) ∧ lstH (d :: x :: y :: t) = 3 := ⟨by simp [bndV, bnd, h5, show ¬ (x = 0 ∨ 16384 < 256 * x + y) by omega], by simp [lstH, h5, show ¬ (x = 0 ∨ 16384 < 256 * x + y) by omega]⟩
        rw [hV.1, hV.2]
        have e8 : ¬ (16384 : Int) < 256 * (x : Int) + (y : Int) := by omega
        generalize (d :: x :: y :: t).length = n at *
        clear hV hcell hm hc h1 h2 h3 h5 h6 h7 h8
        go_enter Try.func114, Try.ntmps114
        go_wp2
        go_region
        go_wp2
        go_ret3
        exact ⟨ret_int3' (by omega) rfl rfl, (Below.refl _ _).drew⟩
end Go.Proofs.Ytlohggdabpfkhaa
