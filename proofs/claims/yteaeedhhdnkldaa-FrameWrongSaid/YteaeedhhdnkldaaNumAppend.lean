/-
  CONTRACT of num.digitsOf: the digits of a number, at the end of an array of eight; nothing that was there is written.
-/
import Derived.Test.YteaeedhhdnkldaaNumRead
import Derived.Deep.WholeRow
namespace Go.Proofs.Yteaeedhhdnkldaa
open Go.RowKit Pl

def B8 (d : Nat) : Value := .int .u8 d
/-- The lowest k digits of x. -/
def low : Nat → Nat → List Nat
  | 0, _ => []
  | k + 1, x => (x / 256 ^ k % 256) :: low k x
theorem low_length (k x : Nat) : (low k x).length = k := by induction k with
  | zero => rfl
  | succ k ih => simp [low, ih]
theorem low_snoc (k x : Nat) : low (k + 1) x = low k (x / 256) ++ [x % 256] := by
  induction k with
  | zero => simp [low]
  | succ k ih =>
    rw [low, ih, low]
    simp only [List.cons_append]
    rw [Nat.div_div_eq_div_mul, Nat.pow_succ, Nat.mul_comm 256]
theorem dg_low (k : Nat) : ∀ n x, k ≤ n → x / 256 ^ k = 0 → (k = 0 ∨ x / 256 ^ (k - 1) ≠ 0) → dg n x = low k x := by
  induction k with
  | zero => intro n x _ h _; simp at h; subst h; cases n <;> simp [dg, low]
  | succ k ih =>
    intro n x hn h h'
    obtain ⟨n, rfl⟩ : ∃ m, n = m + 1 := ⟨n - 1, by omega⟩
    have hx : x ≠ 0 := by rintro rfl; simp at h'
    rw [dg, if_neg hx, low_snoc, ih n (x / 256) (by omega) (by rw [Nat.div_div_eq_div_mul, Nat.mul_comm, ← Nat.pow_succ]; exact h) ?_]
    by_cases hk : k = 0
    · exact .inl hk
    · refine .inr ?_
      rw [Nat.div_div_eq_div_mul, Nat.mul_comm, ← Nat.pow_succ]
      have e : (k - 1).succ = k := by omega
      rw [e]
      simpa using h'
def arr (f x : Nat) : List Value := (List.replicate f 0 ++ low (8 - f) x).map B8
theorem arr_length (f x : Nat) (h : f ≤ 8) : (arr f x).length = 8 := by simp [arr, low_length]; omega
theorem arr_set (f x : Nat) (h : f + 1 ≤ 8) : (arr (f + 1) x).set f (B8 (x / 256 ^ (8 - (f + 1)) % 256)) = arr f x := by
  unfold arr
  have e : 8 - f = (8 - (f + 1)) + 1 := by omega
  rw [e, low, List.replicate_succ', List.append_assoc, List.map_append, List.map_append]
  rw [List.set_append_right _ _ (by simp)]
  simp
theorem div_step (x f : Nat) (h : f + 1 ≤ 8) : x / 256 ^ (8 - (f + 1)) / 256 = x / 256 ^ (8 - f) := by
  have e : 8 - f = (8 - (f + 1)) + 1 := by omega
  rw [Nat.div_div_eq_div_mul, e, Nat.pow_succ]

set_option maxRecDepth 100000 in
set_option maxHeartbeats 1000000 in
theorem digitsOf_calls (x : Nat) (w : World) (hx : x < 18446744073709551616) :
    Calls Try.prog 69 #[.int .u64 x] w fun e w' => e = .returned (.tuple #[.agg (arr (8 - (digs x).length) x).toArray, .int .i64 ((8 - (digs x).length : Nat) : Int)]) ∧ Below w.heap.size w w' := by
  go_enter Try.func69, Try.ntmps69
  go_wp2
  go_loopw [5, 0] (fun i xx wr => ∃ f : Nat, f ≤ 8 ∧ i = .int .i64 f ∧ xx = .int .u64 (x / 256 ^ (8 - f) : Nat) ∧ (f = 8 ∨ x / 256 ^ (7 - f) ≠ 0) ∧ wr = (w.alloc (.cells (arr 8 0).toArray 103)).alloc (.cells (arr f x).toArray 103)) (fun i _ _ => (intOf i).toNat)
  case atStart => exact ⟨8, by omega, rfl, by simp, .inl rfl, rfl⟩
  case round =>
    obtain ⟨f, hf, rfl, rfl, hne, rfl⟩ := hrel
    by_cases hq : 0 < x / 256 ^ (8 - f)
    · obtain ⟨f, rfl⟩ : ∃ g, f = g + 1 := ⟨f - 1, by
        have : f ≠ 0 := by
          rintro rfl
          have : (256 : Nat) ^ (8 - 0) = 18446744073709551616 := by rfl
          rw [this] at hq; omega
        omega⟩
      have hset := Lib.hid (arr_set f x hf)
      have hstep := Lib.hid (div_step x f hf)
      have hsz := Lib.hid (arr_length (f + 1) x hf)
      have hq' := Lib.hid hq
      generalize hqq : x / 256 ^ (8 - (f + 1)) = q at hq hset hstep hq'
      generalize hcc : (arr (f + 1) x) = c at hset hsz
      generalize hzz : (arr 8 0) = Z
      have hqH := Lib.hid hqq
      clear hqq hcc hne
      have hz : c.toArray.size = 8 := by simpa using hsz.out
      have hcell : ((w.alloc (.cells Z.toArray 103)).alloc (.cells c.toArray 103)).cell? ⟨w.heap.size + 1, f, none⟩ = some (c.toArray[f]'(by omega)) := by
        rw [cell_of_row _ _ f c.toArray 103 (0, 0) (heap_alloc2_new _ _ _)]
        exact Array.getElem?_eq_getElem _
      go_wp2
      go_roundw
      case rel =>
        subst hzz
        refine ⟨f, by omega, rfl, ?_, .inr ?_, ?_⟩
        · have := hstep.out; congr 1; omega
        · have h1 := hqH.out
          have e : 7 - f = 8 - (f + 1) := by omega
          rw [e, h1]; have := hq'.out; omega
        · have h1 := hset.out
          unfold B8 at h1
          rw [← h1]
          simp
      case measure => simp [intOf]
    · have hz : x / 256 ^ (8 - f) = 0 := Nat.le_zero.1 (Nat.not_lt.1 hq)
      have hdg : digs x = low (8 - f) x := by
        refine dg_low (8 - f) 8 x (by omega) hz ?_
        rcases hne with h | h
        · left; omega
        · by_cases h8 : f = 8
          · left; omega
          · right; have e : 8 - f - 1 = 7 - f := by omega
            rw [e]; exact h
      have hlen : (digs x).length = 8 - f := by rw [hdg, low_length]
      have hff : 8 - (8 - f) = f := by omega
      have hfin := Lib.hid (show Ending.returned (.tuple #[.agg (arr f x).toArray, .int .i64 (f : Int)]) = Ending.returned (.tuple #[.agg (arr (8 - (digs x).length) x).toArray, .int .i64 ((8 - (digs x).length : Nat) : Int)]) by rw [hlen, hff])
      have hl1 := arr_length f x hf
      have hl0 := arr_length 8 0 (by omega)
      have hone : ∀ u ∈ arr f x, u.oneCell' = true := by intro u hu; simp only [arr, List.mem_map] at hu; obtain ⟨d, _, rfl⟩ := hu; rfl
      clear hne hdg hlen hff
      generalize arr f x = c at *
      generalize arr 8 0 = Z at *
      have e0 : ((x / 256 ^ (8 - f) : Nat) : Int) = 0 := by rw [hz]; rfl
      rw [e0]
      clear e0 hz hq
      have hi : (Try.prog.info? 103).map (·.size) = some c.toArray.size := by rw [List.size_toArray, hl1]; kernel_rfl
      have hold : Z.toArray.size = c.toArray.size := by simp [hl0, hl1]
      have h1c : c.toArray.all (·.oneCell') = true := by simpa using hone
      have H1 := Lib.hid hi
      have H2 := Lib.hid hold
      have H3 := Lib.hid h1c
      clear hi hold h1c hl1 hl0 hone
      go_wp2_with (first
        | (refine wpList_load_row rfl 103 _ rfl (w.heap.size + 1) rfl 103 c.toArray (0, 0) _ (heap_alloc2_new _ _ _) Try.underlying103 rfl H1.out ?_)
        | (refine wpList_store_row rfl 103 _ _ rfl w.heap.size c.toArray rfl rfl 103 Z.toArray (heap_alloc2_old _ _ _) H1.out H2.out H3.out ?_))
      refine bodyPost_ret (v := .tuple #[.agg c.toArray, .int .i64 (f : Int)]) ?_ rfl ⟨hfin.out, ?_⟩
      · rw [results_cell_tmp rfl]
        have hg := setRow_heap ((w.alloc (.cells Z.toArray 103)).alloc (.cells c.toArray 103)) w.heap.size Z.toArray c.toArray 103 (0, 0) (heap_alloc2_old _ _ _)
        have hl := run_loadVar_row (P := Try.prog) _ w.heap.size 103 103 c.toArray (0, 0) _ hg Try.underlying103 rfl H1.out
        simp [asAddr, hl]
      · exact (((Below.refl _ _).alloc (Nat.le_refl _) _).alloc (by simp) _).trans ⟨rfl, rfl, rfl, by simp [World.setRow], fun k hk => setRow_other _ _ _ _ (by omega)⟩
end Go.Proofs.Yteaeedhhdnkldaa
