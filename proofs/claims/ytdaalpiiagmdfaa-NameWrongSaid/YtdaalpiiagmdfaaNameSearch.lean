/-
  CONTRACT of sort.Search, where the function that is handed in writes nothing that was there.
-/
import Derived.Test.YtdaalpiiagmdfaaNameSet
namespace Go.Proofs.Ytdaalpiiagmdfaa
open Go.RowKit Go.Shelf

attribute [local go_sem] Oper.semAt_some

/-- The first number from which on something holds. -/
def firstN (n : Nat) (p : Nat → Bool) : Nat := (List.range n).countP (fun i => !p i)
theorem firstN_eq (n : Nat) (p : Nat → Bool) (k : Nat) (hk : k ≤ n) (h1 : ∀ i, i < k → p i = false) (h2 : ∀ i, k ≤ i → i < n → p i = true) : firstN n p = k := by
  unfold firstN
  obtain ⟨d, rfl⟩ : ∃ d, n = k + d := ⟨n - k, by omega⟩
  rw [List.range_add, List.countP_append]
  have e1 : (List.range k).countP (fun i => !p i) = k := by
    have : (List.range k).countP (fun i => !p i) = (List.range k).length := List.countP_eq_length.2 (fun i hi => by rw [h1 i (List.mem_range.1 hi)]; rfl)
    simpa using this
  have e2 : ((List.range d).map (k + ·)).countP (fun i => !p i) = 0 := by
    refine List.countP_eq_zero.2 (fun i hi => ?_)
    obtain ⟨j, hj, rfl⟩ := List.mem_map.1 hi
    rw [h2 (k + j) (by omega) (by have := List.mem_range.1 hj; omega)]
    simp
  rw [e1, e2]
  omega

set_option maxRecDepth 100000 in
set_option maxHeartbeats 2000000 in
theorem search_calls (g : Nat) (cb : Array Value) (n : Nat) (p : Nat → Bool) (w : World) (eg : ∀ args w, (callFunc g args).run Try.prog w = .ok (.enter g args) w) (hn : n ≤ 1000000)
    (hf : ∀ (W : World) (i : Nat), Below w.heap.size w W → i < n → Calls Try.prog g (#[.int .i64 i] ++ cb) W fun e W' => e = .returned (.bool (p i)) ∧ Below w.heap.size w W')
    (hmono : ∀ a b, a ≤ b → b < n → p a = true → p b = true) :
    Calls Try.prog 80 #[.int .i64 n, .func (.func g) #[] cb] w fun e W' => e = .returned (.int .i64 (firstN n p : Nat)) ∧ Below w.heap.size w W' := by
  have HF := Lib.hid hf
  have HM := Lib.hid hmono
  have HG := Lib.hid eg
  clear hf hmono
  go_enter Try.func80, Try.ntmps80
  go_wp2_with fail
  go_loopw [5, 6] (fun i j wr => ∃ x y : Nat, x ≤ y ∧ y ≤ n ∧ i = .int .i64 x ∧ j = .int .i64 y ∧ (∀ m, m < x → p m = false) ∧ (∀ m, y ≤ m → m < n → p m = true) ∧ Below w.heap.size w wr) (fun i j _ => (intOf j).toNat - (intOf i).toNat)
  case atStart => exact ⟨0, n, Nat.zero_le _, Nat.le_refl _, rfl, rfl, fun m hm => absurd hm (Nat.not_lt_zero _), fun m h1 h2 => absurd h2 (by omega), Below.refl _ _⟩
  case round =>
    obtain ⟨x, y, hxy, hyn, rfl, rfl, hlo, hhi, hB⟩ := hrel
    have HLo := Lib.hid hlo
    have HHi := Lib.hid hhi
    have HB := Lib.hid hB
    clear hlo hhi hB
    by_cases hlt : x < y
    · have hd : decide ((x : Int) < (y : Int)) = true := decide_eq_true (by omega)
      have hw1 : IntKind.i64.wrap ((x : Int) + (y : Int)) = (x : Int) + (y : Int) := IntWalk.i64_in _ ⟨by omega, by omega⟩
      obtain ⟨h, hh⟩ : ∃ h : Nat, h = (x + y) / 2 := ⟨_, rfl⟩
      have hx1 : x ≤ h := by omega
      have hx2 : h < y := by omega
      have hdv : ((x : Int) + (y : Int)) / 2 = (h : Int) := by omega
      have hw3 : IntKind.i64.wrap ((h : Int) + 1) = (h : Int) + 1 := IntWalk.i64_in _ ⟨by omega, by omega⟩
      clear hh
      have hw2 : IntKind.u64.wrap ((x : Int) + (y : Int)) = ((x + y : Nat) : Int) := by rw [IntWalk.u64_in _ ⟨by omega, by omega⟩]; omega
      go_wp2_with fail
      refine (HF.out wr h HB.out (by omega)).mono ?_
      rintro e w1 ⟨rfl, hb1⟩
      have B1 := Lib.hid hb1
      clear hb1
      obtain ⟨ph, hph⟩ : ∃ b, p h = b := ⟨_, rfl⟩
      rw [hph]
      have HP := Lib.hid hph
      clear hph
      cases ph with
      | true =>
        go_wp2_with fail
        refine ⟨⟨x, h, hx1, by omega, rfl, rfl, HLo.out, fun m h1 h2 => HM.out h m h1 h2 HP.out, B1.out⟩, by simp [intOf]; omega⟩
      | false =>
        go_wp2_with fail
        refine ⟨⟨h + 1, y, by omega, hyn, by push_cast; rfl, rfl, fun m hm => ?_, HHi.out, B1.out⟩, by simp [intOf]; omega⟩
        cases hm2 : p m with
        | false => rfl
        | true => exact absurd (HM.out m h (by omega) (by omega) hm2) (by rw [HP.out]; decide)
    · obtain rfl : x = y := by omega
      have hd : decide ((x : Int) < (x : Int)) = false := decide_eq_false (by omega)
      have HZ := Lib.hid (firstN_eq n p x hyn HLo.out HHi.out)
      go_wp2
      go_ret
      exact ⟨by rw [HZ.out]; rfl, HB.out⟩
end Go.Proofs.Ytdaalpiiagmdfaa
