/-
  CONTRACTS of the streams of rng: New, Index, Next, Draw and Move.
-/
import Derived.Test.YtfcajgfhmfpchaaRngD
import Derived.Defers
import Derived.Lib.BufferWrite
import Derived.Deep.RegionLaw
import Derived.Deep.CutBlock
import Derived.Deep.DeepCutAuto
namespace Go.Proofs.Ytfcajgfhmfpchaa
open Go.RowKit Pl

/-- THE BLOCK X IS A STREAM: of what key, and at what place. -/
def SIs (w : World) (X : Nat) (key : BitVec 64) (i : Nat) : Prop := w.heap[X]? = some (.cells #[.int .u64 (key.toNat : Int), .int .i64 (i : Int), .bool true] 52 (0, 0))
theorem SIs.cells {w : World} {X i : Nat} {key : BitVec 64} (s : SIs w X key i) : w.cell? ⟨X, 0, none⟩ = some (.int .u64 (key.toNat : Int)) ∧ w.cell? ⟨X, 1, none⟩ = some (.int .i64 (i : Int)) ∧ w.cell? ⟨X, 2, none⟩ = some (.bool true) ∧ ∀ k, w.frozen? ⟨X, k, none⟩ = false := by
  unfold SIs at s
  refine ⟨by simp [World.cell?, s], by simp [World.cell?, s], by simp [World.cell?, s], fun k => by simp [World.frozen?, s]⟩
theorem SIs.lt {w : World} {X i : Nat} {key : BitVec 64} (s : SIs w X key i) : X < w.heap.size := (Array.getElem?_eq_some_iff.1 s).1
theorem SIs.below {w w' : World} {X i : Nat} {key : BitVec 64} (s : SIs w X key i) (hb : Below w.heap.size w w') : SIs w' X key i := (hb.block X s.lt).trans s
theorem SIs.kept {w w' : World} {X Y i : Nat} {key : BitVec 64} (s : SIs w X key i) (hg : w.grownBy w' (some Y)) (h : X ≠ Y) : SIs w' X key i := (hg.block X s.lt (by simpa using h)).trans s
theorem SIs.put {w : World} {X i : Nat} {key : BitVec 64} (s : SIs w X key i) (j : Nat) : SIs (w.setCell ⟨X, 1, none⟩ (.int .i64 (j : Int))) X key j := by
  obtain ⟨hlt, hk⟩ := Array.getElem?_eq_some_iff.1 s
  show (w.heap.modify X _)[X]? = _
  rw [Array.getElem?_eq_getElem (by rw [Array.size_modify]; exact hlt), Array.getElem_modify_self, hk]
  rfl
theorem SIs.grown {w : World} {X : Nat} (v : Value) : w.grownBy (w.setCell ⟨X, 1, none⟩ v) (some X) := Lib.grownBy_setCell w X 1 v
theorem grown_trans {a b c : World} {row : Option Nat} (h : a.grownBy b row) (k : b.grownBy c row) : a.grownBy c row :=
  ⟨k.os.trans h.os, k.tape.trans h.tape, k.output.trans h.output, Nat.le_trans h.size k.size, fun j hj hr => (k.block j (Nat.lt_of_lt_of_le hj h.size) hr).trans (h.block j hj hr)⟩
theorem grown_below {a b : World} (row : Option Nat) (h : Below a.heap.size a b) : a.grownBy b row :=
  ⟨h.os, h.tape, h.output, h.size, fun j hj _ => h.block j hj⟩

theorem isR_calls (X i : Nat) (key : BitVec 64) (w : World) (s : SIs w X key i) :
    Calls Try.prog 33 #[.pointer (some ⟨X, 0, none⟩)] w fun e w' => e = .returned (.bool true) ∧ w = w' := by
  obtain ⟨-, -, c2, -⟩ := s.cells
  clear s
  go_enter Try.func33, Try.ntmps33
  go_wp2
  go_ret
  exact ⟨rfl, rfl⟩
theorem indexR_calls (X i : Nat) (key : BitVec 64) (w : World) (s : SIs w X key i) :
    Calls Try.prog 21 #[.pointer (some ⟨X, 0, none⟩)] w fun e w' => e = .returned (.int .i64 (i : Int)) ∧ w = w' := by
  obtain ⟨-, c1, -, -⟩ := s.cells
  have hI := Lib.hid (isR_calls X i key w s)
  clear s
  go_enter Try.func21, Try.ntmps21
  go_wp2_with fail
  refine hI.out.mono ?_
  rintro e w' ⟨rfl, rfl⟩
  go_wp2
  go_ret
  exact ⟨rfl, rfl⟩
theorem newR_yes (s : BitVec 64) (p : Nat) (hp : p ≤ 65536) (w : World) :
    Calls Try.prog 14 #[.int .u64 (s.toNat : Int), .int .i64 (p : Int)] w fun e w' => ∃ X, e = .returned (.tuple #[.pointer (some ⟨X, 0, none⟩), .int .i64 0]) ∧ w.heap.size ≤ X ∧ SIs w' X (keyB s p) 0 ∧ Below w.heap.size w w' := by
  have hO := Lib.hid (fun W => of_yes s p hp W)
  generalize keyB s p = key at *
  go_enter Try.func14, Try.ntmps14
  go_wp2_with fail
  refine (hO.out _).mono ?_
  rintro e w1 ⟨rfl, hb⟩
  have hz := hb.size
  go_wp2
  have HN := Lib.hid (World.alloc_heap_new (w1.alloc (.cells #[.int .u64 (key.toNat : Int)] 48)) (.cells #[.int .u64 (key.toNat : Int), .int .i64 0, .bool true] 52))
  go_ret2
  exact ⟨_, rfl, by omega, by have := HN.out; rwa [World.size_alloc] at this, by go_grown⟩
theorem newR_no (s : BitVec 64) (p : Int) (hp : p < 0 ∨ 65536 < p) (w : World) :
    Calls Try.prog 14 #[.int .u64 (s.toNat : Int), .int .i64 p] w fun e w' => e = .returned (.tuple #[.pointer none, .int .i64 2]) ∧ Below w.heap.size w w' := by
  have hO := Lib.hid (fun W => of_no s p hp W)
  clear hp
  go_enter Try.func14, Try.ntmps14
  go_wp2_with fail
  refine (hO.out _).mono ?_
  rintro e w1 ⟨rfl, hb⟩
  have hz := hb.size
  go_wp2
  go_ret2
  exact ⟨rfl, by go_grown⟩
theorem moveR_yes (X i j : Nat) (key : BitVec 64) (w : World) (s : SIs w X key i) (hj : j ≤ 281474976710657) :
    Calls Try.prog 20 #[.pointer (some ⟨X, 0, none⟩), .int .i64 (j : Int)] w fun e w' => e = .returned (.int .i64 0) ∧ w' = w.setCell ⟨X, 1, none⟩ (.int .i64 (j : Int)) := by
  obtain ⟨-, c1, -, f⟩ := s.cells
  have hI := Lib.hid (isR_calls X i key w s)
  have hf := f 1
  clear s f
  have h0 : ¬ (j : Int) < 0 := by omega
  have h1 : ¬ 281474976710657 < (j : Int) := by omega
  go_enter Try.func20, Try.ntmps20
  go_wp2_with fail
  refine hI.out.mono ?_
  rintro e w' ⟨rfl, rfl⟩
  go_wp2
  go_ret
  exact ⟨rfl, rfl⟩
theorem moveR_no (X i : Nat) (j : Int) (key : BitVec 64) (w : World) (s : SIs w X key i) (hj : j < 0 ∨ 281474976710657 < j) :
    Calls Try.prog 20 #[.pointer (some ⟨X, 0, none⟩), .int .i64 j] w fun e w' => e = .returned (.int .i64 2) ∧ w = w' := by
  have hI := Lib.hid (isR_calls X i key w s)
  clear s
  by_cases h0 : j < 0
  · clear hj
    go_enter Try.func20, Try.ntmps20
    go_wp2_with fail
    refine hI.out.mono ?_
    rintro e w' ⟨rfl, rfl⟩
    go_wp2
    go_ret
    exact ⟨rfl, rfl⟩
  · have h1 : 281474976710657 < j := by omega
    clear hj
    go_enter Try.func20, Try.ntmps20
    go_wp2_with fail
    refine hI.out.mono ?_
    rintro e w' ⟨rfl, rfl⟩
    go_wp2
    go_ret
    exact ⟨rfl, rfl⟩
theorem goOn_deferred (X i : Nat) (u : FrameMode) (w : World) (c1 : w.cell? ⟨X, 1, none⟩ = some (.int .i64 (i : Int))) (hf : w.frozen? ⟨X, 1, none⟩ = false) (hi : i ≤ 281474976710656) :
    CallsD Try.prog 34 #[.pointer (some ⟨X, 1, none⟩)] u w fun e u' w' => u' = u ∧ (e = .returned (.tuple #[]) ∧ w' = w.setCell ⟨X, 1, none⟩ (.int .i64 ((i + 1 : Nat) : Int))) := by
  go_enter_d Try.func34, Try.ntmps34
  go_wp2
  refine bodyPost_end (results_none rfl _ _ _) rfl ⟨rfl, rfl⟩
theorem nextR_full (X : Nat) (key : BitVec 64) (w : World) (s : SIs w X key 281474976710657) :
    Calls Try.prog 17 #[.pointer (some ⟨X, 0, none⟩)] w fun e w' => e = .returned (.tuple #[.int .u64 0, .int .i64 4]) ∧ w = w' := by
  obtain ⟨-, c1, -, -⟩ := s.cells
  have hI := Lib.hid (isR_calls X _ key w s)
  clear s
  have e1 : ((281474976710657 : Nat) : Int) = 281474976710657 := rfl
  rw [e1] at c1
  go_enter_defers Try.func17, Try.ntmps17
  go_wp2_with fail
  refine hI.out.mono ?_
  rintro e w' ⟨rfl, rfl⟩
  go_wp2
  exact ⟨_, results_tmp2 rfl _ _ _, rfl, rfl⟩
/-- A piece that does not panic, in a function that defers. -/
theorem then_calm {P : Program} {c : Code} {K : Act → World → Prop} {Q : Exit → Act → World → Prop} {a : Act} {w : World} (h : c.wp P (Exit.then K fun _ _ _ => False) a w) : c.wp P (Exit.then K Q) a w :=
  Code.wp_mono (fun e a w h => by cases e <;> first | exact h | exact h.elim) h
theorem nextR_yes (X i : Nat) (key : BitVec 64) (w : World) (s : SIs w X key i) (hi : i ≤ 281474976710656) :
    Calls Try.prog 17 #[.pointer (some ⟨X, 0, none⟩)] w fun e w' => e = .returned (.tuple #[.int .u64 ((valB key i).toNat : Int), .int .i64 0]) ∧ SIs w' X key (i + 1) ∧ w.grownBy w' (some X) := by
  obtain ⟨c0, c1, -, f⟩ := s.cells
  have hI := Lib.hid (isR_calls X i key w s)
  have hA := Lib.hid (fun W => at_calls key i hi W)
  have hi1 : ¬ 281474976710656 < (i : Int) := by omega
  have HF := Lib.hid (f 1)
  have HX := Lib.hid (show X < w.heap.size from s.lt)
  have HS := Lib.hid s
  have HC1 := Lib.hid c1
  clear s f
  go_enter_defers Try.func17, Try.ntmps17
  go_wp2_with fail
  refine hI.out.mono ?_
  rintro e w' ⟨rfl, rfl⟩
  go_wp2_with fail
  go_cut [2, 3] from 16 to 25 (fun x y wx => x = .int .u64 ((valB key i).toNat : Int) ∧ y = .int .i64 0 ∧ Below w.heap.size w wx)
  case first =>
    refine then_calm ?_
    go_region_law (first
      | (go_simp; go_at_call 35; refine (hA.out _).mono ?_; rintro e w2 ⟨rfl, hb2⟩)
      | fail)
    all_goals
      go_wp2_with fail
      go_meet
      exact ⟨rfl, rfl, by first | exact hb2 | exact (Below.refl _ _).drew.trans hb2 | exact (below_drewN (Below.refl _ _) _).trans hb2⟩
  case rest =>
    obtain ⟨rfl, rfl, hb⟩ := hcut
    go_wp2
    have s2 := HS.out.below hb
    obtain ⟨-, d1, -, f2⟩ := s2.cells
    refine leaves_cons (f := 34) (args := #[.pointer (some ⟨X, 1, none⟩)]) (by simp) (by simp [go_sem]) ?_
    refine (goOn_deferred X i .returning _ d1 (f2 1) hi).mono ?_
    rintro e u' w'' ⟨rfl, rfl, rfl⟩
    exact ⟨_, results_tmp2 rfl _ _ _, rfl, s2.put (i + 1), grown_trans (grown_below _ hb) (SIs.grown _)⟩
theorem drawR_bound (X i : Nat) (n : Int) (key : BitVec 64) (w : World) (s : SIs w X key i) (hn : n < 1) :
    Calls Try.prog 18 #[.pointer (some ⟨X, 0, none⟩), .int .i64 n] w fun e w' => e = .returned (.tuple #[.int .i64 0, .int .i64 60]) ∧ w = w' := by
  have hI := Lib.hid (isR_calls X i key w s)
  clear s
  go_enter Try.func18, Try.ntmps18
  go_wp2_with fail
  refine hI.out.mono ?_
  rintro e w' ⟨rfl, rfl⟩
  go_wp2
  go_ret2
  exact ⟨rfl, rfl⟩
theorem drawR_full (X n : Nat) (key : BitVec 64) (w : World) (s : SIs w X key 281474976710657) (hn : 0 < n) :
    Calls Try.prog 18 #[.pointer (some ⟨X, 0, none⟩), .int .i64 (n : Int)] w fun e w' => e = .returned (.tuple #[.int .i64 0, .int .i64 4]) ∧ w = w' := by
  have hI := Lib.hid (isR_calls X _ key w s)
  have hN := Lib.hid (nextR_full X key w s)
  have hn1 : ¬ (n : Int) < 1 := by omega
  clear s
  go_enter Try.func18, Try.ntmps18
  go_wp2_with fail
  refine hI.out.mono ?_
  rintro e w' ⟨rfl, rfl⟩
  go_wp2_with fail
  refine hN.out.mono ?_
  rintro e w' ⟨rfl, rfl⟩
  go_wp2
  go_ret2
  exact ⟨rfl, rfl⟩
theorem drawR_yes (X i n : Nat) (key : BitVec 64) (w : World) (s : SIs w X key i) (hi : i ≤ 281474976710656) (hn : 0 < n) (hn2 : n < 9223372036854775808) :
    Calls Try.prog 18 #[.pointer (some ⟨X, 0, none⟩), .int .i64 (n : Int)] w fun e w' => e = .returned (.tuple #[.int .i64 (belN (valB key i).toNat n : Int), .int .i64 0]) ∧ SIs w' X key (i + 1) ∧ w.grownBy w' (some X) := by
  have hI := Lib.hid (isR_calls X _ key w s)
  have hN := Lib.hid (nextR_yes X i key w s hi)
  have hB := Lib.hid (fun W => below_yes (valB key i).toNat n (valB key i).isLt hn hn2 W)
  generalize belN (valB key i).toNat n = d at *
  generalize (valB key i).toNat = v at *
  have hn1 : ¬ (n : Int) < 1 := by omega
  clear s
  go_enter Try.func18, Try.ntmps18
  go_wp2_with fail
  refine hI.out.mono ?_
  rintro e w' ⟨rfl, rfl⟩
  go_wp2_with fail
  refine hN.out.mono ?_
  rintro e w' ⟨rfl, hs, hg⟩
  go_wp2_with fail
  refine (hB.out _).mono ?_
  rintro e w' ⟨rfl, rfl⟩
  go_wp2
  go_ret2
  exact ⟨rfl, hs, hg⟩
end Go.Proofs.Ytfcajgfhmfpchaa
