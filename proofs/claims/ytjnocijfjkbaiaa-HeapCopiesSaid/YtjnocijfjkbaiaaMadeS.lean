/-
  CONTRACT of the law's made.
-/
import Derived.Test.YtjnocijfjkbaiaaMadeR
import Derived.Test.YtjnocijfjkbaiaaRegionAny
namespace Go.Proofs.Ytjnocijfjkbaiaa
open Go.RowKit Go.Shelf

/-- What is there, out of the two arrays. -/
def mKT (K : Nat → Ky) (T : Nat → Bool) : Mp := fun p => if T p = true then some (K p) else none
theorem mKT_put (K : Nat → Ky) (T : Nat → Bool) (p : Nat) (k : Ky) : updM (mKT K T) p (some k) = mKT (setF K p k) (setF T p true) := by
  funext r
  unfold updM mKT setF
  by_cases c : r = p
  · simp [c]
  · simp [c]
theorem mKT_change (K : Nat → Ky) (T : Nat → Bool) (p : Nat) (k : Ky) (h : T p = true) : updM (mKT K T) p (some k) = mKT (setF K p k) T := by
  funext r
  unfold updM mKT setF
  by_cases c : r = p
  · simp [c, h]
  · simp [c]
theorem mKT_drop (K : Nat → Ky) (T : Nat → Bool) (p : Nat) : updM (mKT K T) p none = mKT K (setF T p false) := by
  funext r
  unfold updM mKT setF
  by_cases c : r = p
  · simp [c]
  · simp [c]
theorem mKT_same (K : Nat → Ky) (T : Nat → Bool) (p : Nat) (h : T p = false) : mKT K T = mKT K (setF T p false) := by
  funext r
  unfold mKT setF
  by_cases c : r = p
  · simp [c, h]
  · simp [c]
/-- WHERE MADE STANDS: the arrays' blocks, the heap. -/
structure MdAt (w wr : World) (q b3 b4 b8 b9 : Nat) (K : Nat → Ky) (T : Nat → Bool) (M : Mp) (F : Nat → Prop) : Prop where
  heap : HA wr q F 24 M
  keys : KArr wr b8 K
  there : TArr wr b9 T
  out3 : KArr wr b3 (fun _ => (0, 0, 0))
  out4 : TArr wr b4 (fun _ => false)
  off : ∀ j, F j → w.heap.size ≤ j ∧ j ≠ b3 ∧ j ≠ b4 ∧ j ≠ b8 ∧ j ≠ b9
  below : Below w.heap.size w wr
  rest : ∀ p, 24 ≤ p → T p = false
  ne : (b8 ≠ b9 ∧ b3 ≠ b8 ∧ b3 ≠ b9 ∧ b4 ≠ b8 ∧ b4 ≠ b9) ∧ (w.heap.size ≤ b8 ∧ w.heap.size ≤ b9)
section
variable {w wr w' : World} {q b3 b4 b8 b9 : Nat} {K : Nat → Ky} {T : Nat → Bool} {M M' : Mp} {F : Nat → Prop}
theorem MdAt.to (h : MdAt w wr q b3 b4 b8 b9 K T M F) (hb : Below wr.heap.size wr w') : MdAt w w' q b3 b4 b8 b9 K T M F :=
  ⟨h.heap.below hb, (hb.block _ (Array.getElem?_eq_some_iff.1 h.keys).1).trans h.keys, (hb.block _ (Array.getElem?_eq_some_iff.1 h.there).1).trans h.there, (hb.block _ (Array.getElem?_eq_some_iff.1 h.out3).1).trans h.out3, (hb.block _ (Array.getElem?_eq_some_iff.1 h.out4).1).trans h.out4, h.off, h.below.trans (hb.mono h.below.size), h.rest, h.ne⟩
theorem MdAt.setK (h : MdAt w wr q b3 b4 b8 b9 K T M F) (p : Nat) (hp : p < 24) (k : Ky) : MdAt w (((wr.setCell ⟨b8, p * 3, none⟩ (.int .i64 k.1)).setCell ⟨b8, p * 3 + 1, none⟩ (.int .i64 k.2.1)).setCell ⟨b8, p * 3 + 2, none⟩ (.int .i64 k.2.2)) q b3 b4 b8 b9 (setF K p k) T M F := by
  obtain ⟨⟨n1, n2, n3, n4, n5⟩, l8, l9⟩ := h.ne
  have e : ∀ j, j ≠ b8 → (((wr.setCell ⟨b8, p * 3, none⟩ (.int .i64 k.1)).setCell ⟨b8, p * 3 + 1, none⟩ (.int .i64 k.2.1)).setCell ⟨b8, p * 3 + 2, none⟩ (.int .i64 k.2.2)).heap[j]? = wr.heap[j]? := fun j hj => by
    rw [heap_setO _ _ _ hj, heap_setO _ _ _ hj, heap_setO _ _ _ hj]
  exact ⟨h.heap.keep fun j hj => e j (h.off j hj).2.2.2.1, h.keys.set p hp k, (e _ (Ne.symm n1)).trans h.there, (e _ n2).trans h.out3, (e _ n4).trans h.out4, h.off, ((h.below.setCell (p := ⟨b8, p * 3, none⟩) l8 _).setCell (p := ⟨b8, p * 3 + 1, none⟩) l8 _).setCell (p := ⟨b8, p * 3 + 2, none⟩) l8 _, h.rest, h.ne⟩
theorem MdAt.setT (h : MdAt w wr q b3 b4 b8 b9 K T M F) (p : Nat) (hp : p < 24) (v : Bool) : MdAt w (wr.setCell ⟨b9, p, none⟩ (.bool v)) q b3 b4 b8 b9 K (setF T p v) M F := by
  obtain ⟨⟨n1, n2, n3, n4, n5⟩, l8, l9⟩ := h.ne
  have e : ∀ j, j ≠ b9 → (wr.setCell ⟨b9, p, none⟩ (.bool v)).heap[j]? = wr.heap[j]? := fun j hj => heap_setO _ _ _ hj
  refine ⟨h.heap.keep fun j hj => e j (h.off j hj).2.2.2.2, (e _ n1).trans h.keys, h.there.set p hp v, (e _ n3).trans h.out3, (e _ n5).trans h.out4, h.off, h.below.setCell (p := ⟨b9, p, none⟩) l9 _, fun r hr => ?_, h.ne⟩
  unfold setF
  rw [if_neg (by omega)]
  exact h.rest r hr
/-- Behind a call that turns the heap. -/
theorem MdAt.step (h : MdAt w wr q b3 b4 b8 b9 K T M F) (hs : HStep wr w' q F 24 M') : ∃ F', MdAt w w' q b3 b4 b8 b9 K T M' F' := by
  obtain ⟨F', h1, h2, h3⟩ := hs.ex
  have l3 := (Array.getElem?_eq_some_iff.1 h.out3).1
  have l4 := (Array.getElem?_eq_some_iff.1 h.out4).1
  have l8 := (Array.getElem?_eq_some_iff.1 h.keys).1
  have l9 := (Array.getElem?_eq_some_iff.1 h.there).1
  have hsz := h.below.size
  refine ⟨F', h1, (h2.block _ l8 fun e => (h.off _ e).2.2.2.1 rfl).trans h.keys, (h2.block _ l9 fun e => (h.off _ e).2.2.2.2 rfl).trans h.there, (h2.block _ l3 fun e => (h.off _ e).2.1 rfl).trans h.out3, (h2.block _ l4 fun e => (h.off _ e).2.2.1 rfl).trans h.out4, fun j hj => ?_, h.below.trans (h2.below (fun k hk => (h.off k hk).1) h.below.size), h.rest, h.ne⟩
  rcases h3 j hj with e | e
  · exact h.off j e
  · exact ⟨by omega, by omega, by omega, by omega, by omega⟩
theorem MdAt.as (h : MdAt w wr q b3 b4 b8 b9 K T M F) (e : M = M') : MdAt w wr q b3 b4 b8 b9 K T M' F := e ▸ h
/-- WHERE MADE STANDS at its end. -/
structure MdEnd (w wr : World) (q b3 b4 b8 b9 : Nat) (K : Nat → Ky) (T : Nat → Bool) (M : Mp) (F : Nat → Prop) (K3 : Nat → Ky) (T4 : Nat → Bool) : Prop where
  heap : HA wr q F 24 M
  keys : KArr wr b8 K
  there : TArr wr b9 T
  out3 : KArr wr b3 K3
  out4 : TArr wr b4 T4
  off : ∀ j, F j → j ≠ b3 ∧ j ≠ b4
  below : Below w.heap.size w wr
  ne : (b3 ≠ b8 ∧ b3 ≠ b9 ∧ b4 ≠ b8 ∧ b4 ≠ b9 ∧ b3 ≠ b4) ∧ (w.heap.size ≤ b3 ∧ w.heap.size ≤ b4)
theorem MdAt.ends (h : MdAt w wr q b3 b4 b8 b9 K T M F) (n : b3 ≠ b4) (l : w.heap.size ≤ b3 ∧ w.heap.size ≤ b4) : MdEnd w wr q b3 b4 b8 b9 K T M F (fun _ => (0, 0, 0)) (fun _ => false) :=
  ⟨h.heap, h.keys, h.there, h.out3, h.out4, fun j hj => ⟨(h.off j hj).2.1, (h.off j hj).2.2.1⟩, h.below, ⟨h.ne.1.2.1, h.ne.1.2.2.1, h.ne.1.2.2.2.1, h.ne.1.2.2.2.2, n⟩, l⟩
section
variable {K3 : Nat → Ky} {T4 : Nat → Bool}
theorem MdEnd.drew (h : MdEnd w wr q b3 b4 b8 b9 K T M F K3 T4) : MdEnd w wr.drew q b3 b4 b8 b9 K T M F K3 T4 :=
  ⟨h.heap.keep fun _ _ => rfl, h.keys, h.there, h.out3, h.out4, h.off, h.below.drew, h.ne⟩
theorem MdEnd.set3 (h : MdEnd w wr q b3 b4 b8 b9 K T M F K3 T4) (L : Nat → Ky) : MdEnd w (wr.setRow b3 (kcs L)) q b3 b4 b8 b9 K T M F L T4 := by
  obtain ⟨⟨n1, n2, n3, n4, n5⟩, l3, l4⟩ := h.ne
  exact ⟨h.heap.keep fun j hj => setRow_other _ _ _ _ (h.off j hj).1, (setRow_other _ _ _ _ (Ne.symm n1)).trans h.keys, (setRow_other _ _ _ _ (Ne.symm n2)).trans h.there, setRow_heap _ _ _ _ _ _ h.out3, (setRow_other _ _ _ _ (Ne.symm n5)).trans h.out4, h.off, below_setRow h.below l3 _, h.ne⟩
theorem MdEnd.set4 (h : MdEnd w wr q b3 b4 b8 b9 K T M F K3 T4) (L : Nat → Bool) : MdEnd w (wr.setRow b4 (tcs L)) q b3 b4 b8 b9 K T M F K3 L := by
  obtain ⟨⟨n1, n2, n3, n4, n5⟩, l3, l4⟩ := h.ne
  exact ⟨h.heap.keep fun j hj => setRow_other _ _ _ _ (h.off j hj).2, (setRow_other _ _ _ _ (Ne.symm n3)).trans h.keys, (setRow_other _ _ _ _ (Ne.symm n4)).trans h.there, (setRow_other _ _ _ _ n5).trans h.out3, setRow_heap _ _ _ _ _ _ h.out4, h.off, below_setRow h.below l4 _, h.ne⟩
end
/-- THE BLOCK b IS A BOX with the act x. -/
abbrev XBox (W : World) (b xa xb xc xd : Nat) : Prop := W.heap[b]? = some (.cells #[.int .u8 (xa : Int), .int .u8 (xb : Int), .int .u8 (xc : Int), .int .u8 (xd : Int)] 61 (0, 0))
theorem XBox.cells {W : World} {b xa xb xc xd : Nat} (h : XBox W b xa xb xc xd) : W.cell? ⟨b, 0, none⟩ = some (.int .u8 (xa : Int)) ∧ W.cell? ⟨b, 1, none⟩ = some (.int .u8 (xb : Int)) ∧ W.cell? ⟨b, 2, none⟩ = some (.int .u8 (xc : Int)) ∧ W.cell? ⟨b, 3, none⟩ = some (.int .u8 (xd : Int)) :=
  ⟨by simp [World.cell?, h], by simp [World.cell?, h], by simp [World.cell?, h], by simp [World.cell?, h]⟩
theorem XBox.to {W W' : World} {b xa xb xc xd : Nat} (h : XBox W b xa xb xc xd) (hb : Below W.heap.size W W') : XBox W' b xa xb xc xd := (hb.block _ (Array.getElem?_eq_some_iff.1 h).1).trans h
end
set_option maxRecDepth 100000 in
set_option maxHeartbeats 8000000 in
theorem made_calls (v : Value) (l : List Sm) (w : World) (hv : SmRow w v l) :
    Calls Try.prog 23 #[v] w fun e w' => ∃ q K T F, e = .returned (.tuple #[.pointer (some ⟨q, 0, none⟩), .agg (kcs K), .agg (tcs T), .bool true]) ∧ HA w' q F 24 (mKT K T) ∧ (∀ j, F j → w.heap.size ≤ j) ∧ (∀ p, 24 ≤ p → T p = false) ∧ Below w.heap.size w w' := by
  have mixed : Try.prog.follows .mixedOrders = true := by kernel_rfl
  obtain ⟨va, vc, rfl, hlc, hvc⟩ := hv.shape
  have HV := Lib.hid hv
  clear hv
  obtain ⟨m, hm⟩ : ∃ m, l.length = m := ⟨_, rfl⟩
  have HM := Lib.hid hm
  rw [hm] at hlc ⊢
  clear hm
  go_enter Try.func23, Try.ntmps23
  go_upto_region 6 with (first
    | (refine wpList_alloc_row rfl 53 rfl _ zero_karr ?_)
    | (refine wpList_alloc_row rfl 54 rfl _ zero_tarr ?_)
    | (go_at_call 11; refine (new_ok 24 (by omega) _).mono ?_; rintro e w1 ⟨q, rfl, hn1⟩)
    | fail)
  obtain ⟨F0, hA0, hB0, hF0⟩ := hn1.ex
  simp only [World.size_alloc] at hF0
  obtain ⟨n0, hn0, hn1', hn2⟩ : ∃ n0 : Nat, min (m : Int) 80 = (n0 : Int) ∧ n0 ≤ m ∧ n0 ≤ 80 := by
    by_cases c : m ≤ 80
    · exact ⟨m, by omega, Nat.le_refl _, c⟩
    · exact ⟨80, by omega, by omega, Nat.le_refl _⟩
  have hnv : n0 ≤ vc := by omega
  have hW1 : Below w.heap.size w w1 := (((Below.refl w.heap.size w).alloc (Nat.le_refl _) (.cells (kcs fun _ => (0, 0, 0)) 53)).alloc (by simp) (.cells (tcs fun _ => false) 54)).trans (hB0.mono (by simp; omega))
  have hs1 : w.heap.size + 2 ≤ w1.heap.size := by have := hB0.size; simpa using this
  have HS := Lib.hid (show MdAt w ((w1.alloc (.cells (kcs fun _ => (0, 0, 0)) 53)).alloc (.cells (tcs fun _ => false) 54)) q w.heap.size (w.heap.size + 1) w1.heap.size (w1.heap.size + 1) (fun _ => (0, 0, 0)) (fun _ => false) (mKT (fun _ => (0, 0, 0)) (fun _ => false)) F0 by
    have hb2 : Below w1.heap.size w1 ((w1.alloc (.cells (kcs fun _ => (0, 0, 0)) 53)).alloc (.cells (tcs fun _ => false) 54)) := ((Below.refl _ w1).alloc (Nat.le_refl _) _).alloc (by simp) _
    refine ⟨(hA0.below hb2).congr fun p => by simp [mKT], ?_, ?_, ?_, ?_, fun j hj => ?_, hW1.trans (hb2.mono hW1.size), fun _ _ => rfl, ⟨⟨by omega, by omega, by omega, by omega, by omega⟩, by omega, by omega⟩⟩
    · exact (Below.heap_alloc _ _ _ (by simp)).trans (World.alloc_heap_new w1 _)
    · have := World.alloc_heap_new (w1.alloc (.cells (kcs fun _ => (0, 0, 0)) 53)) (.cells (tcs fun _ => false) 54)
      rwa [World.size_alloc] at this
    · refine (hb2.block _ (by omega)).trans ((hB0.block _ (by simp; omega)).trans ?_)
      exact (Below.heap_alloc _ _ _ (by simp)).trans (World.alloc_heap_new w _)
    · refine (hb2.block _ (by omega)).trans ((hB0.block _ (by simp)).trans ?_)
      have := World.alloc_heap_new (w.alloc (.cells (kcs fun _ => (0, 0, 0)) 53)) (.cells (tcs fun _ => false) 54)
      rwa [World.size_alloc] at this
    · have h1 := hF0 j hj
      have h2 := hA0.lt j hj
      exact ⟨by omega, by omega, by omega, by omega, by omega⟩)
  obtain ⟨b8, hb8⟩ : ∃ b8, w1.heap.size = b8 := ⟨_, rfl⟩
  rw [hb8] at HS
  clear hn1 hA0 hB0 hF0 hW1
  go_wp2_with fail
  clear hb8 hs1
  go_loopw [39] (fun s39 wr => ∃ (k : Nat) (K : Nat → Ky) (T : Nat → Bool) (F : Nat → Prop), k ≤ n0 ∧ s39 = .int .i64 (k : Int) ∧ MdAt w wr q w.heap.size (w.heap.size + 1) b8 (b8 + 1) K T (mKT K T) F) (fun s39 _ => n0 - (intOf s39).toNat)
  case atStart => exact ⟨0, _, _, F0, Nat.zero_le _, rfl, HS.out⟩
  case round =>
    obtain ⟨k, K, T, F, hk, rfl, hA⟩ := hrel
    have HA := Lib.hid hA
    clear HS
    by_cases hlt : k < n0
    · have hkl : k < l.length := by rw [HM.out]; omega
      obtain ⟨hok, ⟨e, _⟩ | ⟨sb, so, sc, e, hsb, _, _, hsc⟩⟩ := HV.out.below hA.below
      · rw [e] at hkl; simp at hkl
      obtain ⟨x0, x1, x2, x3⟩ := hsc k hkl
      have hx := smq_ok hok k hkl
      have e3 : va = some ⟨sb, so, none⟩ ∧ vc = sc := by simpa using e
      obtain ⟨rfl, rfl⟩ := e3
      obtain ⟨X, hX⟩ : ∃ X, smq l k = X := ⟨_, rfl⟩
      rw [hX] at x0 x1 x2 x3 hx
      obtain ⟨xa, xb, xc, xd⟩ := X
      dsimp only at x0 x1 x2 x3
      obtain ⟨y0, y1, y2, y3⟩ := hx
      dsimp only at y0 y1 y2 y3
      have hk1 : (k : Int) < (n0 : Int) := by omega
      have hwk : IntKind.i64.wrap ((k : Int) + 1) = (k : Int) + 1 := by rw [IntKind.wrap_i64]; omega
      obtain ⟨P, hP⟩ : ∃ P : Nat, xb % 24 = P := ⟨_, rfl⟩
      have hP24 : P < 24 := by omega
      have hPi : (xb : Int) % 24 = (P : Int) := by omega
      have HOk := Lib.hid (show SmOk (xa, xb, xc, xd) from ⟨y0, y1, y2, y3⟩)
      have HOf := Lib.hid (fun W => of_calls (xa, xb, xc, xd) HOk.out W)
      obtain ⟨k0, hk0⟩ : ∃ k0, keyS (xa, xb, xc, xd) = k0 := ⟨_, rfl⟩
      rw [hk0] at HOf
      have hsbl := hsb
      clear hA e hsc hok hX hP hk0
      go_upto_region 19 with fail
      have hbx : Below wr.heap.size wr (wr.alloc (.cells #[.int .u8 (xa : Int), .int .u8 (xb : Int), .int .u8 (xc : Int), .int .u8 (xd : Int)] 61)) := (Below.refl _ wr).alloc (Nat.le_refl _) _
      have HNf := Lib.hid (show ¬ F wr.heap.size from fun e => by have := HA.out.heap.lt _ e; omega)
      have hnb : wr.heap.size ≠ b8 ∧ wr.heap.size ≠ b8 + 1 := by
        have h1 := (Array.getElem?_eq_some_iff.1 HA.out.keys).1
        have h2 := (Array.getElem?_eq_some_iff.1 HA.out.there).1
        exact ⟨by omega, by omega⟩
      have HA0 := Lib.hid (HA.out.to hbx)
      have HX0 := Lib.hid (show XBox _ wr.heap.size xa xb xc xd from World.alloc_heap_new wr (.cells #[.int .u8 (xa : Int), .int .u8 (xb : Int), .int .u8 (xc : Int), .int .u8 (xd : Int)] 61))
      generalize wr.alloc (.cells #[.int .u8 (xa : Int), .int .u8 (xb : Int), .int .u8 (xc : Int), .int .u8 (xd : Int)] 61) = W0 at *
      generalize wr.heap.size = bx at *
      clear hbx HA x0 x1 x2 x3 y0 y1 y2 y3 hsb hsbl HV HM
      have h6 : (xa : Int) % 6 = 0 ∨ (xa : Int) % 6 = 1 ∨ (xa : Int) % 6 = 2 ∨ (xa : Int) % 6 = 3 ∨ (xa : Int) % 6 = 4 ∨ (xa : Int) % 6 = 5 := by omega
      obtain ⟨p0, p1, p2, p3⟩ := HX0.out.cells
      obtain ⟨tP, tf⟩ := HA0.out.there.cells P hP24
      have hP1 : (P : Int) < 24 := by omega
      rcases h6 with h6 | h6 | h6 | h6 | h6 | h6
      · obtain ⟨tv, hT⟩ : ∃ tv, T P = tv := ⟨_, rfl⟩
        rw [hT] at tP
        have HT := Lib.hid hT
        clear hT
        cases tv with
        | true =>
          go_wp2_with (first
            | (go_at_call 25; refine (HOf.out _).mono ?_; rintro e w2 ⟨rfl, hb2⟩; have A2 := Lib.hid (HA0.out.to hb2); have HPt := Lib.hid (put_there A2.out.heap P (K P) (by simp [mKT, HT.out]) k0))
            | (go_at_call 12; refine HPt.out.mono ?_; rintro e w3 ⟨rfl, hb3⟩; have A3 := Lib.hid (A2.out.to hb3))
            | fail)
          go_roundw
          case rel => exact ⟨k + 1, K, T, F, hlt, by go_num, A3.out⟩
          case measure => simp [intOf]; omega
        | false =>
          go_upto_region 25 with (first
            | (go_at_call 25; refine (HOf.out _).mono ?_; rintro e w2 ⟨rfl, hb2⟩; have A2 := Lib.hid (HA0.out.to hb2); have X2 := Lib.hid (HX0.out.to hb2); obtain ⟨g0, g1, g2, gf⟩ := A2.out.keys.cells P hP24; obtain ⟨tP2, tf2⟩ := A2.out.there.cells P hP24)
            | fail)
          obtain ⟨W3, hW3⟩ : ∃ W3, W3 = ((((w2.setCell ⟨b8, P * 3, none⟩ (.int .i64 k0.1)).setCell ⟨b8, P * 3 + 1, none⟩ (.int .i64 k0.2.1)).setCell ⟨b8, P * 3 + 2, none⟩ (.int .i64 k0.2.2)).setCell ⟨b8 + 1, P, none⟩ (.bool true)) := ⟨_, rfl⟩
          rw [← hW3]
          have A3 := Lib.hid (show MdAt w W3 q w.heap.size (w.heap.size + 1) b8 (b8 + 1) (setF K P k0) (setF T P true) (mKT K T) F by rw [hW3]; exact (A2.out.setK P hP24 k0).setT P hP24 true)
          have X3 := Lib.hid (show XBox W3 bx xa xb xc xd by rw [hW3]; exact (heap_setO _ _ _ hnb.2).trans ((heap_setO _ _ _ hnb.1).trans ((heap_setO _ _ _ hnb.1).trans ((heap_setO _ _ _ hnb.1).trans X2.out))))
          clear hW3 g0 g1 g2 gf tP2 tf2 tP tf p0 p1 p2 p3
          obtain ⟨p0, p1, p2, p3⟩ := X3.out.cells
          go_wp2_with (first
            | (go_at_call 25; refine (HOf.out _).mono ?_; rintro e w4 ⟨rfl, hb4⟩; have A4 := Lib.hid (A3.out.to hb4); have HPt := Lib.hid (put_ok A4.out.heap P hP24 (by simp [mKT, HT.out]) k0))
            | (go_at_call 12; refine HPt.out.mono ?_; rintro e w5 ⟨rfl, hs5⟩; obtain ⟨F5, hA5⟩ := A4.out.step hs5; have A5 := Lib.hid hA5; clear hs5 hA5)
            | fail)
          go_roundw
          case rel => exact ⟨k + 1, _, _, F5, hlt, by go_num, A5.out.as (mKT_put K T P k0)⟩
          case measure => simp [intOf]; omega
      · obtain ⟨tv, hT⟩ : ∃ tv, T P = tv := ⟨_, rfl⟩
        rw [hT] at tP
        have HT := Lib.hid hT
        clear hT
        cases tv with
        | true =>
          go_wp2_with (first
            | (go_at_call 25; refine (HOf.out _).mono ?_; rintro e w2 ⟨rfl, hb2⟩; have A2 := Lib.hid (HA0.out.to hb2); have HPt := Lib.hid (put_there A2.out.heap P (K P) (by simp [mKT, HT.out]) k0))
            | (go_at_call 12; refine HPt.out.mono ?_; rintro e w3 ⟨rfl, hb3⟩; have A3 := Lib.hid (A2.out.to hb3))
            | fail)
          go_roundw
          case rel => exact ⟨k + 1, K, T, F, hlt, by go_num, A3.out⟩
          case measure => simp [intOf]; omega
        | false =>
          go_upto_region 25 with (first
            | (go_at_call 25; refine (HOf.out _).mono ?_; rintro e w2 ⟨rfl, hb2⟩; have A2 := Lib.hid (HA0.out.to hb2); have X2 := Lib.hid (HX0.out.to hb2); obtain ⟨g0, g1, g2, gf⟩ := A2.out.keys.cells P hP24; obtain ⟨tP2, tf2⟩ := A2.out.there.cells P hP24)
            | fail)
          obtain ⟨W3, hW3⟩ : ∃ W3, W3 = ((((w2.setCell ⟨b8, P * 3, none⟩ (.int .i64 k0.1)).setCell ⟨b8, P * 3 + 1, none⟩ (.int .i64 k0.2.1)).setCell ⟨b8, P * 3 + 2, none⟩ (.int .i64 k0.2.2)).setCell ⟨b8 + 1, P, none⟩ (.bool true)) := ⟨_, rfl⟩
          rw [← hW3]
          have A3 := Lib.hid (show MdAt w W3 q w.heap.size (w.heap.size + 1) b8 (b8 + 1) (setF K P k0) (setF T P true) (mKT K T) F by rw [hW3]; exact (A2.out.setK P hP24 k0).setT P hP24 true)
          have X3 := Lib.hid (show XBox W3 bx xa xb xc xd by rw [hW3]; exact (heap_setO _ _ _ hnb.2).trans ((heap_setO _ _ _ hnb.1).trans ((heap_setO _ _ _ hnb.1).trans ((heap_setO _ _ _ hnb.1).trans X2.out))))
          clear hW3 g0 g1 g2 gf tP2 tf2 tP tf p0 p1 p2 p3
          obtain ⟨p0, p1, p2, p3⟩ := X3.out.cells
          go_wp2_with (first
            | (go_at_call 25; refine (HOf.out _).mono ?_; rintro e w4 ⟨rfl, hb4⟩; have A4 := Lib.hid (A3.out.to hb4); have HPt := Lib.hid (put_ok A4.out.heap P hP24 (by simp [mKT, HT.out]) k0))
            | (go_at_call 12; refine HPt.out.mono ?_; rintro e w5 ⟨rfl, hs5⟩; obtain ⟨F5, hA5⟩ := A4.out.step hs5; have A5 := Lib.hid hA5; clear hs5 hA5)
            | fail)
          go_roundw
          case rel => exact ⟨k + 1, _, _, F5, hlt, by go_num, A5.out.as (mKT_put K T P k0)⟩
          case measure => simp [intOf]; omega
      · obtain ⟨tv, hT⟩ : ∃ tv, T P = tv := ⟨_, rfl⟩
        rw [hT] at tP
        have HT := Lib.hid hT
        clear hT
        cases tv with
        | true =>
          go_wp2_with (first
            | (go_at_call 25; refine (HOf.out _).mono ?_; rintro e w2 ⟨rfl, hb2⟩; have A2 := Lib.hid (HA0.out.to hb2); have HPt := Lib.hid (put_there A2.out.heap P (K P) (by simp [mKT, HT.out]) k0))
            | (go_at_call 12; refine HPt.out.mono ?_; rintro e w3 ⟨rfl, hb3⟩; have A3 := Lib.hid (A2.out.to hb3))
            | fail)
          go_roundw
          case rel => exact ⟨k + 1, K, T, F, hlt, by go_num, A3.out⟩
          case measure => simp [intOf]; omega
        | false =>
          go_upto_region 25 with (first
            | (go_at_call 25; refine (HOf.out _).mono ?_; rintro e w2 ⟨rfl, hb2⟩; have A2 := Lib.hid (HA0.out.to hb2); have X2 := Lib.hid (HX0.out.to hb2); obtain ⟨g0, g1, g2, gf⟩ := A2.out.keys.cells P hP24; obtain ⟨tP2, tf2⟩ := A2.out.there.cells P hP24)
            | fail)
          obtain ⟨W3, hW3⟩ : ∃ W3, W3 = ((((w2.setCell ⟨b8, P * 3, none⟩ (.int .i64 k0.1)).setCell ⟨b8, P * 3 + 1, none⟩ (.int .i64 k0.2.1)).setCell ⟨b8, P * 3 + 2, none⟩ (.int .i64 k0.2.2)).setCell ⟨b8 + 1, P, none⟩ (.bool true)) := ⟨_, rfl⟩
          rw [← hW3]
          have A3 := Lib.hid (show MdAt w W3 q w.heap.size (w.heap.size + 1) b8 (b8 + 1) (setF K P k0) (setF T P true) (mKT K T) F by rw [hW3]; exact (A2.out.setK P hP24 k0).setT P hP24 true)
          have X3 := Lib.hid (show XBox W3 bx xa xb xc xd by rw [hW3]; exact (heap_setO _ _ _ hnb.2).trans ((heap_setO _ _ _ hnb.1).trans ((heap_setO _ _ _ hnb.1).trans ((heap_setO _ _ _ hnb.1).trans X2.out))))
          clear hW3 g0 g1 g2 gf tP2 tf2 tP tf p0 p1 p2 p3
          obtain ⟨p0, p1, p2, p3⟩ := X3.out.cells
          go_wp2_with (first
            | (go_at_call 25; refine (HOf.out _).mono ?_; rintro e w4 ⟨rfl, hb4⟩; have A4 := Lib.hid (A3.out.to hb4); have HPt := Lib.hid (put_ok A4.out.heap P hP24 (by simp [mKT, HT.out]) k0))
            | (go_at_call 12; refine HPt.out.mono ?_; rintro e w5 ⟨rfl, hs5⟩; obtain ⟨F5, hA5⟩ := A4.out.step hs5; have A5 := Lib.hid hA5; clear hs5 hA5)
            | fail)
          go_roundw
          case rel => exact ⟨k + 1, _, _, F5, hlt, by go_num, A5.out.as (mKT_put K T P k0)⟩
          case measure => simp [intOf]; omega
      · obtain ⟨tv, hT⟩ : ∃ tv, T P = tv := ⟨_, rfl⟩
        rw [hT] at tP
        have HT := Lib.hid hT
        clear hT
        cases tv with
        | true =>
          go_upto_region 31 with (first
            | (go_at_call 25; refine (HOf.out _).mono ?_; rintro e w2 ⟨rfl, hb2⟩; have A2 := Lib.hid (HA0.out.to hb2); have X2 := Lib.hid (HX0.out.to hb2); have HCh := Lib.hid (change_yes A2.out.heap P (K P) (by simp [mKT, HT.out]) k0))
            | (go_at_call 16; refine HCh.out.mono ?_; rintro e w3 ⟨rfl, hs3⟩; obtain ⟨F3, hA3⟩ := A2.out.step hs3; have A3 := Lib.hid hA3; have X3 := Lib.hid (show XBox w3 bx xa xb xc xd by obtain ⟨_, _, ho, _⟩ := hs3.ex; exact (ho.block _ (Array.getElem?_eq_some_iff.1 X2.out).1 HNf.out).trans X2.out); clear hs3 hA3)
            | fail)
          have hba : Below w3.heap.size w3 (w3.alloc (.cells #[.int .i64 (K P).1, .int .i64 (K P).2.1, .int .i64 (K P).2.2] 27)) := (Below.refl _ w3).alloc (Nat.le_refl _) _
          have A3b := Lib.hid (A3.out.to hba)
          have X3b := Lib.hid (X3.out.to hba)
          have hk3 : KBox (w3.alloc (.cells #[.int .i64 (K P).1, .int .i64 (K P).2.1, .int .i64 (K P).2.2] 27)) w3.heap.size (K P) := World.alloc_heap_new w3 _
          generalize w3.alloc (.cells #[.int .i64 (K P).1, .int .i64 (K P).2.1, .int .i64 (K P).2.2] 27) = W4 at *
          generalize w3.heap.size = b14 at *
          obtain ⟨z0, z1, z2, -⟩ := hk3.cells
          obtain ⟨g0, g1, g2, gf⟩ := A3b.out.keys.cells P hP24
          clear hba hk3 p0 p1 p2 p3 tP tf
          have hne := neqK (K P).1 (K P).2.1 (K P).2.2 (K P).1 (K P).2.1 (K P).2.2
          rw [decide_eq_true rfl] at hne
          go_quiet (fail)
          have hbd : Below W4.heap.size W4 (W4.drewN nq) := ⟨rfl, rfl, rfl, Nat.le_refl _, fun _ _ => rfl⟩
          have A5 := Lib.hid (A3b.out.to hbd)
          have X5 := Lib.hid (X3b.out.to hbd)
          generalize W4.drewN nq = W5 at *
          clear hbd g0 g1 g2 gf z0 z1 z2 hne
          obtain ⟨p0, p1, p2, p3⟩ := X5.out.cells
          go_wp2_with (first
            | (go_at_call 25; refine (HOf.out _).mono ?_; rintro e w6 ⟨rfl, hb6⟩; have A6 := Lib.hid (A5.out.to hb6); obtain ⟨g0, g1, g2, gf⟩ := A6.out.keys.cells P hP24)
            | fail)
          go_roundw
          case rel => exact ⟨k + 1, _, T, F3, hlt, by go_num, (A6.out.setK P hP24 k0).as (mKT_change K T P k0 HT.out)⟩
          case measure => simp [intOf]; omega
        | false =>
          go_upto_region 31 with (first
            | (go_at_call 25; refine (HOf.out _).mono ?_; rintro e w2 ⟨rfl, hb2⟩; have A2 := Lib.hid (HA0.out.to hb2); have HCh := Lib.hid (change_no A2.out.heap (P : Int) k0 6 (by decide) (finds_none P hP24 (by simp [mKT, HT.out]))))
            | (go_at_call 16; refine HCh.out.mono ?_; rintro e w3 ⟨rfl, hb3⟩; have A3 := Lib.hid (A2.out.to hb3))
            | fail)
          have hba : Below w3.heap.size w3 (w3.alloc (.cells #[.int .i64 0, .int .i64 0, .int .i64 0] 27)) := (Below.refl _ w3).alloc (Nat.le_refl _) _
          have A3b := Lib.hid (A3.out.to hba)
          generalize w3.alloc (.cells #[.int .i64 0, .int .i64 0, .int .i64 0] 27) = W4 at *
          clear hba p0 p1 p2 p3 tP tf
          go_quiet (fail)
          have hbd : Below W4.heap.size W4 (W4.drewN nq) := ⟨rfl, rfl, rfl, Nat.le_refl _, fun _ _ => rfl⟩
          have A5 := Lib.hid (A3b.out.to hbd)
          go_wp2_with fail
          go_roundw
          case rel => exact ⟨k + 1, K, T, F, hlt, by go_num, A5.out⟩
          case measure => simp [intOf]; omega
      · obtain ⟨tv, hT⟩ : ∃ tv, T P = tv := ⟨_, rfl⟩
        rw [hT] at tP
        have HT := Lib.hid hT
        clear hT
        cases tv with
        | true =>
          have A2 := Lib.hid HA0.out
          have X2 := Lib.hid HX0.out
          have HCh := Lib.hid (remove_yes A2.out.heap P (K P) (by simp [mKT, HT.out]))
          go_upto_region 39 with (first
            | (go_at_call 15; refine HCh.out.mono ?_; rintro e w3 ⟨rfl, hs3⟩; obtain ⟨F3, hA3⟩ := A2.out.step hs3; have A3 := Lib.hid hA3; have X3 := Lib.hid (show XBox w3 bx xa xb xc xd by obtain ⟨_, _, ho, _⟩ := hs3.ex; exact (ho.block _ (Array.getElem?_eq_some_iff.1 X2.out).1 HNf.out).trans X2.out); clear hs3 hA3)
            | fail)
          have hba : Below w3.heap.size w3 (w3.alloc (.cells #[.int .i64 (K P).1, .int .i64 (K P).2.1, .int .i64 (K P).2.2] 27)) := (Below.refl _ w3).alloc (Nat.le_refl _) _
          have A3b := Lib.hid (A3.out.to hba)
          have X3b := Lib.hid (X3.out.to hba)
          have hk3 : KBox (w3.alloc (.cells #[.int .i64 (K P).1, .int .i64 (K P).2.1, .int .i64 (K P).2.2] 27)) w3.heap.size (K P) := World.alloc_heap_new w3 _
          generalize w3.alloc (.cells #[.int .i64 (K P).1, .int .i64 (K P).2.1, .int .i64 (K P).2.2] 27) = W4 at *
          generalize w3.heap.size = b14 at *
          obtain ⟨z0, z1, z2, -⟩ := hk3.cells
          obtain ⟨g0, g1, g2, gf⟩ := A3b.out.keys.cells P hP24
          clear hba hk3 p0 p1 p2 p3 tP tf
          have hne := neqK (K P).1 (K P).2.1 (K P).2.2 (K P).1 (K P).2.1 (K P).2.2
          rw [decide_eq_true rfl] at hne
          go_quiet (fail)
          have hbd : Below W4.heap.size W4 (W4.drewN nq) := ⟨rfl, rfl, rfl, Nat.le_refl _, fun _ _ => rfl⟩
          have A5 := Lib.hid (A3b.out.to hbd)
          generalize W4.drewN nq = W5 at *
          clear hbd g0 g1 g2 gf z0 z1 z2 hne
          obtain ⟨tP2, tf2⟩ := A5.out.there.cells P hP24
          go_wp2_with fail
          go_roundw
          case rel => exact ⟨k + 1, K, _, F3, hlt, by go_num, (A5.out.setT P hP24 false).as (mKT_drop K T P)⟩
          case measure => simp [intOf]; omega
        | false =>
          have A2 := Lib.hid HA0.out
          have HCh := Lib.hid (remove_no A2.out.heap (P : Int) 6 (by decide) (finds_none P hP24 (by simp [mKT, HT.out])))
          go_upto_region 39 with (first
            | (go_at_call 15; refine HCh.out.mono ?_; rintro e w3 ⟨rfl, hb3⟩; have A3 := Lib.hid (A2.out.to hb3))
            | fail)
          have hba : Below w3.heap.size w3 (w3.alloc (.cells #[.int .i64 0, .int .i64 0, .int .i64 0] 27)) := (Below.refl _ w3).alloc (Nat.le_refl _) _
          have A3b := Lib.hid (A3.out.to hba)
          generalize w3.alloc (.cells #[.int .i64 0, .int .i64 0, .int .i64 0] 27) = W4 at *
          clear hba p0 p1 p2 p3 tP tf
          go_quiet (fail)
          have hbd : Below W4.heap.size W4 (W4.drewN nq) := ⟨rfl, rfl, rfl, Nat.le_refl _, fun _ _ => rfl⟩
          have A5 := Lib.hid (A3b.out.to hbd)
          generalize W4.drewN nq = W5 at *
          obtain ⟨tP2, tf2⟩ := A5.out.there.cells P hP24
          go_wp2_with fail
          go_roundw
          case rel => exact ⟨k + 1, K, _, F, hlt, by go_num, (A5.out.setT P hP24 false).as (mKT_same K T P HT.out)⟩
          case measure => simp [intOf]; omega
      · clear tP
        by_cases hl : (ordM 24 (mKT K T)).length = 0
        · have HTk := Lib.hid (take_no HA0.out.heap hl)
          have HLn := Lib.hid (show ∀ W, HA W q F 24 (mKT K T) → Calls Try.prog 13 #[.pointer (some ⟨q, 0, none⟩)] W fun e w' => e = .returned (.int .i64 0) ∧ W = w' from fun W h => by have := len_calls h; rw [hl] at this; exact this)
          clear hl
          go_wp2_with (first
            | (go_at_call 14; refine HTk.out.mono ?_; rintro e w3 ⟨rfl, hb3⟩; have A3 := Lib.hid ((HA0.out.to hb3).to ((Below.refl _ w3).alloc (Nat.le_refl _) (.cells #[.int .i64 0, .int .i64 0, .int .i64 0] 27))))
            | (go_at_call 13; refine (HLn.out _ A3.out.heap).mono ?_; rintro e w4 ⟨rfl, rfl⟩)
            | fail)
          go_roundw
          case rel => exact ⟨k + 1, K, T, F, hlt, by go_num, A3.out⟩
          case measure => simp [intOf]; omega
        · obtain ⟨k1, r1, he⟩ : ∃ k1 r1, en (ordM 24 (mKT K T)) 0 = (k1, r1) := ⟨_, _, rfl⟩
          have HTk := Lib.hid (take_yes HA0.out.heap k1 r1 (by omega) he)
          obtain ⟨hr24, hKT⟩ : r1 < 24 ∧ (T r1 = true ∧ K r1 = k1) := by
            have hm := en_mem (show 0 < (ordM 24 (mKT K T)).length by omega)
            rw [he, ordM_mem] at hm
            refine ⟨hm.1, ?_⟩
            have := hm.2
            unfold mKT at this
            split at this
            · rename_i c; exact ⟨c, by simpa using this⟩
            · cases this
          have HKT := Lib.hid hKT
          have hr1 : (r1 : Int) < 24 := by omega
          have hr0 : ¬ (r1 : Int) < 0 := by omega
          have hr2 : ¬ (r1 : Int) ≥ 24 := by omega
          clear hl he hKT
          have A2 := Lib.hid HA0.out
          go_upto_region 16 with (first
            | (go_at_call 14; refine HTk.out.mono ?_; rintro e w3 ⟨rfl, hs3⟩; obtain ⟨F3, hA3⟩ := A2.out.step hs3; have A3 := Lib.hid hA3; clear hs3 hA3)
            | fail)
          have hba : Below w3.heap.size w3 (w3.alloc (.cells #[.int .i64 k1.1, .int .i64 k1.2.1, .int .i64 k1.2.2] 27)) := (Below.refl _ w3).alloc (Nat.le_refl _) _
          have A3b := Lib.hid (A3.out.to hba)
          have hk3 : KBox (w3.alloc (.cells #[.int .i64 k1.1, .int .i64 k1.2.1, .int .i64 k1.2.2] 27)) w3.heap.size k1 := World.alloc_heap_new w3 _
          generalize w3.alloc (.cells #[.int .i64 k1.1, .int .i64 k1.2.1, .int .i64 k1.2.2] 27) = W4 at *
          generalize w3.heap.size = b19 at *
          obtain ⟨z0, z1, z2, -⟩ := hk3.cells
          obtain ⟨g0, g1, g2, gf⟩ := A3b.out.keys.cells r1 hr24
          rw [HKT.out.2] at g0 g1 g2
          obtain ⟨tr, tfr⟩ := A3b.out.there.cells r1 hr24
          rw [HKT.out.1] at tr
          clear hba hk3 p0 p1 p2 p3 tf
          have hne := neqK k1.1 k1.2.1 k1.2.2 k1.1 k1.2.1 k1.2.2
          rw [decide_eq_true rfl] at hne
          go_quiet (fail)
          have hbd : Below W4.heap.size W4 (W4.drewN nq) := ⟨rfl, rfl, rfl, Nat.le_refl _, fun _ _ => rfl⟩
          have A5 := Lib.hid (A3b.out.to hbd)
          generalize W4.drewN nq = W5 at *
          clear hbd g0 g1 g2 gf z0 z1 z2 hne tr tfr
          obtain ⟨tP2, tf2⟩ := A5.out.there.cells r1 hr24
          go_wp2_with fail
          go_roundw
          case rel => exact ⟨k + 1, K, _, F3, hlt, by go_num, (A5.out.setT r1 hr24 false).as (mKT_drop K T r1)⟩
          case measure => simp [intOf]; omega
    · obtain rfl : k = n0 := by omega
      go_upto_region 43 with fail
      have HE := Lib.hid (HA.out.ends (by omega) ⟨Nat.le_refl _, by omega⟩)
      have HR := Lib.hid (And.intro HA.out.rest HA.out.off)
      clear HA hA HV
      refine (wpIn_wide (n := 5)).1 ?_
      refine wpIn_region_invA (by kernel_rfl) (by kernel_rfl) (fun B a wc => a = { tmps := #[Value.slice va m vc, undef, bif B 3 then .pointer (some ⟨q, 0, none⟩) else u2, Value.pointer (some { block := w.heap.size, off := 0 }), Value.pointer (some { block := w.heap.size + 1, off := 0 }), bif B 6 then .bool true else u5, Value.pointer (some { block := q, off := 0 }), Value.int IntKind.i64 0, Value.pointer (some { block := b8, off := 0 }), Value.pointer (some { block := b8 + 1, off := 0 }), undef, u11, u12, u13, u14, u15, u16, u17, u18, u19, u20, Value.tuple #[Value.pointer (some { block := q, off := 0 }), Value.int IntKind.i64 0], Value.tuple #[Value.pointer (some { block := q, off := 0 }), Value.int IntKind.i64 0], Value.pointer (some { block := q, off := 0 }), Value.int IntKind.i64 0, Value.int IntKind.i64 0, Value.bool false, Value.bool false, Value.pointer (some { block := q, off := 0 }), Value.bool false, Value.bool false, undef, undef, Value.slice va m vc, Value.slice va m vc, Value.int IntKind.i64 (m : Int), Value.int IntKind.i64 (k : Int), Value.slice va k vc, Value.int IntKind.i64 (k : Int), Value.int IntKind.i64 (k : Int), Value.bool false, u41, u42, u43, u44, u45, u46, u47, u48, u49, u50, u51, u52, u53, u54, u55, u56, u57, u58, u59, u60, u61, u62, u63, u64, u65, u66, u67, u68, u69, u70, u71, u72, u73, u74, u75, u76, u77, u78, u79, u80, u81, u82, u83, u84, u85, u86, u87, u88, u89, u90, u91, u92, u93, u94, u95, u96, u97, u98, u99, u100, u101, u102, u103, u104, u105, u106, u107, u108, u109, u110, u111, u112, u113, u114, u115, u116, u117, u118, u119, u120, u121, u122, u123, u124, u125, u126, u127, u128, u129, u130, u131, u132, u133, u134, u135, u136, u137, u138, u139, u140, u141, u142, u143, u144, u145, u146, u147, u148, u149, u150, u151, u152, u153, u154, u155, u156, u157, u158, u159, u160, u161, u162, u163, u164, u165, u166, u167, u168, u169, u170, u171, u172, u173, u174, u175, u176, u177, bif B 0 then .pointer (some ⟨q, 0, none⟩) else undef, bif B 1 then .agg (kcs K) else undef, bif B 2 then .agg (tcs T) else undef], defers := [] } ∧ MdEnd w wc q w.heap.size (w.heap.size + 1) b8 (b8 + 1) K T (mKT K T) F (bif B 4 then K else fun _ => (0, 0, 0)) (bif B 5 then T else fun _ => false)) ?init ?step ?fin
      case init => exact ⟨rfl, HE.out.drew⟩
      case step =>
        intro B j a wc hj hbj hcl hw hI K0 hK
        obtain ⟨rfl, hE⟩ := hI
        have hj : j < 7 := hj
        clear hcl
        obtain rfl | rfl | rfl | rfl | rfl | rfl | rfl : j = 0 ∨ j = 1 ∨ j = 2 ∨ j = 3 ∨ j = 4 ∨ j = 5 ∨ j = 6 := by omega
        all_goals (simp [waits, Region.binds] at hw)
        · simp only [hbj, cond_false]
          refine wpOpIn_step rfl ?_
          intro K' hK'
          go_simp
          exact hK' _ _ (hK _ _ ⟨by simp [upd], by simpa [upd] using hE⟩)
        · simp only [hbj, cond_false]
          refine wpOpIn_load_row rfl rfl 53 (.tmp 8) rfl b8 (by rfl) _ (kcs K) _ 24 27 hE.keys Try.underlying53 (by rw [kcs_size]; exact info_karr) ?_
          exact hK _ _ ⟨by simp [upd, Act.put], by simpa [upd] using hE⟩
        · simp only [hbj, cond_false]
          refine wpOpIn_load_row rfl rfl 54 (.tmp 9) rfl (b8 + 1) (by rfl) _ (tcs T) _ 24 4 hE.there Try.underlying54 (by rw [tcs_size]; exact info_tarr) ?_
          exact hK _ _ ⟨by simp [upd, Act.put], by simpa [upd] using hE⟩
        · simp only [hbj, hw, cond_true, cond_false]
          refine wpOpIn_step rfl ?_
          intro K' hK'
          go_simp
          exact hK' _ _ (hK _ _ ⟨by simp [upd, hw], by simpa [upd] using hE⟩)
        · simp only [hw, cond_true]
          refine wpOpIn_store_row rfl rfl 53 (.tmp 3) (.tmp 179) rfl w.heap.size (kcs K) (by rfl) (by rfl) _ _ hE.out3 (by rw [kcs_size]; exact info_karr) (by rw [kcs_size, kcs_size]) (kcs_one K) ?_
          exact hK _ _ ⟨by simp [upd, Act.put, hw], by simpa [upd] using hE.set3 K⟩
        · simp only [hw, cond_true]
          refine wpOpIn_store_row rfl rfl 54 (.tmp 4) (.tmp 180) rfl (w.heap.size + 1) (tcs T) (by rfl) (by rfl) _ _ hE.out4 (by rw [tcs_size]; exact info_tarr) (by rw [tcs_size, tcs_size]) (tcs_one T) ?_
          exact hK _ _ ⟨by simp [upd, Act.put, hw], by simpa [upd] using hE.set4 T⟩
        · simp only [hbj, hw, cond_true, cond_false]
          refine wpOpIn_step rfl ?_
          intro K' hK'
          go_simp
          exact hK' _ _ (hK _ _ ⟨by simp [upd, hw], by simpa [upd] using hE⟩)
      case fin =>
        intro B a wc hall hI
        obtain ⟨rfl, hE⟩ := hI
        simp only [hall 0 (by decide), hall 1 (by decide), hall 2 (by decide), hall 3 (by decide), hall 4 (by decide), hall 5 (by decide), hall 6 (by decide), cond_true] at hE ⊢
        clear hall
        have HE2 := Lib.hid hE
        have hL3 := run_loadVar_row (P := Try.prog) wc w.heap.size 53 53 (kcs K) (0, 0) (.array 24 27) hE.out3 Try.underlying53 rfl (by rw [kcs_size]; exact info_karr)
        have hL4 := run_loadVar_row (P := Try.prog) wc (w.heap.size + 1) 54 54 (tcs T) (0, 0) (.array 24 4) hE.out4 Try.underlying54 rfl (by rw [tcs_size]; exact info_tarr)
        clear hE
        go_wp2
        refine bodyPost_ret (v := .tuple #[.pointer (some ⟨q, 0, none⟩), .agg (kcs K), .agg (tcs T), .bool true]) (by simp [results, Try.results23, asAddr, hL3, hL4]) rfl ⟨q, K, T, F, rfl, HE2.out.heap, fun j hj => (HR.out.2 j hj).1, HR.out.1, HE2.out.below⟩
end Go.Proofs.Ytjnocijfjkbaiaa
