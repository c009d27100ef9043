/-
  THE WALK of KeyWrong: keys that are not right, bytes and strings of none.
-/
import Derived.Test.YtapaccbffhcjdaaDoorKeyWrongP
import Derived.Test.YtapaccbffhcjdaaDoorKeyAppIn
import Derived.Test.YtapaccbffhcjdaaDoorWKeyTells
import Derived.Test.YtapaccbffhcjdaaDoorWKeyReads
import Derived.Deep.Cut
import Derived.Deep.CutBlock
import Derived.Deep.DeepCutAuto
namespace Go.Proofs.YtapaccbffhcjdaaDoor
open Go.RowKit Go.Shelf Go.Sort
open Go.Lib (decDigits)

theorem kat_set0 {W : World} {K : Nat} {k : Ky} (h : KAt W K k) (v : Int) : KAt (W.setCell ⟨K, 0, none⟩ (.int .i64 v)) K (v, k.2.1, k.2.2) := by
  unfold KAt at *; rw [setRow h 0 _]; rfl
theorem kat_set1 {W : World} {K : Nat} {k : Ky} (h : KAt W K k) (v : Int) : KAt (W.setCell ⟨K, 1, none⟩ (.int .i64 v)) K (k.1, v, k.2.2) := by
  unfold KAt at *; rw [setRow h 1 _]; rfl
theorem kat_set2 {W : World} {K : Nat} {k : Ky} (h : KAt W K k) (v : Int) : KAt (W.setCell ⟨K, 2, none⟩ (.int .i64 v)) K (k.1, k.2.1, v) := by
  unfold KAt at *; rw [setRow h 2 _]; rfl
theorem kat_other {W : World} {K K' : Nat} {k : Ky} (h : KAt W K k) (i : Nat) (v : Value) (hne : K ≠ K') : KAt (W.setCell ⟨K', i, none⟩ v) K k :=
  (Below.heap_setCell _ _ _ _ (by simpa using hne)).trans h
theorem wpOpIn_appendB {F : Fence} {n : Nat} {ops : Array Oper} {Q : Exit → Act → World → Prop} {i : Nat} {o : Oper} {K : Act → World → Prop} {a : Act} {w w' : World} {v xv v' : Value} (ho : ops[i]? = some o) (hgd : o.guard = none) (s x : Operand)
    (hop : o.op = .call { callee := .builtin .append, args := #[s, x], argTypes := #[26, 26] })
    (hs : a.eval s = v) (hx : a.eval x = xv) (hr : (Builtin.append_ #[26, 26] o.type #[v, xv]).run Tryd.prog w = .ok v' w') (h : K (a.put o.dst v') w') : wpOpIn F n Tryd.prog ops Q i K a w := by
  refine wpOpIn_step ho ?_
  intro K' hK'
  rw [if_pos (by simp [Region.wanted, hgd])]
  refine ⟨fun f hf => ?_, ?_⟩
  · simp [Oper.about, hop, resolve, Target.leads] at hf
  · rw [Oper.semAt_eq _ _ _ (by rw [hop]; intro c h; cases h)]
    unfold execOp
    simp only [hop, resolve, invoke, builtin, Sem.run_bind, Sem.run_pure, Result.andThen_ok, List.map_toArray, List.map_cons, List.map_nil, hs, hx, hr]
    exact hK' _ _ h
theorem own_geB {w : World} {base : Nat} {v : Value} {l : List UInt8} (h : OwnB w base v l) : ∀ q, v.ownBlock = some q → base ≤ q := by
  obtain ⟨-, ⟨rfl, -⟩ | ⟨g, cap, cur, rfl, h⟩⟩ := h
  · intro q hq; cases hq
  · intro q hq; cases hq; exact h.1
theorem replace_calls (tx_ : List UInt8) (old : UInt8) (new : List UInt8) (w W : World) (hl : tx_.length ≤ 100) (hn : new.length ≤ 2) (hsh : ∃ m, w.cell? ⟨0, 0, none⟩ = some (.int .i64 m)) (hb : Below w.heap.size w W) :
    Calls Tryd.prog 38 #[.string ⟨tx_.toArray⟩, .string ⟨#[old]⟩, .string ⟨new.toArray⟩, .int .i64 1] W fun e w' => e = .returned (.string ⟨(Lib.replace tx_ [old] new 1).toArray⟩) ∧ Below W.heap.size W w' := by
  obtain ⟨m, hm⟩ := hsh
  have hm' : W.cell? ⟨0, 0, none⟩ = some (.int .i64 m) := (cell_blk (hb.block 0 (World.block_lt_of_cell? _ _ hm)) 0).trans hm
  have hc : Lib.countB ⟨tx_.toArray⟩ ⟨#[old]⟩ ≤ tx_.length := by
    show Lib.count tx_ [old] ≤ _
    rw [Lib.count_one]; exact List.count_le_length
  have hnb : (⟨new.toArray⟩ : ByteArray).size ≤ 2 := by show new.toArray.size ≤ 2; simpa using hn
  have hsb : (⟨tx_.toArray⟩ : ByteArray).size ≤ 100 := by show tx_.toArray.size ≤ 100; simpa using hl
  have hmul : Lib.countB ⟨tx_.toArray⟩ ⟨#[old]⟩ * (⟨new.toArray⟩ : ByteArray).size ≤ 100 * 2 := Nat.mul_le_mul (Nat.le_trans hc hl) hnb
  have := Tryd.strings_Replace ⟨tx_.toArray⟩ ⟨#[old]⟩ ⟨new.toArray⟩ 1 m W (by omega) hm' (by show 1 ≤ (#[old] : Array UInt8).size; simp) (by omega)
  exact this
def cutN9 (k : Ky) : Nat := (decDigits k.1.toNat ++ 64 :: decDigits k.2.1.toNat).length
set_option maxRecDepth 100000 in
theorem indexB_calls (k : Ky) (tx_ : List UInt8) (h : textK k = tx_) (W : World) :
    Calls Tryd.prog 39 #[.string ⟨(tx_ ++ [35]).toArray⟩, .int .u8 35] W fun e w' => e = .returned (.int .i64 ((cutN9 k : Nat) : Int)) ∧ Below W.heap.size W w' := by
  have e2 : Lib.indexByte (⟨(textK k ++ [35]).toArray⟩ : ByteArray).data.toList ((35 : Int).toNat.toUInt8) = ((cutN9 k : Nat) : Int) := by
    rw [show ((35 : Int).toNat.toUInt8) = 35 from by decide]
    simp only
    exact index9 k
  rw [← h]
  have c := Tryd.strings_IndexByte ⟨(textK k ++ [35]).toArray⟩ 35 W
  rw [e2] at c
  exact c.mono fun e w' q => ⟨q.1, by rw [q.2]; exact Below.refl _ _⟩
theorem parse_wrong (l : List UInt8) (h : ¬ textOk l) (hl : l.length ≤ 1000) (W : World) :
    Calls Tryd.prog 20 #[.string ⟨l.toArray⟩] W fun e w' => e = .returned (.tuple #[.agg #[.int .i64 0, .int .i64 0, .int .i64 0], .int .i64 72]) ∧ Below W.heap.size W w' :=
  (parseK_calls l W (by omega)).mono fun e w' ⟨h1, hb⟩ => ⟨h1.elim (fun q => absurd q.1 h) (·.2), hb⟩
/-- A block holds nine strings that are no text of a key. -/
def PAll (W : World) (b : Nat) : Prop := ∃ bs : List ByteArray, bs.length = 9 ∧ (∀ s ∈ bs, ∃ l : List UInt8, s = ⟨l.toArray⟩ ∧ ¬ textOk l ∧ l.length ≤ 1000) ∧ W.heap[b]? = some (.cells (bs.map Value.string).toArray 9 (0, 0))
theorem PAll.below {W W' : World} {b : Nat} (h : PAll W b) (hb : Below W.heap.size W W') : PAll W' b := by
  obtain ⟨bs, h1, h2, h3⟩ := h
  exact ⟨bs, h1, h2, (hb.block _ (Array.getElem?_eq_some_iff.1 h3).1).trans h3⟩
theorem PAll.cell {W : World} {b : Nat} (h : PAll W b) (k : Nat) (hk : k < 9) : ∃ l : List UInt8, (¬ textOk l ∧ l.length ≤ 1000) ∧ W.cell? ⟨b, k, none⟩ = some (.string ⟨l.toArray⟩) := by
  obtain ⟨bs, h1, h2, h3⟩ := h
  have hkb : k < bs.length := by omega
  obtain ⟨l, e, hl⟩ := h2 bs[k] (List.getElem_mem hkb)
  refine ⟨l, hl, ?_⟩
  rw [← e]
  simp [World.cell?, h3, hkb]
/-- A block holds two numbers. -/
def IAt (W : World) (b : Nat) (u v : Int) : Prop := W.heap[b]? = some (.cells #[.int .i64 u, .int .i64 v] 3 (0, 0))
theorem IAt.lt {W : World} {b : Nat} {u v : Int} (h : IAt W b u v) : b < W.heap.size := (Array.getElem?_eq_some_iff.1 h).1
theorem IAt.below {W W' : World} {b : Nat} {u v : Int} (h : IAt W b u v) (hb : Below W.heap.size W W') : IAt W' b u v := (hb.block _ h.lt).trans h
theorem IAt.cell {W : World} {b : Nat} {u v : Int} (h : IAt W b u v) (P : Int → Prop) (hu : P u) (hv : P v) (k : Nat) (hk : k < 2) : ∃ t, P t ∧ W.cell? ⟨b, k, none⟩ = some (.int .i64 t) := by
  unfold IAt at h
  obtain rfl | rfl : k = 0 ∨ k = 1 := by omega
  · exact ⟨u, hu, by simp [World.cell?, h]⟩
  · exact ⟨v, hv, by simp [World.cell?, h]⟩

set_option maxRecDepth 100000 in
set_option maxHeartbeats 4000000 in
theorem keyWrong_calls (x : Ky) (d nn cu : Int) (w : World) (hx : SmallK x) (hd0 : 0 ≤ d) (hd1 : d < 256) (hn0 : -9223372036854775808 ≤ nn) (hn1 : nn ≤ 9223372036854775807) (hc0 : 0 ≤ cu) (hc1 : cu < 256) (ht : Tab w) (hsh : ∃ m, w.cell? ⟨0, 0, none⟩ = some (.int .i64 m)) :
    Calls Tryd.prog 11 #[.agg #[.int .u64 x.1, .int .u32 x.2.1, .int .u32 x.2.2], .int .u8 d, .int .i64 nn, .int .u8 cu] w fun e w' => e = .returned (.bool true) ∧ Below w.heap.size w w' := by
  have mixed : Tryd.prog.follows .mixedOrders = true := by kernel_rfl
  have HM := Lib.hid (fun W => madeK_calls x W hx)
  have HRX := Lib.hid (made_right hx)
  obtain ⟨⟨X1, X2, X3⟩, hXe⟩ : ∃ X, madeK x = X := ⟨_, rfl⟩
  rw [hXe] at HM HRX
  have HB_w := Lib.hid (Below.refl w.heap.size w)
  have HT := Lib.hid ht
  have HSh := Lib.hid hsh
  have HN := Lib.hid (And.intro hn0 hn1)
  have HC := Lib.hid (And.intro hc0 hc1)
  clear hXe hx ht hsh hc0 hc1
  have hb := (Below.refl w.heap.size w).alloc (Nat.le_refl _) (.cells #[.int .u64 x.1, .int .u32 x.2.1, .int .u32 x.2.2] 33)
  have HB_wa := Lib.hid (HB_w.out.trans (hb.mono HB_w.out.size))
  clear HB_w
  have XS_wa := Lib.hid (show SAt (w.alloc (.cells #[.int .u64 x.1, .int .u32 x.2.1, .int .u32 x.2.2] 33)) (w.heap.size) x from World.alloc_heap_new w _)
  clear hb
  go_enter Tryd.func11, Tryd.ntmps11
  go_wp2_with fail
  refine (awakeK_calls _).mono ?_
  rintro e w1 ⟨rfl, hb⟩
  have XS_w1 := Lib.hid (show SAt w1 (w.heap.size) x from XS_wa.out.below hb)
  have HB_w1 := Lib.hid (HB_wa.out.trans (hb.mono HB_wa.out.size))
  clear XS_wa HB_wa
  clear hb
  have s0 := (XS_w1.out.cells).1
  have s1 := (XS_w1.out.cells).2.1
  have s2 := (XS_w1.out.cells).2.2
  go_wp2_with fail
  clear s0 s1 s2
  refine (HM.out _).mono ?_
  rintro e w2 ⟨rfl, hb⟩
  have HB_w2 := Lib.hid (HB_w1.out.trans (hb.mono HB_w1.out.size))
  clear HB_w1
  clear hb
  have HLow := Lib.hid HB_w2.out.size
  have hb := (Below.refl w2.heap.size w2).alloc (Nat.le_refl _) (.cells #[.int .i64 X1, .int .i64 X2, .int .i64 X3] 23)
  have HB_w2a := Lib.hid (HB_w2.out.trans (hb.mono HB_w2.out.size))
  clear HB_w2
  have K9_w2a := Lib.hid (show KAt (w2.alloc (.cells #[.int .i64 X1, .int .i64 X2, .int .i64 X3] 23)) (w2.heap.size) (X1, X2, X3) from World.alloc_heap_new w2 _)
  clear hb
  have y0 := (K9_w2a.out.cells 0 (by omega)).1
  have y1 := (K9_w2a.out.cells 1 (by omega)).1
  have y2 := (K9_w2a.out.cells 2 (by omega)).1
  simp only [fldK] at y0 y1 y2
  have hK2 := World.alloc_heap_new (w2.alloc (.cells #[.int .i64 X1, .int .i64 X2, .int .i64 X3] 23)) (.cells #[.int .i64 X1, .int .i64 X2, .int .i64 X3] 23)
  rw [World.size_alloc] at hK2
  have K10_h := Lib.hid hK2
  clear hK2
  have hb := (Below.refl (w2.alloc (.cells #[.int .i64 X1, .int .i64 X2, .int .i64 X3] 23)).heap.size (w2.alloc (.cells #[.int .i64 X1, .int .i64 X2, .int .i64 X3] 23))).alloc (Nat.le_refl _) (.cells #[.int .i64 X1, .int .i64 X2, .int .i64 X3] 23)
  have K9_w2b := Lib.hid (show KAt ((w2.alloc (.cells #[.int .i64 X1, .int .i64 X2, .int .i64 X3] 23)).alloc (.cells #[.int .i64 X1, .int .i64 X2, .int .i64 X3] 23)) (w2.heap.size) (X1, X2, X3) from K9_w2a.out.below hb)
  have HB_w2b := Lib.hid (HB_w2a.out.trans (hb.mono HB_w2a.out.size))
  clear K9_w2a HB_w2a
  clear hb
  have K10_w2b := Lib.hid (show KAt ((w2.alloc (.cells #[.int .i64 X1, .int .i64 X2, .int .i64 X3] 23)).alloc (.cells #[.int .i64 X1, .int .i64 X2, .int .i64 X3] 23)) (w2.heap.size + 1) (X1, X2, X3) from K10_h.out)
  clear K10_h
  have z0 := (K10_w2b.out.cells 0 (by omega)).1
  have z1 := (K10_w2b.out.cells 1 (by omega)).1
  have z2 := (K10_w2b.out.cells 2 (by omega)).1
  simp only [fldK] at z0 z1 z2
  go_upto_block 0 with fail
  clear y0 y1 y2 z0 z1 z2
  obtain ⟨E, hW⟩ : ∃ W, W = ((w2.alloc (.cells #[.int .i64 X1, .int .i64 X2, .int .i64 X3] 23)).alloc (.cells #[.int .i64 X1, .int .i64 X2, .int .i64 X3] 23)) := ⟨_, rfl⟩
  have K9_E := Lib.hid (show KAt E (w2.heap.size) (X1, X2, X3) from by rw [hW]; exact K9_w2b.out)
  clear K9_w2b
  have K10_E := Lib.hid (show KAt E (w2.heap.size + 1) (X1, X2, X3) from by rw [hW]; exact K10_w2b.out)
  clear K10_w2b
  have HB_E := Lib.hid (show Below w.heap.size w E from by rw [hW]; exact HB_w2b.out)
  clear HB_w2b
  rw [← hW]
  clear hW
  obtain ⟨r, hr⟩ : ∃ r : Int, d % 6 = r := ⟨_, rfl⟩
  have hr0 : 0 ≤ r := by omega
  have hr5 : r ≤ 5 := by omega
  rw [hr]
  clear hr hd0 hd1
  go_cut [8] (fun s wx => s = .bool false ∧ Below w.heap.size w wx ∧ KAt wx w2.heap.size (X1, X2, X3) ∧ ∃ Z1 Z2 Z3, ¬ RightK (Z1, Z2, Z3) ∧ KAt wx (w2.heap.size + 1) (Z1, Z2, Z3))
  case first =>
    have h10 := K10_E.out
    have c0 := (h10.cells 0 (by omega)).1
    have c1 := (h10.cells 1 (by omega)).1
    have c2 := (h10.cells 2 (by omega)).1
    have f0 := (h10.cells 0 (by omega)).2
    have f1 := (h10.cells 1 (by omega)).2
    have f2 := (h10.cells 2 (by omega)).2
    simp only [fldK] at c0 c1 c2
    clear h10
    go_upto_if 39 with fail
    obtain rfl | rfl | rfl | rfl | rfl | rfl : r = 0 ∨ r = 1 ∨ r = 2 ∨ r = 3 ∨ r = 4 ∨ r = 5 := by omega
    · clear hr0 hr5
      go_wp2_with fail
      go_meet
      refine ⟨rfl, (HB_E.out).setCell (p := ⟨w2.heap.size + 1, 0, none⟩) (by have := HLow.out; simp only; omega) _, kat_other K9_E.out 0 _ (by omega), (min nn (-1)), X2, X3, ?_, kat_set0 K10_E.out _⟩
      unfold RightK; simp only; omega
    · clear hr0 hr5
      go_wp2_with fail
      go_meet
      refine ⟨rfl, (HB_E.out).setCell (p := ⟨w2.heap.size + 1, 0, none⟩) (by have := HLow.out; simp only; omega) _, kat_other K9_E.out 0 _ (by omega), (max nn (281474976710657)), X2, X3, ?_, kat_set0 K10_E.out _⟩
      unfold RightK; simp only; omega
    · clear hr0 hr5
      go_wp2_with fail
      go_meet
      refine ⟨rfl, (HB_E.out).setCell (p := ⟨w2.heap.size + 1, 1, none⟩) (by have := HLow.out; simp only; omega) _, kat_other K9_E.out 1 _ (by omega), X1, (min nn (-1)), X3, ?_, kat_set1 K10_E.out _⟩
      unfold RightK; simp only; omega
    · clear hr0 hr5
      go_wp2_with fail
      go_meet
      refine ⟨rfl, (HB_E.out).setCell (p := ⟨w2.heap.size + 1, 1, none⟩) (by have := HLow.out; simp only; omega) _, kat_other K9_E.out 1 _ (by omega), X1, (max nn (17)), X3, ?_, kat_set1 K10_E.out _⟩
      unfold RightK; simp only; omega
    · clear hr0 hr5
      go_wp2_with fail
      go_meet
      refine ⟨rfl, (HB_E.out).setCell (p := ⟨w2.heap.size + 1, 2, none⟩) (by have := HLow.out; simp only; omega) _, kat_other K9_E.out 2 _ (by omega), X1, X2, (min nn (-1)), ?_, kat_set2 K10_E.out _⟩
      unfold RightK; simp only; omega
    · clear hr0 hr5
      go_wp2_with fail
      go_meet
      refine ⟨rfl, (HB_E.out).setCell (p := ⟨w2.heap.size + 1, 2, none⟩) (by have := HLow.out; simp only; omega) _, kat_other K9_E.out 2 _ (by omega), X1, X2, (max nn (4294967296)), ?_, kat_set2 K10_E.out _⟩
      unfold RightK; simp only; omega
  case rest =>
    obtain ⟨rfl, hb, h9, Z1, Z2, Z3, hZ, h10⟩ := hcut
    obtain ⟨e1, rfl⟩ : ∃ x : World, x = wc := ⟨_, rfl⟩
    have HB_e1 := Lib.hid hb
    have K9_e1 := Lib.hid h9
    have K10_e1 := Lib.hid h10
    have HZ := Lib.hid hZ
    have HBz := Lib.hid (fun W => bytesK_no (Z1, Z2, Z3) W hZ)
    have HTz := Lib.hid (fun W => textK_no (Z1, Z2, Z3) W hZ)
    have HNz := Lib.hid (fun W => nextK_calls (Z1, Z2, Z3) W)
    have HKz := Lib.hid (fun W => backK_calls (Z1, Z2, Z3) W)
    have HRz := Lib.hid (fun W => rightK_calls (Z1, Z2, Z3) W)
    rw [show nextK (Z1, Z2, Z3) = ((0, 0, 0), 70) from by unfold nextK; rw [if_neg hZ]] at HNz
    rw [show backK (Z1, Z2, Z3) = ((0, 0, 0), 70) from by unfold backK; rw [if_neg hZ]] at HKz
    rw [decide_eq_false hZ] at HRz
    simp only at HBz HTz HNz HKz HRz
    clear hb h9 h10 hZ HZ hr0 hr5 HB_E K9_E K10_E
    have y0 := (K10_e1.out.cells 0 (by omega)).1
    have y1 := (K10_e1.out.cells 1 (by omega)).1
    have y2 := (K10_e1.out.cells 2 (by omega)).1
    simp only [fldK] at y0 y1 y2
    go_wp2_with fail
    clear y0 y1 y2
    refine (HBz.out _).mono ?_
    rintro e e2 ⟨rfl, hb⟩
    have K9_e2 := Lib.hid (show KAt e2 w2.heap.size (X1, X2, X3) from K9_e1.out.below hb)
    have K10_e2 := Lib.hid (show KAt e2 (w2.heap.size + 1) (Z1, Z2, Z3) from K10_e1.out.below hb)
    have HB_e2 := Lib.hid (HB_e1.out.trans (hb.mono HB_e1.out.size))
    clear K9_e1 K10_e1 HB_e1
    clear hb
    have y0 := (K10_e2.out.cells 0 (by omega)).1
    have y1 := (K10_e2.out.cells 1 (by omega)).1
    have y2 := (K10_e2.out.cells 2 (by omega)).1
    simp only [fldK] at y0 y1 y2
    go_wp2_with fail
    clear y0 y1 y2
    refine (HTz.out _).mono ?_
    rintro e e3 ⟨rfl, hb⟩
    have K9_e3 := Lib.hid (show KAt e3 w2.heap.size (X1, X2, X3) from K9_e2.out.below hb)
    have K10_e3 := Lib.hid (show KAt e3 (w2.heap.size + 1) (Z1, Z2, Z3) from K10_e2.out.below hb)
    have HB_e3 := Lib.hid (HB_e2.out.trans (hb.mono HB_e2.out.size))
    clear K9_e2 K10_e2 HB_e2
    clear hb
    have y0 := (K10_e3.out.cells 0 (by omega)).1
    have y1 := (K10_e3.out.cells 1 (by omega)).1
    have y2 := (K10_e3.out.cells 2 (by omega)).1
    simp only [fldK] at y0 y1 y2
    go_wp2_with fail
    clear y0 y1 y2
    refine (HNz.out _).mono ?_
    rintro e e4 ⟨rfl, hb⟩
    have K9_e4 := Lib.hid (show KAt e4 w2.heap.size (X1, X2, X3) from K9_e3.out.below hb)
    have K10_e4 := Lib.hid (show KAt e4 (w2.heap.size + 1) (Z1, Z2, Z3) from K10_e3.out.below hb)
    have HB_e4 := Lib.hid (HB_e3.out.trans (hb.mono HB_e3.out.size))
    clear K9_e3 K10_e3 HB_e3
    clear hb
    have hb := (Below.refl e4.heap.size e4).alloc (Nat.le_refl _) (.cells #[.int .i64 0, .int .i64 0, .int .i64 0] 23)
    have K9_e4a := Lib.hid (show KAt (e4.alloc (.cells #[.int .i64 0, .int .i64 0, .int .i64 0] 23)) w2.heap.size (X1, X2, X3) from K9_e4.out.below hb)
    have K10_e4a := Lib.hid (show KAt (e4.alloc (.cells #[.int .i64 0, .int .i64 0, .int .i64 0] 23)) (w2.heap.size + 1) (Z1, Z2, Z3) from K10_e4.out.below hb)
    have HB_e4a := Lib.hid (HB_e4.out.trans (hb.mono HB_e4.out.size))
    clear K9_e4 K10_e4 HB_e4
    have K15_e4a := Lib.hid (show KAt (e4.alloc (.cells #[.int .i64 0, .int .i64 0, .int .i64 0] 23)) (e4.heap.size) (0, 0, 0) from World.alloc_heap_new e4 _)
    clear hb
    have y0 := (K10_e4a.out.cells 0 (by omega)).1
    have y1 := (K10_e4a.out.cells 1 (by omega)).1
    have y2 := (K10_e4a.out.cells 2 (by omega)).1
    simp only [fldK] at y0 y1 y2
    go_wp2_with fail
    clear y0 y1 y2
    refine (HKz.out _).mono ?_
    rintro e e5 ⟨rfl, hb⟩
    have K9_e5 := Lib.hid (show KAt e5 w2.heap.size (X1, X2, X3) from K9_e4a.out.below hb)
    have K10_e5 := Lib.hid (show KAt e5 (w2.heap.size + 1) (Z1, Z2, Z3) from K10_e4a.out.below hb)
    have K15_e5 := Lib.hid (show KAt e5 (e4.heap.size) (0, 0, 0) from K15_e4a.out.below hb)
    have HB_e5 := Lib.hid (HB_e4a.out.trans (hb.mono HB_e4a.out.size))
    clear K9_e4a K10_e4a K15_e4a HB_e4a
    clear hb
    have hb := (Below.refl e5.heap.size e5).alloc (Nat.le_refl _) (.cells #[.int .i64 0, .int .i64 0, .int .i64 0] 23)
    have K9_e5a := Lib.hid (show KAt (e5.alloc (.cells #[.int .i64 0, .int .i64 0, .int .i64 0] 23)) w2.heap.size (X1, X2, X3) from K9_e5.out.below hb)
    have K10_e5a := Lib.hid (show KAt (e5.alloc (.cells #[.int .i64 0, .int .i64 0, .int .i64 0] 23)) (w2.heap.size + 1) (Z1, Z2, Z3) from K10_e5.out.below hb)
    have K15_e5a := Lib.hid (show KAt (e5.alloc (.cells #[.int .i64 0, .int .i64 0, .int .i64 0] 23)) (e4.heap.size) (0, 0, 0) from K15_e5.out.below hb)
    have HB_e5a := Lib.hid (HB_e5.out.trans (hb.mono HB_e5.out.size))
    clear K9_e5 K10_e5 K15_e5 HB_e5
    have K17_e5a := Lib.hid (show KAt (e5.alloc (.cells #[.int .i64 0, .int .i64 0, .int .i64 0] 23)) (e5.heap.size) (0, 0, 0) from World.alloc_heap_new e5 _)
    clear hb
    have y0 := (K10_e5a.out.cells 0 (by omega)).1
    have y1 := (K10_e5a.out.cells 1 (by omega)).1
    have y2 := (K10_e5a.out.cells 2 (by omega)).1
    simp only [fldK] at y0 y1 y2
    go_wp2_with fail
    clear y0 y1 y2
    refine (HRz.out _).mono ?_
    rintro e e6 ⟨rfl, hb⟩
    have K9_e6 := Lib.hid (show KAt e6 w2.heap.size (X1, X2, X3) from K9_e5a.out.below hb)
    have K10_e6 := Lib.hid (show KAt e6 (w2.heap.size + 1) (Z1, Z2, Z3) from K10_e5a.out.below hb)
    have K15_e6 := Lib.hid (show KAt e6 (e4.heap.size) (0, 0, 0) from K15_e5a.out.below hb)
    have K17_e6 := Lib.hid (show KAt e6 (e5.heap.size) (0, 0, 0) from K17_e5a.out.below hb)
    have HB_e6 := Lib.hid (HB_e5a.out.trans (hb.mono HB_e5a.out.size))
    clear K9_e5a K10_e5a K15_e5a K17_e5a HB_e5a
    clear hb
    clear HBz HTz HNz HKz HRz
    have y0 := (K15_e6.out.cells 0 (by omega)).1
    have y1 := (K15_e6.out.cells 1 (by omega)).1
    have y2 := (K15_e6.out.cells 2 (by omega)).1
    have z0 := (K17_e6.out.cells 0 (by omega)).1
    have z1 := (K17_e6.out.cells 1 (by omega)).1
    have z2 := (K17_e6.out.cells 2 (by omega)).1
    simp only [fldK] at y0 y1 y2 z0 z1 z2
    have q1 := fun W => neqK 0 0 0 0 0 0 W
    go_upto_region 23 with fail
    clear y0 y1 y2 z0 z1 z2 q1
    have hb := (Below.refl e6.heap.size e6).alloc (Nat.le_refl _) (.cells #[.int .i64 (min nn (-1)), .int .i64 (max nn 281474976710657)] 3)
    have K9_e7 := Lib.hid (show KAt (e6.alloc (.cells #[.int .i64 (min nn (-1)), .int .i64 (max nn 281474976710657)] 3)) w2.heap.size (X1, X2, X3) from K9_e6.out.below hb)
    have HB_e7 := Lib.hid (HB_e6.out.trans (hb.mono HB_e6.out.size))
    clear K9_e6 HB_e6
    have I_e7 := Lib.hid (show IAt (e6.alloc (.cells #[.int .i64 (min nn (-1)), .int .i64 (max nn 281474976710657)] 3)) (e6.heap.size) (min nn (-1)) (max nn 281474976710657) from World.alloc_heap_new e6 _)
    clear hb
    go_wp2_with fail
    obtain ⟨F, hW⟩ : ∃ W, W = (e6.alloc (.cells #[.int .i64 (min nn (-1)), .int .i64 (max nn 281474976710657)] 3)) := ⟨_, rfl⟩
    have K9_F := Lib.hid (show KAt F w2.heap.size (X1, X2, X3) from by rw [hW]; exact K9_e7.out)
    clear K9_e7
    have I_F := Lib.hid (show IAt F (e6.heap.size) (min nn (-1)) (max nn 281474976710657) from by rw [hW]; exact I_e7.out)
    clear I_e7
    have HB_F := Lib.hid (show Below w.heap.size w F from by rw [hW]; exact HB_e7.out)
    clear HB_e7
    rw [← hW]
    clear hW
    go_loopw [126] (fun s wr => ∃ k : Nat, k ≤ 2 ∧ s = .int .i64 (k : Int) ∧ Below F.heap.size F wr) (fun s _ => 2 - (intOf s).toNat)
    case atStart => exact ⟨0, by omega, rfl, Below.refl _ _⟩
    case round =>
      obtain ⟨k, hk, rfl, hb⟩ := hrel
      obtain ⟨ws, rfl⟩ : ∃ x : World, x = wr := ⟨_, rfl⟩
      have HB_r := Lib.hid (HB_F.out.trans (hb.mono HB_F.out.size))
      have I_r := Lib.hid (I_F.out.below hb)
      have K9_r := Lib.hid (K9_F.out.below hb)
      have HBb := Lib.hid hb
      clear hb
      by_cases hlt : k < 2
      · have hkn : (k : Int) < 2 := by omega
        obtain ⟨t, ht, hct⟩ := I_r.out.cell (fun t => ¬ endsOk t) (by unfold endsOk; omega) (by unfold endsOk; omega) k hlt
        have HEn := Lib.hid (fun W => endsK_no t W ht)
        have i0 : (0 : Int) ≤ (k : Int) := by omega
        clear ht hlt
        go_wp2_with fail
        clear hct
        refine (HEn.out _).mono ?_
        rintro e r1 ⟨rfl, hb⟩
        have HB_r1 := Lib.hid (HBb.out.trans (hb.mono HBb.out.size))
        clear HBb
        clear hb
        have hb := (Below.refl r1.heap.size r1).alloc (Nat.le_refl _) (.cells #[.int .i64 0, .int .i64 0, .int .i64 0] 23)
        have HB_r1a := Lib.hid (HB_r1.out.trans (hb.mono HB_r1.out.size))
        clear HB_r1
        have K21_r1a := Lib.hid (show KAt (r1.alloc (.cells #[.int .i64 0, .int .i64 0, .int .i64 0] 23)) (r1.heap.size) (0, 0, 0) from World.alloc_heap_new r1 _)
        clear hb
        have hK2 := World.alloc_heap_new (r1.alloc (.cells #[.int .i64 0, .int .i64 0, .int .i64 0] 23)) (.cells #[.int .i64 0, .int .i64 0, .int .i64 0] 23)
        rw [World.size_alloc] at hK2
        have K22_h := Lib.hid hK2
        clear hK2
        have hb := (Below.refl (r1.alloc (.cells #[.int .i64 0, .int .i64 0, .int .i64 0] 23)).heap.size (r1.alloc (.cells #[.int .i64 0, .int .i64 0, .int .i64 0] 23))).alloc (Nat.le_refl _) (.cells #[.int .i64 0, .int .i64 0, .int .i64 0] 23)
        have K21_r1b := Lib.hid (show KAt ((r1.alloc (.cells #[.int .i64 0, .int .i64 0, .int .i64 0] 23)).alloc (.cells #[.int .i64 0, .int .i64 0, .int .i64 0] 23)) (r1.heap.size) (0, 0, 0) from K21_r1a.out.below hb)
        have HB_r1b := Lib.hid (HB_r1a.out.trans (hb.mono HB_r1a.out.size))
        clear K21_r1a HB_r1a
        clear hb
        have K22_r1b := Lib.hid (show KAt ((r1.alloc (.cells #[.int .i64 0, .int .i64 0, .int .i64 0] 23)).alloc (.cells #[.int .i64 0, .int .i64 0, .int .i64 0] 23)) (r1.heap.size + 1) (0, 0, 0) from K22_h.out)
        clear K22_h
        have y0 := (K21_r1b.out.cells 0 (by omega)).1
        have y1 := (K21_r1b.out.cells 1 (by omega)).1
        have y2 := (K21_r1b.out.cells 2 (by omega)).1
        have z0 := (K22_r1b.out.cells 0 (by omega)).1
        have z1 := (K22_r1b.out.cells 1 (by omega)).1
        have z2 := (K22_r1b.out.cells 2 (by omega)).1
        simp only [fldK] at y0 y1 y2 z0 z1 z2
        have q1 := fun W => neqK 0 0 0 0 0 0 W
        go_wp2_with fail
        go_roundw
        case rel => exact ⟨k + 1, by omega, by go_num, HB_r1b.out⟩
        case measure => simp [intOf]; omega
      · have hkn : ¬ (k : Int) < 2 := by omega
        clear hlt hk HBb I_r HB_F I_F K9_F
        have HBx := Lib.hid (fun W => bytesK_yes (X1, X2, X3) W HRX.out)
        have HTx := Lib.hid (fun W (h : Tab W) => textK_yes (X1, X2, X3) W HRX.out (.inl h))
        obtain ⟨bx, hbx⟩ : ∃ l, bytesK (X1, X2, X3) = l := ⟨_, rfl⟩
        obtain ⟨tx_, htx⟩ : ∃ l, textK (X1, X2, X3) = l := ⟨_, rfl⟩
        have hlx : bx.length = 12 := by rw [← hbx]; exact bytesK_length _
        have hle : tx_.length ≤ 100 := by rw [← htx]; exact text_le HRX.out
        have hne : (tx_ == ([] : List UInt8)) = false := by rw [← htx, text_eq]; simp
        rw [hbx] at HBx
        rw [htx] at HTx
        have HLx := Lib.hid hlx
        have HLe := Lib.hid hle
        have HTe := Lib.hid htx
        have HNe := Lib.hid hne
        obtain ⟨m, hm⟩ : ∃ m : Nat, cu % 12 = (m : Int) := ⟨(cu % 12).toNat, by have := HC.out; omega⟩
        have hm11 : m ≤ 11 := by have := HC.out; omega
        have HMm := Lib.hid (And.intro hm hm11)
        clear hbx htx hlx hle hne hm hm11 hn0 hn1
        have y0 := (K9_r.out.cells 0 (by omega)).1
        have y1 := (K9_r.out.cells 1 (by omega)).1
        have y2 := (K9_r.out.cells 2 (by omega)).1
        simp only [fldK] at y0 y1 y2
        go_wp2_with fail
        clear y0 y1 y2
        refine (HBx.out _).mono ?_
        rintro e h1 ⟨⟨vp, rfl, hvp⟩, hb⟩
        have K9_h1 := Lib.hid (show KAt h1 w2.heap.size (X1, X2, X3) from K9_r.out.below hb)
        have HB_h1 := Lib.hid (HB_r.out.trans (hb.mono HB_r.out.size))
        clear K9_r HB_r
        have VP_h1 := Lib.hid (show BR h1 vp bx from hvp)
        clear hvp
        clear hb
        have y0 := (K9_h1.out.cells 0 (by omega)).1
        have y1 := (K9_h1.out.cells 1 (by omega)).1
        have y2 := (K9_h1.out.cells 2 (by omega)).1
        simp only [fldK] at y0 y1 y2
        go_wp2_with fail
        clear y0 y1 y2
        refine (HTx.out _ (HT.out.below HB_h1.out)).mono ?_
        rintro e h2 ⟨rfl, hb⟩
        have K9_h2 := Lib.hid (show KAt h2 w2.heap.size (X1, X2, X3) from K9_h1.out.below hb)
        have VP_h2 := Lib.hid (show BR h2 vp bx from VP_h1.out.below hb)
        have HB_h2 := Lib.hid (HB_h1.out.trans (hb.mono HB_h1.out.size))
        clear K9_h1 VP_h1 HB_h1
        clear hb
        obtain ⟨b1, o1, c1, rfl, hb12, hbm⟩ := br_some VP_h2.out (by rw [HLx.out]; omega)
        have VPx := Lib.hid VP_h2.out
        rw [HLx.out] at hb12 VPx ⊢
        have hne := HNe.out
        go_upto_region 34 with fail
        clear hne
        have hcc := HC.out
        go_upto_region 35 with fail
        obtain ⟨hm, hm11⟩ := HMm.out
        rw [hm]
        clear hm hcc
        have hm12 : (m : Int) ≤ 12 := by omega
        have hm0 : (0 : Int) ≤ (m : Int) := by omega
        have hc12 : (12 : Int) ≤ (c1 : Int) := by omega
        have hmc : (m : Int) ≤ (c1 : Int) := by omega
        have HR1 := Lib.hid (fun W v (h : BR W v (bx.take m)) => readK_calls v _ W h)
        have hr1 := rd_no (l := bx.take m) (by intro h; have := h.1; rw [List.length_take, HLx.out] at this; omega)
        rw [hr1.1, hr1.2] at HR1
        simp only at HR1
        clear hr1
        go_wp2_with fail
        refine (HR1.out _ _ (br_take VPx.out m (by rw [HLx.out]; omega))).mono ?_
        rintro e h3 ⟨rfl, hb⟩
        have VP_h3 := Lib.hid (show BR h3 (.slice (some ⟨b1, o1, none⟩) 12 c1) bx from VPx.out.below hb)
        have HB_h3 := Lib.hid (HB_h2.out.trans (hb.mono HB_h2.out.size))
        clear VPx HB_h2
        clear hb
        go_upto_region 36 with fail
        have HVP := Lib.hid (fun W (hb : Below h3.heap.size h3 W) => VP_h3.out.below hb)
        have HB_h3 := Lib.hid HB_h3.out
        obtain ⟨y, hy⟩ : ∃ y : UInt8, bx.getD m 0 = y := ⟨_, rfl⟩
        have HCe := Lib.hid (fun W (hb : Below h3.heap.size h3 W) => BR.cell (VP_h3.out.below hb) m (by rw [HLx.out]; omega))
        rw [hy] at HCe
        clear hy
        have HCl := Lib.hid (fun W (h : BR W (.slice (some ⟨b1, o1, none⟩) 12 c1) bx) => cloneB_calls _ bx W h (by rw [HLx.out]; omega))
        have HR2 := Lib.hid (fun W v (h : BR W v (bx ++ [UInt8.ofNat (y.toNat : Int).toNat])) => readK_calls v _ W h)
        have hr2 := rd_no (l := bx ++ [UInt8.ofNat (y.toNat : Int).toNat]) (by intro h; have := h.1; rw [List.length_append, HLx.out] at this; simp at this)
        rw [hr2.1, hr2.2] at HR2
        simp only at HR2
        clear hr2
        have hmlt : (m : Int) < 12 := by omega
        have hmln : m < 12 := by omega
        have y0 : (0 : Int) ≤ (y.toNat : Int) := by omega
        have y1 : (y.toNat : Int) < 256 := by have := y.toNat_lt; omega
        refine (wpIn_wide (n := 5)).1 ?_
        refine wpIn_region_invA (by kernel_rfl) (by kernel_rfl) (fun B a wc => ∃ (vC vA : Value) (p : Nat), a = { tmps := #[Value.agg #[Value.int IntKind.u64 x.fst, Value.int IntKind.u32 x.snd.fst, Value.int IntKind.u32 x.snd.snd], Value.int IntKind.u8 d, Value.int IntKind.i64 nn, Value.int IntKind.u8 cu, Value.pointer (some { block := w.heap.size, off := 0 }), undef, undef, undef, u8, Value.pointer (some { block := w2.heap.size, off := 0 }), Value.pointer (some { block := w2.heap.size + 1, off := 0 }), Value.slice (some { block := b1, off := o1 }) 12 c1, Value.int IntKind.i64 71, Value.string { data := tx_.toArray }, bif B 12 then .int .i64 71 else Value.int IntKind.i64 0, Value.pointer (some { block := e4.heap.size, off := 0 }), Value.int IntKind.i64 70, Value.pointer (some { block := e5.heap.size, off := 0 }), Value.int IntKind.i64 70, undef, u20, u21, u22, u23, Value.int IntKind.i64 (m : Int), undef, undef, undef, undef, u29, u30, u31, u32, u33, u34, Value.int IntKind.u8 r, u36, u37, u38, u39, u40, u41, u42, u43, u44, u45, u46, u47, u48, u49, u50, u51, u52, u53, u54, u55, u56, u57, u58, u59, u60, u61, u62, u63, Value.tuple #[Value.slice none 0 0, Value.int IntKind.i64 70], Value.agg #[Value.int IntKind.i64 Z1, Value.int IntKind.i64 Z2, Value.int IntKind.i64 Z3], Value.tuple #[Value.slice none 0 0, Value.int IntKind.i64 70], Value.slice none 0 0, Value.int IntKind.i64 70, Value.tuple #[Value.string { data := #[] }, Value.int IntKind.i64 70], Value.agg #[Value.int IntKind.i64 Z1, Value.int IntKind.i64 Z2, Value.int IntKind.i64 Z3], Value.tuple #[Value.string { data := #[] }, Value.int IntKind.i64 70], Value.string { data := #[] }, Value.int IntKind.i64 70, Value.tuple #[Value.agg #[Value.int IntKind.i64 0, Value.int IntKind.i64 0, Value.int IntKind.i64 0], Value.int IntKind.i64 70], Value.agg #[Value.int IntKind.i64 Z1, Value.int IntKind.i64 Z2, Value.int IntKind.i64 Z3], Value.tuple #[Value.agg #[Value.int IntKind.i64 0, Value.int IntKind.i64 0, Value.int IntKind.i64 0], Value.int IntKind.i64 70], Value.agg #[Value.int IntKind.i64 0, Value.int IntKind.i64 0, Value.int IntKind.i64 0], Value.int IntKind.i64 70, Value.tuple #[Value.agg #[Value.int IntKind.i64 0, Value.int IntKind.i64 0, Value.int IntKind.i64 0], Value.int IntKind.i64 70], Value.agg #[Value.int IntKind.i64 Z1, Value.int IntKind.i64 Z2, Value.int IntKind.i64 Z3], Value.tuple #[Value.agg #[Value.int IntKind.i64 0, Value.int IntKind.i64 0, Value.int IntKind.i64 0], Value.int IntKind.i64 70], Value.agg #[Value.int IntKind.i64 0, Value.int IntKind.i64 0, Value.int IntKind.i64 0], Value.int IntKind.i64 70, Value.agg #[Value.int IntKind.i64 Z1, Value.int IntKind.i64 Z2, Value.int IntKind.i64 Z3], Value.bool false, Value.bool false, Value.slice none 0 0, Value.int IntKind.i64 0, Value.string { data := #[] }, Value.int IntKind.i64 0, Value.int IntKind.i64 0, Value.bool false, Value.bool false, Value.bool false, Value.agg #[Value.int IntKind.i64 0, Value.int IntKind.i64 0, Value.int IntKind.i64 0], Value.agg #[Value.int IntKind.i64 0, Value.int IntKind.i64 0, Value.int IntKind.i64 0], Value.bool false, Value.bool false, Value.bool false, Value.agg #[Value.int IntKind.i64 0, Value.int IntKind.i64 0, Value.int IntKind.i64 0], Value.agg #[Value.int IntKind.i64 0, Value.int IntKind.i64 0, Value.int IntKind.i64 0], Value.bool false, Value.bool false, Value.bool false, Value.int IntKind.i64 70, Value.bool false, Value.bool false, Value.bool false, Value.int IntKind.i64 70, Value.bool false, Value.bool false, Value.bool false, Value.int IntKind.i64 70, Value.bool false, Value.bool false, Value.bool false, Value.int IntKind.i64 70, Value.bool false, Value.bool false, Value.int IntKind.i64 nn, Value.int IntKind.i64 (min nn (-1)), Value.int IntKind.i64 nn, Value.int IntKind.i64 (max nn 281474976710657), Value.slice (some { block := e6.heap.size, off := 0 }) 2 2, Value.int IntKind.i64 2, Value.int IntKind.i64 (k : Int), Value.bool false, u128, u129, u130, u131, u132, u133, u134, u135, u136, u137, u138, u139, u140, u141, u142, u143, u144, u145, u146, u147, u148, Value.tuple #[Value.slice (some { block := b1, off := o1 }) 12 c1, Value.int IntKind.i64 0], Value.agg #[Value.int IntKind.i64 X1, Value.int IntKind.i64 X2, Value.int IntKind.i64 X3], Value.tuple #[Value.slice (some { block := b1, off := o1 }) 12 c1, Value.int IntKind.i64 0], Value.slice (some { block := b1, off := o1 }) 12 c1, Value.int IntKind.i64 0, Value.tuple #[Value.string { data := tx_.toArray }, Value.int IntKind.i64 0], Value.agg #[Value.int IntKind.i64 X1, Value.int IntKind.i64 X2, Value.int IntKind.i64 X3], Value.tuple #[Value.string { data := tx_.toArray }, Value.int IntKind.i64 0], Value.string { data := tx_.toArray }, Value.int IntKind.i64 0, Value.int IntKind.i64 0, Value.int IntKind.i64 0, Value.int IntKind.i64 0, Value.bool false, Value.bool false, Value.slice (some { block := b1, off := o1 }) 12 c1, Value.int IntKind.i64 12, Value.bool false, Value.bool false, Value.bool false, Value.string { data := tx_.toArray }, Value.bool false, Value.bool false, Value.int IntKind.u8 cu, Value.int IntKind.i64 cu, Value.int IntKind.i64 (m : Int), Value.tuple #[Value.agg #[Value.int IntKind.i64 0, Value.int IntKind.i64 0, Value.int IntKind.i64 0], Value.int IntKind.i64 71], Value.slice (some { block := b1, off := o1 }) 12 c1, Value.int IntKind.i64 (m : Int), Value.slice (some { block := b1, off := o1 }) m c1, Value.tuple #[Value.agg #[Value.int IntKind.i64 0, Value.int IntKind.i64 0, Value.int IntKind.i64 0], Value.int IntKind.i64 71], Value.agg #[Value.int IntKind.i64 0, Value.int IntKind.i64 0, Value.int IntKind.i64 0], Value.int IntKind.i64 71, bif B 9 then .tuple #[.agg #[.int .i64 0, .int .i64 0, .int .i64 0], .int .i64 71] else u182, bif B 0 then .slice (some ⟨b1, o1, none⟩) 12 c1 else u183, bif B 1 then vC else u184, bif B 2 then .slice (some ⟨b1, o1, none⟩) 12 c1 else u185, bif B 3 then .int .i64 (m : Int) else u186, bif B 4 then .pointer (some ⟨b1, o1 + m, none⟩) else u187, bif B 5 then .int .u8 (y.toNat : Int) else u188, bif B 6 then .slice (some ⟨p, 0, none⟩) 1 1 else u189, bif B 7 then vA else u190, bif B 8 then .tuple #[.agg #[.int .i64 0, .int .i64 0, .int .i64 0], .int .i64 71] else u191, bif B 10 then .agg #[.int .i64 0, .int .i64 0, .int .i64 0] else u192, bif B 11 then .int .i64 71 else u193, u194, u195, u196, u197, u198, u199, u200, u201, u202, u203, u204, u205, u206, u207, u208, u209, u210, u211, u212, u213, u214, u215, u216, u217, u218, u219, u220, u221, undef, undef, undef, u225, u226, u227, u228, u229, u230, u231, u232, u233, u234, u235, u236, u237, u238, u239, u240], defers := [] } ∧ Below h3.heap.size h3 wc ∧ (B 1 = true → B 7 = false → OwnB wc h3.heap.size vC bx) ∧ (B 6 = true → B 7 = false → BR wc (.slice (some ⟨p, 0, none⟩) 1 1) [UInt8.ofNat (y.toNat : Int).toNat]) ∧ (B 7 = true → BR wc vA (bx ++ [UInt8.ofNat (y.toNat : Int).toNat]))) ?init ?step ?fin
        case init => exact ⟨undef, undef, 0, rfl, (Below.refl _ _).drew, by simp, by simp, by simp⟩
        case step =>
          intro B j a wc hj hbj hcl hw hI K hK
          obtain ⟨vC, vA, p, rfl, hB, h1, h4, h5⟩ := hI
          have hj : j < 13 := hj
          clear hcl
          have hce := HCe.out wc hB
          obtain rfl | rfl | rfl | rfl | rfl | rfl | rfl | rfl | rfl | rfl | rfl | rfl | rfl : j = 0 ∨ j = 1 ∨ j = 2 ∨ j = 3 ∨ j = 4 ∨ j = 5 ∨ j = 6 ∨ j = 7 ∨ j = 8 ∨ j = 9 ∨ j = 10 ∨ j = 11 ∨ j = 12 := by omega
          all_goals (simp [waits, Region.binds] at hw)
          · simp only [hbj, cond_false]
            refine wpOpIn_step rfl ?_
            intro K' hK'
            go_simp
            exact hK' _ _ (hK _ _ ⟨vC, vA, p, by simp [upd], hB, by simpa [upd] using h1, by simpa [upd] using h4, by simpa [upd] using h5⟩)
          · simp only [hbj, hw, cond_true, cond_false]
            refine wpOpIn_step rfl ?_
            intro K' hK'
            go_simp
            refine ⟨trivial, (callsIn_wide.2 (HCl.out wc (HVP.out wc hB))).mono ?_⟩
            rintro e w' ⟨⟨vD, rfl, ho⟩, hb⟩
            exact hK' _ _ (hK _ _ ⟨vD, vA, p, by simp [upd, hw], hB.trans (hb.mono hB.size), fun _ _ => ho.mono hB.size, fun a b => (h4 (by simpa [upd] using a) (by simpa [upd] using b)).below hb, fun a => (h5 (by simpa [upd] using a)).below hb⟩)
          · simp only [hbj, cond_false]
            refine wpOpIn_step rfl ?_
            intro K' hK'
            go_simp
            exact hK' _ _ (hK _ _ ⟨vC, vA, p, by simp [upd], hB, by simpa [upd] using h1, by simpa [upd] using h4, by simpa [upd] using h5⟩)
          · simp only [hbj, cond_false]
            refine wpOpIn_step rfl ?_
            intro K' hK'
            go_simp
            exact hK' _ _ (hK _ _ ⟨vC, vA, p, by simp [upd], hB, by simpa [upd] using h1, by simpa [upd] using h4, by simpa [upd] using h5⟩)
          · simp only [hbj, hw, cond_true, cond_false]
            refine wpOpIn_step rfl ?_
            intro K' hK'
            go_simp
            exact hK' _ _ (hK _ _ ⟨vC, vA, p, by simp [upd, hw], hB, by simpa [upd] using h1, by simpa [upd] using h4, by simpa [upd] using h5⟩)
          · simp only [hbj, hw, cond_true, cond_false]
            refine wpOpIn_step rfl ?_
            intro K' hK'
            go_simp
            exact hK' _ _ (hK _ _ ⟨vC, vA, p, by simp [upd, hw], hB, by simpa [upd] using h1, by simpa [upd] using h4, by simpa [upd] using h5⟩)
          · have hb := (Below.refl wc.heap.size wc).alloc (Nat.le_refl _) (.cells #[.int .u8 (y.toNat : Int)] 5)
            have hr := br_one wc (y.toNat : Int) y0 y1
            simp only [hbj, hw, cond_true, cond_false]
            refine wpOpIn_step rfl ?_
            intro K' hK'
            go_simp
            exact hK' _ _ (hK _ _ ⟨vC, vA, wc.heap.size, by simp [upd, hw], hB.trans (hb.mono hB.size), fun a b => (h1 (by simpa [upd] using a) (by simpa [upd] using b)).below hb, fun _ _ => hr, fun a => (h5 (by simpa [upd] using a)).below hb⟩)
          · have ho := h1 (by simp [hw]) hbj
            have hr := h4 (by simp [hw]) hbj
            obtain ⟨vD, wD, hrun, ho2, hg⟩ := run_appendB wc 26 h3.heap.size hB.size vC bx ho _ _ hr (by rw [HLx.out]; simp)
            have hBD := hB.grown hg hB.size (own_geB ho)
            have hrow := ho2.row
            simp only [hbj, hw, cond_true, cond_false]
            refine wpOpIn_appendB rfl rfl (.tmp 184) (.tmp 189) rfl rfl rfl hrun ?_
            go_simp
            exact hK _ _ ⟨vC, vD, p, by simp [upd, hw], hBD, fun _ h => by simp [upd] at h, fun _ h => by simp [upd] at h, fun _ => hrow⟩
          · have hr := h5 (by simp [hw])
            simp only [hbj, hw, cond_true, cond_false]
            refine wpOpIn_step rfl ?_
            intro K' hK'
            go_simp
            refine ⟨trivial, (callsIn_wide.2 (HR2.out wc _ hr)).mono ?_⟩
            rintro e w' ⟨rfl, hb⟩
            exact hK' _ _ (hK _ _ ⟨vC, vA, p, by simp [upd, hw], hB.trans (hb.mono hB.size), fun a b => (h1 (by simpa [upd] using a) (by simpa [upd] using b)).below hb, fun a b => (h4 (by simpa [upd] using a) (by simpa [upd] using b)).below hb, fun a => (h5 (by simpa [upd] using a)).below hb⟩)
          · simp only [hbj, hw, cond_true, cond_false]
            refine wpOpIn_step rfl ?_
            intro K' hK'
            go_simp
            exact hK' _ _ (hK _ _ ⟨vC, vA, p, by simp [upd, hw], hB, by simpa [upd] using h1, by simpa [upd] using h4, by simpa [upd] using h5⟩)
          · simp only [hbj, hw, cond_true, cond_false]
            refine wpOpIn_step rfl ?_
            intro K' hK'
            go_simp
            exact hK' _ _ (hK _ _ ⟨vC, vA, p, by simp [upd, hw], hB, by simpa [upd] using h1, by simpa [upd] using h4, by simpa [upd] using h5⟩)
          · simp only [hbj, hw, cond_true, cond_false]
            refine wpOpIn_step rfl ?_
            intro K' hK'
            go_simp
            exact hK' _ _ (hK _ _ ⟨vC, vA, p, by simp [upd, hw], hB, by simpa [upd] using h1, by simpa [upd] using h4, by simpa [upd] using h5⟩)
          · simp only [hbj, hw, cond_true, cond_false]
            refine wpOpIn_step rfl ?_
            intro K' hK'
            go_simp
            exact hK' _ _ (hK _ _ ⟨vC, vA, p, by simp [upd, hw], hB, by simpa [upd] using h1, by simpa [upd] using h4, by simpa [upd] using h5⟩)
        case fin =>
          intro B a h4 hall hI
          obtain ⟨vC, vA, p, rfl, hB, -, -, -⟩ := hI
          simp only [hall 0 (by decide), hall 1 (by decide), hall 2 (by decide), hall 3 (by decide), hall 4 (by decide), hall 5 (by decide), hall 6 (by decide), hall 7 (by decide), hall 8 (by decide), hall 9 (by decide), hall 10 (by decide), hall 11 (by decide), hall 12 (by decide), cond_true]
          have HB_h4 := Lib.hid (HB_h3.out.trans (hB.mono HB_h3.out.size))
          clear hall hB HB_h3 HCl HR2 HVP HCe y0 y1
          have HQ6 := Lib.hid (fun W hb => replace_calls tx_ 64 [35] w W HLe.out (by simp) HSh.out hb)
          have HQ7 := Lib.hid (fun W hb => replace_calls tx_ 35 [64] w W HLe.out (by simp) HSh.out hb)
          have HQ8 := Lib.hid (fun W hb => replace_calls tx_ 35 [35, 48] w W HLe.out (by simp) HSh.out hb)
          have HQ9 := Lib.hid (fun W => indexB_calls (X1, X2, X3) tx_ HTe.out W)
          have hw1 : ¬ textOk ([48] ++ tx_) := by rw [← HTe.out]; exact wrong1 _
          have hw2 : ¬ textOk (tx_ ++ [32]) := by rw [← HTe.out]; exact wrong2 _
          have hw3 : ¬ textOk ([32] ++ tx_) := by rw [← HTe.out]; exact wrong3 _
          have hw4 : ¬ textOk ([45] ++ tx_) := by rw [← HTe.out]; exact wrong4 _
          have hw5 : ¬ textOk (tx_ ++ [35, 48]) := by rw [← HTe.out]; exact wrong5 _
          have hw6 : ¬ textOk (Lib.replace tx_ [64] [35] 1) := by rw [← HTe.out]; exact wrong6 _
          have hw7 : ¬ textOk (Lib.replace tx_ [35] [64] 1) := by rw [← HTe.out]; exact wrong7 _
          have hw8 : ¬ textOk (Lib.replace tx_ [35] [35, 48] 1 ++ [48]) := by rw [← HTe.out]; exact wrong8 _
          have hw9 : ¬ textOk (tx_.take (cutN9 (X1, X2, X3))) := by rw [← HTe.out]; unfold cutN9; rw [take9]; exact wrong9 _
          have hq9 : cutN9 (X1, X2, X3) ≤ tx_.length := by rw [← HTe.out, text_eq2]; unfold cutN9; simp
          have l6 : (Lib.replace tx_ [64] [35] 1).length ≤ 200 := by
            have e := HLe.out
            rw [← HTe.out] at e ⊢
            rw [rep6]; rw [text_eq] at e; simp only [List.length_append, List.length_cons] at e ⊢; omega
          have l7 : (Lib.replace tx_ [35] [64] 1).length ≤ 200 := by
            have e := HLe.out
            rw [← HTe.out] at e ⊢
            rw [rep7]; rw [text_eq] at e; simp only [List.length_append, List.length_cons] at e ⊢; omega
          have l8 : (Lib.replace tx_ [35] [35, 48] 1).length ≤ 200 := by
            have e := HLe.out
            rw [← HTe.out] at e ⊢
            rw [rep8]; rw [text_eq] at e; simp only [List.length_append, List.length_cons] at e ⊢; omega
          obtain ⟨t6, ht6⟩ : ∃ l, Lib.replace tx_ [64] [35] 1 = l := ⟨_, rfl⟩
          obtain ⟨t7, ht7⟩ : ∃ l, Lib.replace tx_ [35] [64] 1 = l := ⟨_, rfl⟩
          obtain ⟨t8, ht8⟩ : ∃ l, Lib.replace tx_ [35] [35, 48] 1 = l := ⟨_, rfl⟩
          obtain ⟨q9, hq⟩ : ∃ q, cutN9 (X1, X2, X3) = q := ⟨_, rfl⟩
          rw [ht6] at HQ6 hw6 l6
          rw [ht7] at HQ7 hw7 l7
          rw [ht8] at HQ8 hw8 l8
          rw [hq] at HQ9 hw9 hq9
          clear ht6 ht7 ht8 hq
          have HW := Lib.hid (And.intro hw1 (And.intro hw2 (And.intro hw3 (And.intro hw4 (And.intro hw5 (And.intro hw6 (And.intro hw7 (And.intro hw8 hw9))))))))
          have HLs := Lib.hid (And.intro l6 (And.intro l7 (And.intro l8 hq9)))
          clear hw1 hw2 hw3 hw4 hw5 hw6 hw7 hw8 hw9
          have l8i : (t8.length : Int) ≤ 200 := by omega
          have hle : (tx_.length : Int) ≤ 100 := by have := HLe.out; omega
          have hq0 : (0 : Int) ≤ (q9 : Int) := by omega
          have hq1 : (q9 : Int) ≤ (tx_.length : Int) := by omega
          clear l6 l7 l8 hq9
          go_upto_region 39 with fail
          go_wp2_with fail
          refine (HQ6.out _ HB_h4.out).mono ?_
          rintro e h5 ⟨rfl, hb⟩
          have HB_h5 := Lib.hid (HB_h4.out.trans (hb.mono HB_h4.out.size))
          clear HB_h4
          clear hb
          go_wp2_with fail
          refine (HQ7.out _ HB_h5.out).mono ?_
          rintro e h6 ⟨rfl, hb⟩
          have HB_h6 := Lib.hid (HB_h5.out.trans (hb.mono HB_h5.out.size))
          clear HB_h5
          clear hb
          go_wp2_with fail
          refine (HQ8.out _ HB_h6.out).mono ?_
          rintro e h7 ⟨rfl, hb⟩
          have HB_h7 := Lib.hid (HB_h6.out.trans (hb.mono HB_h6.out.size))
          clear HB_h6
          clear hb
          go_wp2_with fail
          refine (HQ9.out _).mono ?_
          rintro e h8 ⟨rfl, hb⟩
          have HB_h8 := Lib.hid (HB_h7.out.trans (hb.mono HB_h7.out.size))
          clear HB_h7
          clear hb
          go_wp2_with fail
          clear l8i hle hq0 hq1
          have hall : ∀ s ∈ ([⟨#[48]⟩ ++ ⟨tx_.toArray⟩, ⟨tx_.toArray⟩ ++ ⟨#[32]⟩, ⟨#[32]⟩ ++ ⟨tx_.toArray⟩, ⟨#[45]⟩ ++ ⟨tx_.toArray⟩, ⟨tx_.toArray⟩ ++ ⟨#[35, 48]⟩, ⟨t6.toArray⟩, ⟨t7.toArray⟩, ⟨t8.toArray⟩ ++ ⟨#[48]⟩, (⟨tx_.toArray⟩ : ByteArray).extract 0 q9] : List ByteArray), ∃ l : List UInt8, s = ⟨l.toArray⟩ ∧ ¬ textOk l ∧ l.length ≤ 1000 := by
            intro s hs
            obtain ⟨w1, w2, w3, w4, w5, w6, w7, w8, w9⟩ := HW.out
            obtain ⟨l6, l7, l8, -⟩ := HLs.out
            have hle := HLe.out
            simp only [List.mem_cons, List.not_mem_nil, or_false] at hs
            rcases hs with rfl | rfl | rfl | rfl | rfl | rfl | rfl | rfl | rfl
            · exact ⟨_, ByteArray.mk_append_mk [48] tx_, w1, by simp; omega⟩
            · exact ⟨_, ByteArray.mk_append_mk tx_ [32], w2, by simp; omega⟩
            · exact ⟨_, ByteArray.mk_append_mk [32] tx_, w3, by simp; omega⟩
            · exact ⟨_, ByteArray.mk_append_mk [45] tx_, w4, by simp; omega⟩
            · exact ⟨_, ByteArray.mk_append_mk tx_ [35, 48], w5, by simp; omega⟩
            · exact ⟨_, rfl, w6, by omega⟩
            · exact ⟨_, rfl, w7, by omega⟩
            · exact ⟨_, ByteArray.mk_append_mk t8 [48], w8, by simp; omega⟩
            · exact ⟨_, by rw [ByteArray.extract_mk]; rfl, w9, by rw [List.length_take]; omega⟩
          have hb := (Below.refl h8.heap.size h8).alloc (Nat.le_refl _) (.cells #[.string (⟨#[48]⟩ ++ ⟨tx_.toArray⟩), .string (⟨tx_.toArray⟩ ++ ⟨#[32]⟩), .string (⟨#[32]⟩ ++ ⟨tx_.toArray⟩), .string (⟨#[45]⟩ ++ ⟨tx_.toArray⟩), .string (⟨tx_.toArray⟩ ++ ⟨#[35, 48]⟩), .string ⟨t6.toArray⟩, .string ⟨t7.toArray⟩, .string (⟨t8.toArray⟩ ++ ⟨#[48]⟩), .string ((⟨tx_.toArray⟩ : ByteArray).extract 0 q9)] 9)
          have HB_h9 := Lib.hid (HB_h8.out.trans (hb.mono HB_h8.out.size))
          clear HB_h8
          clear hb
          have P_h9 := Lib.hid (show PAll (h8.alloc (.cells #[.string (⟨#[48]⟩ ++ ⟨tx_.toArray⟩), .string (⟨tx_.toArray⟩ ++ ⟨#[32]⟩), .string (⟨#[32]⟩ ++ ⟨tx_.toArray⟩), .string (⟨#[45]⟩ ++ ⟨tx_.toArray⟩), .string (⟨tx_.toArray⟩ ++ ⟨#[35, 48]⟩), .string ⟨t6.toArray⟩, .string ⟨t7.toArray⟩, .string (⟨t8.toArray⟩ ++ ⟨#[48]⟩), .string ((⟨tx_.toArray⟩ : ByteArray).extract 0 q9)] 9)) h8.heap.size from ⟨_, rfl, hall, World.alloc_heap_new h8 _⟩)
          clear hall HW HLs
          obtain ⟨D, hW⟩ : ∃ W, W = (h8.alloc (.cells #[.string (⟨#[48]⟩ ++ ⟨tx_.toArray⟩), .string (⟨tx_.toArray⟩ ++ ⟨#[32]⟩), .string (⟨#[32]⟩ ++ ⟨tx_.toArray⟩), .string (⟨#[45]⟩ ++ ⟨tx_.toArray⟩), .string (⟨tx_.toArray⟩ ++ ⟨#[35, 48]⟩), .string ⟨t6.toArray⟩, .string ⟨t7.toArray⟩, .string (⟨t8.toArray⟩ ++ ⟨#[48]⟩), .string ((⟨tx_.toArray⟩ : ByteArray).extract 0 q9)] 9)) := ⟨_, rfl⟩
          have P_D := Lib.hid (show PAll D h8.heap.size from by rw [hW]; exact P_h9.out)
          clear P_h9
          have HB_D := Lib.hid (show Below w.heap.size w D from by rw [hW]; exact HB_h9.out)
          clear HB_h9
          rw [← hW]
          clear hW
          go_loopw [224] (fun s wr => ∃ k : Nat, k ≤ 9 ∧ s = .int .i64 (k : Int) ∧ Below D.heap.size D wr) (fun s _ => 9 - (intOf s).toNat)
          case atStart => exact ⟨0, by omega, rfl, Below.refl _ _⟩
          case round =>
            obtain ⟨i, hi, rfl, hb⟩ := hrel
            have HB_q := Lib.hid (HB_D.out.trans (hb.mono HB_D.out.size))
            have P_q := Lib.hid (P_D.out.below hb)
            have HBc := Lib.hid hb
            clear hb
            by_cases hlt : i < 9
            · have hkn : (i : Int) < 9 := by omega
              obtain ⟨l, hl, hct⟩ := P_q.out.cell i hlt
              have HPl := Lib.hid (fun W => parse_wrong l hl.1 hl.2 W)
              have i0 : (0 : Int) ≤ (i : Int) := by omega
              clear hl hlt
              go_wp2_with fail
              clear hct
              refine (HPl.out _).mono ?_
              rintro e s1 ⟨rfl, hb⟩
              have HB_s1 := Lib.hid (HBc.out.trans (hb.mono HBc.out.size))
              clear HBc
              clear hb
              have hb := (Below.refl s1.heap.size s1).alloc (Nat.le_refl _) (.cells #[.int .i64 0, .int .i64 0, .int .i64 0] 23)
              have HB_s1a := Lib.hid (HB_s1.out.trans (hb.mono HB_s1.out.size))
              clear HB_s1
              have K27_s1a := Lib.hid (show KAt (s1.alloc (.cells #[.int .i64 0, .int .i64 0, .int .i64 0] 23)) (s1.heap.size) (0, 0, 0) from World.alloc_heap_new s1 _)
              clear hb
              have y0 := (K27_s1a.out.cells 0 (by omega)).1
              have y1 := (K27_s1a.out.cells 1 (by omega)).1
              have y2 := (K27_s1a.out.cells 2 (by omega)).1
              simp only [fldK] at y0 y1 y2
              have q1 := fun W => neqK 0 0 0 0 0 0 W
              go_wp2_with fail
              go_roundw
              case rel => exact ⟨i + 1, by omega, by go_num, HB_s1a.out⟩
              case measure => simp [intOf]; omega
            · have hkn : ¬ (i : Int) < 9 := by omega
              clear hlt hi HBc P_q HB_D P_D
              go_wp2
              go_ret
              exact ⟨rfl, HB_q.out⟩
end Go.Proofs.YtapaccbffhcjdaaDoor
