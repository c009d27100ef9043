/-
  CONTRACT of key.Read: the key with some bytes; nothing that was there is written.
-/
import Derived.Test.YtapaccbffhcjdaaDoorKeyRight
import Derived.Test.YtapaccbffhcjdaaDoorRegionBools
namespace Go.Proofs.YtapaccbffhcjdaaDoor
open Go.RowKit Go.Shelf

attribute [local go_sem] Oper.semAt_some

/-- THE VALUE v READS AS THE BYTES l. -/
def BR (w : World) (v : Value) (l : List UInt8) : Prop :=
  (l = [] ∧ ∃ a c, v = .slice a 0 c ∧ c ≤ maxLen) ∨ ∃ b o c, v = .slice (some ⟨b, o, none⟩) l.length c ∧ b < w.heap.size ∧ l.length ≤ c ∧ c ≤ maxLen ∧ ∀ j, j < l.length → w.cell? ⟨b, o + j, none⟩ = some (.int .u8 ((l.getD j 0).toNat : Int))
theorem BR.shape {w : World} {v : Value} {l : List UInt8} (h : BR w v l) : ∃ a c, v = .slice a l.length c ∧ l.length ≤ c ∧ c ≤ maxLen := by
  rcases h with ⟨rfl, a, c, rfl, hc⟩ | ⟨b, o, c, rfl, _, h1, h2, _⟩
  · exact ⟨a, c, rfl, Nat.zero_le _, hc⟩
  · exact ⟨_, c, rfl, h1, h2⟩
theorem BR.below {w w' : World} {v : Value} {l : List UInt8} (h : BR w v l) (hb : Below w.heap.size w w') : BR w' v l := by
  rcases h with h | ⟨b, o, c, rfl, h1, h2, h3, h4⟩
  · exact .inl h
  · exact .inr ⟨b, o, c, rfl, Nat.lt_of_lt_of_le h1 hb.size, h2, h3, fun j hj => (cell_blk (hb.block b h1) _).trans (h4 j hj)⟩

def offP : Nat → Nat
  | 0 => 0
  | 1 => 7
  | 2 => 8
  | _ => 12
def sizN : Nat → Nat
  | 0 => 7
  | 1 => 1
  | _ => 4
theorem sizeP_nat : ∀ i : Nat, sizeP i = (sizN i : Int)
  | 0 => rfl
  | 1 => rfl
  | _ + 2 => rfl
theorem offP_step (i : Nat) (h : i < 3) : offP (i + 1) = offP i + sizN i ∧ offP i + sizN i ≤ 12 ∧ sizN i ≤ 7 := by
  obtain rfl | rfl | rfl : i = 0 ∨ i = 1 ∨ i = 2 := by omega
  all_goals simp [offP, sizN]
/-- The fields that are read of the first bytes. -/
def partB (l : List UInt8) (i : Nat) (x : Nat) : Ky :=
  (if 0 < i then (numL (l.take 7) : Int) else if i = 0 then (x : Int) else 0, if 1 < i then (numL ((l.drop 7).take 1) : Int) else if i = 1 then (x : Int) else 0, if i = 2 then (x : Int) else if 2 < i then (numL (l.drop 8) : Int) else 0)

theorem bits_or_i64 (a b : Nat) (ha : a < 9223372036854775808) (hb : b < 9223372036854775808) : bits .or .i64 (a : Int) (b : Int) = ((a ||| b : Nat) : Int) := by
  have hx : a ||| b < 2 ^ 63 := Nat.or_lt_two_pow (by omega) (by omega)
  have h1 : (BitVec.ofInt 64 (a : Int)).toNat = a := by
    rw [BitVec.ofInt_natCast, BitVec.toNat_ofNat]; exact Nat.mod_eq_of_lt (by omega)
  have h2 : (BitVec.ofInt 64 (b : Int)).toNat = b := by
    rw [BitVec.ofInt_natCast, BitVec.toNat_ofNat]; exact Nat.mod_eq_of_lt (by omega)
  show IntKind.i64.wrap ((BitVec.ofInt 64 (a : Int) ||| BitVec.ofInt 64 (b : Int)).toNat : Int) = _
  rw [BitVec.toNat_or, h1, h2, IntKind.wrap_i64]
  omega
set_option maxRecDepth 100000 in
theorem readK_short (v : Value) (l : List UInt8) (w : World) (h : BR w v l) (hl : l.length ≠ 12) :
    Calls Tryd.prog 19 #[v] w fun e w' => e = .returned (.tuple #[.agg #[.int .i64 0, .int .i64 0, .int .i64 0], .int .i64 71]) ∧ Below w.heap.size w w' := by
  obtain ⟨a, c, rfl, -, -⟩ := h.shape
  have hne : ((l.length : Int) != 12) = true := by rw [bne_iff_ne]; omega
  go_enter Tryd.func19, Tryd.ntmps19
  go_wp2
  exact bodyPost_ret (v := .tuple #[.agg #[.int .i64 0, .int .i64 0, .int .i64 0], .int .i64 71]) (by simp [results, Tryd.f19, go_sem]) rfl ⟨rfl, (Below.refl _ _).alloc (Nat.le_refl _) _⟩

theorem setRow {w : World} {b : Nat} {cs : Array Value} {t : TypeId} (h : w.heap[b]? = some (.cells cs t (0, 0))) (i : Nat) (v : Value) :
    (w.setCell ⟨b, i, none⟩ v).heap[b]? = some (.cells (cs.modify i fun _ => v) t (0, 0)) := by
  obtain ⟨hlt, hk⟩ := Array.getElem?_eq_some_iff.1 h
  show (w.heap.modify b _)[b]? = _
  rw [Array.getElem?_eq_getElem (by rw [Array.size_modify]; exact hlt), Array.getElem_modify_self, hk]
  rfl
theorem kat_set {W : World} {K : Nat} {k : Ky} (h : KAt W K k) (x y z : Int) : KAt (((W.setCell ⟨K, 0, none⟩ (.int .i64 x)).setCell ⟨K, 1, none⟩ (.int .i64 y)).setCell ⟨K, 2, none⟩ (.int .i64 z)) K (x, y, z) := by
  unfold KAt at *
  rw [setRow (setRow (setRow h 0 _) 1 _) 2 _]
  rfl
theorem set3_block (W : World) (K : Nat) (x y z : Value) (j : Nat) (h : j ≠ K) : (((W.setCell ⟨K, 0, none⟩ x).setCell ⟨K, 1, none⟩ y).setCell ⟨K, 2, none⟩ z).heap[j]? = W.heap[j]? := by
  rw [Below.heap_setCell _ _ _ _ (by simpa using h), Below.heap_setCell _ _ _ _ (by simpa using h), Below.heap_setCell _ _ _ _ (by simpa using h)]
theorem set3_below {B : Nat} {w W : World} {K : Nat} (h : Below B w W) (hK : B ≤ K) (x y z : Value) : Below B w (((W.setCell ⟨K, 0, none⟩ x).setCell ⟨K, 1, none⟩ y).setCell ⟨K, 2, none⟩ z) :=
  ((h.setCell (p := ⟨K, 0, none⟩) hK x).setCell (p := ⟨K, 1, none⟩) hK y).setCell (p := ⟨K, 2, none⟩) hK z
/-- What Read answers. -/
def rdOk (l : List UInt8) : Bool := decide (l.length = 12) && decide (RightK (keyB l))
def rdV (l : List UInt8) : Ky := if rdOk l then keyB l else (0, 0, 0)
def rdE (l : List UInt8) : Int := if rdOk l then 0 else 71
theorem rd_yes {l : List UInt8} (h : l.length = 12) (k : RightK (keyB l)) : rdV l = keyB l ∧ rdE l = 0 := by
  have : rdOk l = true := by unfold rdOk; rw [decide_eq_true h, decide_eq_true k]; rfl
  unfold rdV rdE; rw [this]; exact ⟨rfl, rfl⟩
theorem rd_no {l : List UInt8} (h : ¬ (l.length = 12 ∧ RightK (keyB l))) : rdV l = (0, 0, 0) ∧ rdE l = 71 := by
  have : rdOk l = false := by
    unfold rdOk
    rw [Bool.and_eq_false_iff, decide_eq_false_iff_not, decide_eq_false_iff_not]
    by_cases e : l.length = 12
    · exact .inr fun k => h ⟨e, k⟩
    · exact .inl e
  unfold rdV rdE; rw [this]; exact ⟨rfl, rfl⟩

/-- What is read of the first i parts, and of k bytes of the next one. -/
def fldB (l : List UInt8) (i x j : Nat) : Nat := if j < i then numL ((l.drop (offP j)).take (sizN j)) else if j = i then x else 0
def keyAt (l : List UInt8) (i x : Nat) : Ky := ((fldB l i x 0 : Int), (fldB l i x 1 : Int), (fldB l i x 2 : Int))
theorem keyAt_fld (l : List UInt8) (i x : Nat) (hi : i < 3) : fldK (keyAt l i x) i = (x : Int) := by
  obtain rfl | rfl | rfl : i = 0 ∨ i = 1 ∨ i = 2 := by omega
  all_goals simp [fldK, keyAt, fldB]
theorem keyAt_set (l : List UInt8) (i x y : Nat) (hi : i < 3) (W : World) (K : Nat) (h : KAt W K (keyAt l i x)) : KAt (W.setCell ⟨K, i, none⟩ (.int .i64 (y : Int))) K (keyAt l i y) := by
  unfold KAt at h ⊢
  obtain ⟨hlt, hk⟩ := Array.getElem?_eq_some_iff.1 h
  show (W.heap.modify K _)[K]? = _
  rw [Array.getElem?_eq_getElem (by rw [Array.size_modify]; exact hlt), Array.getElem_modify_self, hk]
  obtain rfl | rfl | rfl : i = 0 ∨ i = 1 ∨ i = 2 := by omega
  all_goals rfl
theorem keyAt_next (l : List UInt8) (i : Nat) (hi : i < 3) (x : Nat) (hx : x = numL ((l.drop (offP i)).take (sizN i))) : keyAt l i x = keyAt l (i + 1) 0 := by
  subst hx
  obtain rfl | rfl | rfl : i = 0 ∨ i = 1 ∨ i = 2 := by omega
  all_goals simp [keyAt, fldB]
theorem keyAt_done (l : List UInt8) (hl : l.length = 12) : keyAt l 3 0 = keyB l := by
  unfold keyAt keyB fldB
  have : (l.drop 8).take 4 = l.drop 8 := List.take_of_length_le (by simp; omega)
  simp [offP, sizN, this]

set_option maxRecDepth 100000 in
set_option maxHeartbeats 2000000 in
theorem readK_in (n : Nat) (hn : 5 ≤ n) (b o c : Nat) (l : List UInt8) (w : World) (hl : l.length = 12) (hb : b < w.heap.size) (hc : 12 ≤ c) (hm : c ≤ maxLen) (hcell : ∀ j, j < 12 → w.cell? ⟨b, o + j, none⟩ = some (.int .u8 ((l.getD j 0).toNat : Int))) :
    CallsIn Fence.wide n Tryd.prog 19 #[.slice (some ⟨b, o, none⟩) 12 c] w fun e W' => e = .returned (.tuple #[.agg #[.int .i64 (rdV l).1, .int .i64 (rdV l).2.1, .int .i64 (rdV l).2.2], .int .i64 (rdE l)]) ∧ Below w.heap.size w W' := by
  have h1 : 1 ≤ n := by omega
  have HCell := Lib.hid hcell
  clear hcell
  refine callsIn_of_wp_marks Tryd.func19 rfl trivial ?_ rfl
  simp only [Tryd.ntmps19, List.size_toArray, List.length_cons, List.length_nil, Nat.reduceAdd, Nat.reduceSub, Array.replicate_succ, Array.replicate_zero, List.push_toArray, List.append_toArray, List.nil_append, List.cons_append]
  gi_wp2_with (refine ⟨trivial, ?_⟩; gi_at_call 54; refine (partsK_in (n - 1) (w.heap.size + 1) _).mono ?_; rintro e w' ⟨rfl, rfl⟩)
  obtain ⟨W0, hW0⟩ : ∃ W0, W0 = ((((w.alloc (.cells #[.int .i64 0, .int .i64 0, .int .i64 0] 23)).alloc (.cells #[.int .i64 0, .int .i64 0, .int .i64 0] 23)).alloc (.cells #[.slice (some ⟨b, o, none⟩) 12 c] 26)).alloc (.cells #[.pointer (some ⟨w.heap.size + 1, 0, none⟩)] 86)) := ⟨_, rfl⟩
  have hs0 : W0.heap.size = w.heap.size + 4 := by rw [hW0]; simp
  have r0 : KAt W0 w.heap.size (0, 0, 0) := by
    rw [hW0]; exact (((Below.heap_alloc _ _ _ (by simp; omega)).trans (Below.heap_alloc _ _ _ (by simp; omega))).trans (Below.heap_alloc _ _ _ (by simp))).trans (World.alloc_heap_new w _)
  have k0 : KAt W0 (w.heap.size + 1) (keyAt l 0 0) := by
    have := World.alloc_heap_new (w.alloc (.cells #[.int .i64 0, .int .i64 0, .int .i64 0] 23)) (.cells #[.int .i64 0, .int .i64 0, .int .i64 0] 23)
    rw [World.size_alloc] at this
    rw [hW0]; exact ((Below.heap_alloc _ _ _ (by simp)).trans (Below.heap_alloc _ _ _ (by simp))).trans this
  have b1 : Boxed W0 (w.heap.size + 1 + 1) 26 (.slice (some ⟨b, o + offP 0, none⟩) (12 - offP 0) (c - offP 0)) := by
    have := Boxed.new ((w.alloc (.cells #[.int .i64 0, .int .i64 0, .int .i64 0] 23)).alloc (.cells #[.int .i64 0, .int .i64 0, .int .i64 0] 23)) 26 (.slice (some ⟨b, o, none⟩) 12 c)
    rw [World.size_alloc, World.size_alloc] at this
    rw [hW0]; exact this.alloc _
  have b2 : Boxed W0 (w.heap.size + 1 + 1 + 1) 86 (.pointer (some ⟨w.heap.size + 1, 0, none⟩)) := by
    have := Boxed.new (((w.alloc (.cells #[.int .i64 0, .int .i64 0, .int .i64 0] 23)).alloc (.cells #[.int .i64 0, .int .i64 0, .int .i64 0] 23)).alloc (.cells #[.slice (some ⟨b, o, none⟩) 12 c] 26)) 86 (.pointer (some ⟨w.heap.size + 1, 0, none⟩))
    rw [World.size_alloc, World.size_alloc, World.size_alloc] at this
    rw [hW0]; exact this
  have hB0 : Below w.heap.size w W0 := by rw [hW0]; exact ((((Below.refl _ w).alloc (Nat.le_refl _) _).alloc (by simp) _).alloc (by simp; omega) _).alloc (by simp; omega) _
  rw [← hW0]
  clear hW0
  refine wpIn_rangeTied (encs := encP (w.heap.size + 1)) (N := 3) rfl h1 (gf := 80) (lb := #[.pointer (some ⟨w.heap.size + 1 + 1 + 1, 0, none⟩)]) rfl trivial (enters_of Tryd.func80 (by kernel_rfl) rfl)
    (partsK_tied (n - 1) (by omega) (w.heap.size + 1 + 1 + 1) (w.heap.size + 1)) (fun W hb => (hb.block _ (by omega)).trans b2) (fun _ => rfl)
    (fun i W => ((KAt W w.heap.size (0, 0, 0) ∧ KAt W (w.heap.size + 1) (keyAt l i 0)) ∧ (∃ sv, (i < 3 → sv = .slice (some ⟨b, o + offP i, none⟩) (12 - offP i) (c - offP i)) ∧ Boxed W (w.heap.size + 1 + 1) 26 sv)) ∧ Below w.heap.size w W)
    (fun _ _ _ => False)
    (OwnFrom.and (OwnFrom.and (OwnFrom.and (Own.from (kat_own _ _) _) (Own.from (fun i X Y row hs hg hr => kat_own _ (keyAt l i 0) 0 X Y row hs hg hr) _)) (Own.from (fun i X Y row hs hg hr => by obtain ⟨sv, h1, h2⟩ := hs; exact ⟨sv, h1, boxed_own _ _ (fun _ : Unit => sv) () X Y row h2 hg hr⟩) _)) (ownFrom_below (Nat.le_refl _) (by omega)))
    (fun _ => fun _ _ _ _ hs _ _ => hs)
    ⟨⟨⟨r0, k0⟩, ⟨_, fun _ => rfl, b1⟩⟩, hB0⟩
    (fun i a W => ∃ p, a = { tmps := #[.slice (some ⟨b, o, none⟩) 12 c, undef, .pointer (some ⟨w.heap.size, 0, none⟩), .int .i64 0, .pointer (some ⟨w.heap.size + 1, 0, none⟩), .pointer (some ⟨w.heap.size + 1 + 1, 0, none⟩), undef, .pointer (some ⟨p, 0, none⟩), undef, undef, .slice (some ⟨b, o, none⟩) 12 c, .int .i64 12, .bool false, undef, .slice (some ⟨b, o, none⟩) 12 c, .func (.func 80) #[] #[.pointer (some ⟨w.heap.size + 1 + 1 + 1, 0, none⟩)], .int .i64 (i : Int), .agg #[.pointer (some ⟨w.heap.size + 1, i, none⟩), .int .i64 (mostP i), .int .i64 (sizeP i)], undef, undef, undef, undef, undef, undef, undef, undef, undef, undef, undef, undef, undef, undef, undef, undef, undef, undef, undef, undef, undef, undef, undef, undef, undef, undef, undef, undef, undef, undef], defers := [] } ∧ PAt W p (w.heap.size + 1) i)
    (fun i a => fun s X Y row hs hg hrow => by obtain ⟨p, e, hp⟩ := hs; exact ⟨p, e, (Own.from (pat_own p (w.heap.size + 1) i) _) () X Y row hp hg hrow⟩)
    ?assign ?body ?done ?stop
  case assign =>
    rintro l0 i W K hi ⟨⟨⟨hr, hk⟩, hb⟩, hB⟩ hK
    have HK := Lib.hid hK
    have HI := Lib.hid (And.intro (And.intro (And.intro hr hk) hb) hB)
    clear hK hr hk hb hB
    simp only [encP]
    gi_wp2
    have hg := World.grownBy_alloc W (.cells #[.pointer (some ⟨w.heap.size + 1, i, none⟩), .int .i64 (mostP i), .int .i64 (sizeP i)] 89) none
    obtain ⟨⟨⟨hr, hk⟩, sv, hsv, hbx⟩, hB⟩ := HI.out
    have hbel : Below w.heap.size w (W.alloc (.cells #[.pointer (some ⟨w.heap.size + 1, i, none⟩), .int .i64 (mostP i), .int .i64 (sizeP i)] 89)) := hB.alloc hB.size _
    exact HK.out _ _ (keepsFrom_grown hg) ⟨⟨⟨(hg.block _ hr.lt (by simp)).trans hr, (hg.block _ hk.lt (by simp)).trans hk⟩, ⟨sv, hsv, hbx.alloc _⟩⟩, hbel⟩ ⟨_, rfl, World.alloc_heap_new W _⟩
  case body =>
    rintro l0 i a' W hi ⟨⟨⟨hr, hk⟩, sv, hsv, hbx⟩, hB⟩ ⟨p, rfl, hp⟩
    obtain rfl := hsv hi
    obtain ⟨s, hs⟩ : ∃ s, sizN i = s := ⟨_, rfl⟩
    obtain ⟨q, hq⟩ : ∃ q, offP i = q := ⟨_, rfl⟩
    obtain ⟨e1, e2, e3⟩ := offP_step i hi
    rw [hs, hq] at e1 e2
    rw [hs] at e3
    obtain ⟨N, hN⟩ : ∃ N, 12 - q = N := ⟨_, rfl⟩
    obtain ⟨C, hC⟩ : ∃ C, c - q = C := ⟨_, rfl⟩
    rw [hq, hN, hC] at hbx
    have hm' := hm
    unfold maxLen at hm'
    have HR := Lib.hid hr; have HK := Lib.hid hk; have HBX := Lib.hid hbx; have HB := Lib.hid hB; have HP := Lib.hid hp
    obtain ⟨p0, p1, p2⟩ := hp.cells
    rw [sizeP_nat, hs] at p2
    have d1 := hbx.cell
    have z1 : (0 : Int) ≤ (s : Int) := by omega
    have z2 : (s : Int) ≤ (C : Int) := by omega
    have HSQ := Lib.hid (And.intro hs (And.intro hq (And.intro e1 (And.intro e2 (And.intro e3 (And.intro hN (And.intro hC hm')))))))
    clear hr hk hbx hB hp hs hq e1 e2 e3 hN hC b1 b2 hB0 k0 r0 hsv hm hm' hs0
    gi_wp2_with fail
    gi_loopw [9, 23] (fun cv iv wr => ∃ k x : Nat, k ≤ s ∧ iv = .int .i64 (k : Int) ∧ x = numL ((l.drop q).take k) ∧ ((KAt wr w.heap.size (0, 0, 0) ∧ KAt wr (w.heap.size + 1) (keyAt l i x)) ∧ Boxed wr (w.heap.size + 1 + 1) 26 (.slice (some ⟨b, o + q, none⟩) N C)) ∧ ((Below w.heap.size w wr ∧ KeepsFrom W0.heap.size W wr) ∧ PAt wr p (w.heap.size + 1) i)) (fun _ iv _ => s - (intOf iv).toNat)
    case atStart => exact ⟨0, 0, by omega, rfl, rfl, ⟨⟨HR.out, HK.out⟩, HBX.out⟩, ⟨HB.out, keepsFrom_below (Below.refl _ _)⟩, HP.out⟩
    case round =>
      obtain ⟨k, x, hk, rfl, hx, ⟨⟨hr, hka⟩, hbx⟩, ⟨hB, hkf⟩, hp⟩ := hrel
      have HKF := Lib.hid hkf
      clear hkf
      have HR2 := Lib.hid hr; have HK2 := Lib.hid hka; have HBX2 := Lib.hid hbx; have HB2 := Lib.hid hB; have HP2 := Lib.hid hp; have HX := Lib.hid hx
      obtain ⟨p0', p1', p2'⟩ := hp.cells
      rw [sizeP_nat, HSQ.out.1] at p2'
      obtain ⟨c0', f0'⟩ := hka.cells i hi
      rw [keyAt_fld l i x hi] at c0'
      clear hr hka hbx hB hp hx p0 p1 p2 d1 HR HK HBX HB HP
      by_cases hlt : k < s
      · have hlt' : (k : Int) < (s : Int) := by omega
        have HLT := Lib.hid hlt
        have z3 : (0 : Int) ≤ (k : Int) := by omega
        obtain ⟨d, hd⟩ : ∃ d, l.getD (q + k) 0 = d := ⟨_, rfl⟩
        have HD := Lib.hid hd
        have hcb : wr.cell? ⟨b, o + q + k, none⟩ = some (.int .u8 (d.toNat : Int)) := by
          rw [← hd]
          obtain ⟨g1, g2, g3, g4, g5, g6, g7, g8⟩ := HSQ.out
          rw [Nat.add_assoc]
          exact (cell_blk (HB2.out.block b hb) _).trans (HCell.out (q + k) (by omega))
        obtain ⟨y1, hy1⟩ : ∃ y1 : Int, ((x * 256 : Nat) : Int) = y1 := ⟨_, rfl⟩
        obtain ⟨y2, hy2⟩ : ∃ y2 : Int, ((x * 256 + d.toNat : Nat) : Int) = y2 := ⟨_, rfl⟩
        obtain ⟨ha, hor⟩ : IntKind.i64.wrap ((x : Int) * 256) = y1 ∧ bits .or .i64 y1 (d.toNat : Int) = y2 := by
          obtain ⟨g1, g2, g3, g4, g5, g6, g7, g8⟩ := HSQ.out
          have hxl : x < 256 ^ 6 := by
            have h1 := numL_lt ((l.drop q).take k)
            rw [← HX.out] at h1
            refine Nat.lt_of_lt_of_le h1 (Nat.pow_le_pow_right (by omega) ?_)
            rw [List.length_take]; omega
          have h6 : (256 : Nat) ^ 6 = 281474976710656 := rfl
          have hdl := d.toNat_lt
          subst hy1 hy2
          exact ⟨by rw [IntKind.wrap_i64]; omega, by rw [bits_or_i64 _ _ (by omega) (by omega), Nat.mul_comm x 256, ← Nat.two_pow_add_eq_or_of_lt (i := 8) (by omega)]⟩
        have hwd : IntKind.i64.wrap (d.toNat : Int) = (d.toNat : Int) := by have := d.toNat_lt; rw [IntKind.wrap_i64]; omega
        gi_wp2_with fail
        refine wpIn_region_bools (by kernel_rfl) (by kernel_rfl) (fun B => { tmps := #[.slice (some ⟨b, o, none⟩) 12 c, undef, .pointer (some ⟨w.heap.size, 0, none⟩), .int .i64 0, .pointer (some ⟨w.heap.size + 1, 0, none⟩), .pointer (some ⟨w.heap.size + 1 + 1, 0, none⟩), undef, .pointer (some ⟨p, 0, none⟩), undef, .int .u8 (d.toNat : Int), .slice (some ⟨b, o, none⟩) 12 c, .int .i64 12, .bool false, undef, .slice (some ⟨b, o, none⟩) 12 c, .func (.func 80) #[] #[.pointer (some ⟨w.heap.size + 1 + 1 + 1, 0, none⟩)], .int .i64 (i : Int), .agg #[.pointer (some ⟨w.heap.size + 1, i, none⟩), .int .i64 (mostP i), .int .i64 (sizeP i)], .slice (some ⟨b, o + q, none⟩) N C, .pointer (some ⟨p, 2, none⟩), .int .i64 (s : Int), .slice (some ⟨b, o + q, none⟩) s C, .int .i64 (s : Int), .int .i64 (k : Int), .bool true, .pointer (some ⟨b, o + q + k, none⟩), .int .u8 (d.toNat : Int), bif B 0 then .pointer (some ⟨p, 0, none⟩) else u27, bif B 1 then .pointer (some ⟨w.heap.size + 1, i, none⟩) else u28, bif B 2 then .pointer (some ⟨p, 0, none⟩) else u29, bif B 3 then .pointer (some ⟨w.heap.size + 1, i, none⟩) else u30, bif B 4 then .pointer (some ⟨w.heap.size + 1, i, none⟩) else u31, bif B 5 then .int .i64 (x : Int) else u32, bif B 6 then .int .i64 y1 else u33, bif B 7 then .int .u8 (d.toNat : Int) else u34, bif B 8 then .int .i64 (d.toNat : Int) else u35, bif B 9 then .int .i64 y2 else u36, bif B 10 then .pointer (some ⟨w.heap.size + 1, i, none⟩) else u37, u38, undef, undef, undef, undef, undef, undef, undef, undef, undef], defers := [] }) (fun B => bif B 11 then wr.drew.setCell ⟨w.heap.size + 1, i, none⟩ (.int .i64 y2) else wr.drew) rfl rfl ?step ?fin
        case step =>
          intro B j hj hbj hcl hw K hK
          have hcl11 := hcl 11 (by decide)
          clear hcl
          have hj : j < 12 := hj
          obtain rfl | rfl | rfl | rfl | rfl | rfl | rfl | rfl | rfl | rfl | rfl | rfl : j = 0 ∨ j = 1 ∨ j = 2 ∨ j = 3 ∨ j = 4 ∨ j = 5 ∨ j = 6 ∨ j = 7 ∨ j = 8 ∨ j = 9 ∨ j = 10 ∨ j = 11 := by omega
          all_goals (simp [waits, Region.binds] at hw)
          iterate 11
            · have h11 : B 11 = false := by
                cases h : B 11 with
                | false => rfl
                | true => have h2 := hcl11 h; simp [waits, Region.binds, hbj] at h2
              clear hcl11 hj
              simp [upd, h11, hw] at hK
              refine wpOpIn_step rfl ?_
              intro K' hK'
              simp only [h11, hw, cond_true, cond_false]
              go_simp
              exact hK' _ _ hK
          · clear hcl11 hj
            simp [upd, hw] at hK
            refine wpOpIn_step rfl ?_
            intro K' hK'
            simp only [hbj, hw, cond_true, cond_false]
            go_simp
            exact hK' _ _ hK
        case fin =>
          intro B hB
          have hB' : ∀ j, j < 12 → B j = true := hB
          have HPne := Lib.hid (show p ≠ w.heap.size + 1 by
            rintro rfl
            have h1 := HP2.out
            have h2 := HK2.out
            unfold PAt at h1
            unfold KAt at h2
            rw [h1] at h2
            cases h2)
          have HT := Lib.hid (show x * 256 + d.toNat = numL ((l.drop q).take (k + 1)) by
            obtain ⟨g1, g2, g3, g4, g5, g6, g7, g8⟩ := HSQ.out
            have hkl : k < (l.drop q).length := by rw [List.length_drop]; omega
            rw [List.take_succ_eq_append_getElem hkl, numL_snoc, ← HX.out]
            congr 1
            rw [← HD.out, List.getElem_drop, List.getD_eq_getElem?_getD, List.getElem?_eq_getElem (by omega)]
            rfl)
          have HW := Lib.hid hy2
          simp only [hB' 0 (by decide), hB' 1 (by decide), hB' 2 (by decide), hB' 3 (by decide), hB' 4 (by decide), hB' 5 (by decide), hB' 6 (by decide), hB' 7 (by decide), hB' 8 (by decide), hB' 9 (by decide), hB' 10 (by decide), hB' 11 (by decide), cond_true]
          clear hB hB' hy1 hy2 ha hor hd
          have hk7 : k < 7 := by obtain ⟨g1, g2, g3, g4, g5, g6, g7, g8⟩ := HSQ.out; omega
          gi_wp2
          go_roundw
          case rel =>
            refine ⟨k + 1, x * 256 + d.toNat, HLT.out, by go_num, HT.out, ⟨⟨?_, ?_⟩, ?_⟩, ⟨?_, ?_⟩, ?_⟩
            · exact (Below.heap_setCell _ _ _ _ (by simp)).trans HR2.out
            · rw [← HW.out]; exact keyAt_set l i x _ hi _ _ HK2.out
            · exact (Below.heap_setCell _ _ _ _ (by simp)).trans HBX2.out
            · exact (HB2.out.drew).setCell (p := ⟨w.heap.size + 1, i, none⟩) (by simp) _
            · exact HKF.out.trans ⟨(keepsFrom_set W0.heap.size wr ⟨w.heap.size + 1, i, none⟩ (.int .i64 y2)).size, (keepsFrom_set W0.heap.size wr ⟨w.heap.size + 1, i, none⟩ (.int .i64 y2)).same⟩
            · exact (Below.heap_setCell _ _ _ _ (by simp; exact HPne.out)).trans HP2.out
          case measure => have := HLT.out; simp [intOf]; omega
      · obtain rfl : k = s := by omega
        have hnl : ¬ (k : Int) < (k : Int) := by omega
        have hk7 : k ≤ 7 := by obtain ⟨g1, g2, g3, g4, g5, g6, g7, g8⟩ := HSQ.out; omega
        have d1 := HBX2.out.cell
        have f1 := HBX2.out.frozen
        have z4 : (k : Int) ≤ (N : Int) := by obtain ⟨g1, g2, g3, g4, g5, g6, g7, g8⟩ := HSQ.out; omega
        have HFin := Lib.hid (show ∀ (sv : Value) (W' : World), (C ≠ k → sv = .slice (some ⟨b, o + q + k, none⟩) (N - k) (C - k)) → W' = wr.setCell ⟨w.heap.size + 1 + 1, 0, none⟩ sv → KeepsFrom W0.heap.size W W' ∧ ((KAt W' w.heap.size (0, 0, 0) ∧ KAt W' (w.heap.size + 1) (keyAt l (i + 1) 0)) ∧ (∃ sv, (i + 1 < 3 → sv = .slice (some ⟨b, o + offP (i + 1), none⟩) (12 - offP (i + 1)) (c - offP (i + 1))) ∧ Boxed W' (w.heap.size + 1 + 1) 26 sv)) ∧ Below w.heap.size w W' from by
          rintro sv W' hsv rfl
          obtain ⟨g1, g2, g3, g4, g5, g6, g7, g8⟩ := HSQ.out
          refine ⟨HKF.out.trans ((KeepsOthers.setCell wr ⟨w.heap.size + 1 + 1, 0, none⟩ sv).from _), ⟨⟨?_, ?_⟩, ⟨sv, ?_, HBX2.out.set _⟩⟩, HB2.out.setCell (p := ⟨w.heap.size + 1 + 1, 0, none⟩) (by simp; omega) _⟩
          · exact (Below.heap_setCell _ _ _ _ (by simp; omega)).trans HR2.out
          · refine (Below.heap_setCell _ _ _ _ (by simp)).trans ?_
            rw [← keyAt_next l i hi x (by rw [g1, g2]; exact HX.out)]
            exact HK2.out
          · intro h3
            have h8 : offP (i + 1) ≤ 8 := by
              obtain rfl | rfl : i = 0 ∨ i = 1 := by omega
              all_goals simp [offP]
            rw [hsv (by omega), g3]
            congr 1
            · rw [Nat.add_assoc]
            · omega
            · omega)
        by_cases hcs : C = k
        · subst hcs
          gi_wp2
          exact HFin.out _ _ (fun h => absurd rfl h) rfl
        · gi_wp2
          exact HFin.out _ _ (fun _ => by first | rfl | simp [hcs]) rfl
  case done =>
    rintro D W hD ⟨⟨⟨hr, hk⟩, hb⟩, hB⟩ hK
    rw [keyAt_done l hl] at hk
    have HR := Lib.hid hr
    have HKk := Lib.hid hk
    have HB := Lib.hid hB
    have HK := Lib.hid hK
    have q0 := (hk.cells 0 (by omega)).1
    have q1 := (hk.cells 1 (by omega)).1
    have q2 := (hk.cells 2 (by omega)).1
    have HRt := Lib.hid (fun W => rightK_calls (keyB l) W)
    simp only [fldK] at q0 q1 q2
    clear hr hk hb hB hK b1 b2 hB0 k0 r0
    gi_wp2_with fail
    refine ⟨trivial, ?_⟩
    refine (callsIn_wide.2 (HRt.out _)).mono ?_
    rintro e w1 ⟨rfl, hb1⟩
    have HB1 := Lib.hid (HB.out.trans (hb1.mono HB.out.size))
    have HR1 := Lib.hid (show KAt w1 w.heap.size (0, 0, 0) from (hb1.block _ HR.out.lt).trans HR.out)
    have hk1 : KAt w1 (w.heap.size + 1) (keyB l) := (hb1.block _ HKk.out.lt).trans HKk.out
    have HK1 := Lib.hid (show w1.heap[D]? = some (.deferred (some [])) from (hb1.block _ (Array.getElem?_eq_some_iff.1 HK.out).1).trans HK.out)
    have t0 := (hk1.cells 0 (by omega)).1
    have t1 := (hk1.cells 1 (by omega)).1
    have t2 := (hk1.cells 2 (by omega)).1
    simp only [fldK] at t0 t1 t2
    have r0 := (HR1.out.cells 0 (by omega)).2
    have r1 := (HR1.out.cells 1 (by omega)).2
    have r2 := (HR1.out.cells 2 (by omega)).2
    have s0 := (HR1.out.cells 0 (by omega)).1
    have s1 := (HR1.out.cells 1 (by omega)).1
    have s2 := (HR1.out.cells 2 (by omega)).1
    simp only [fldK] at s0 s1 s2
    have HZ := Lib.hid hs0
    clear hb1 hk1 q0 q1 q2 hs0
    by_cases hyes : RightK (keyB l)
    · have hd := decide_eq_true hyes
      have HY := Lib.hid (rd_yes hl hyes)
      generalize decide (RightK (keyB l)) = dd at *
      subst hd
      clear hyes
      have HB2 := Lib.hid (set3_below HB1.out (Nat.le_refl _) (.int .i64 (keyB l).1) (.int .i64 (keyB l).2.1) (.int .i64 (keyB l).2.2))
      have HR2 := Lib.hid (kat_set HR1.out (keyB l).1 (keyB l).2.1 (keyB l).2.2)
      have HK2 := Lib.hid ((set3_block w1 w.heap.size (.int .i64 (keyB l).1) (.int .i64 (keyB l).2.1) (.int .i64 (keyB l).2.2) D (by have := HZ.out; omega)).trans HK1.out)
      gi_wp2
      refine ⟨by simp, .inl ⟨_, _, rfl, run_takeDeferred HK2.out, ?_⟩⟩
      have HR3 := (show KAt ((((w1.setCell ⟨w.heap.size, 0, none⟩ (.int .i64 (keyB l).1)).setCell ⟨w.heap.size, 1, none⟩ (.int .i64 (keyB l).2.1)).setCell ⟨w.heap.size, 2, none⟩ (.int .i64 (keyB l).2.2)).putObj D (.deferred Option.none)) w.heap.size ((keyB l).1, (keyB l).2.1, (keyB l).2.2) from (World.putObj_heap_other (by have := HZ.out; omega)).trans HR2.out)
      have v0 := (HR3.cells 0 (by omega)).1
      have v1 := (HR3.cells 1 (by omega)).1
      have v2 := (HR3.cells 2 (by omega)).1
      simp only [fldK] at v0 v1 v2
      refine ⟨.tuple #[.agg #[.int .i64 (keyB l).1, .int .i64 (keyB l).2.1, .int .i64 (keyB l).2.2], .int .i64 0], ?_, ?_, HB2.out.trans (belowK_b (w := w) (Nat.le_refl _) _ D _ _ (by have := HZ.out; omega) HK2.out rfl rfl)⟩
      · simp [results, Tryd.f19, go_sem, v0, v1, v2]
      · rw [HY.out.1, HY.out.2]
    · have hd := decide_eq_false hyes
      have HY := Lib.hid (rd_no (l := l) (fun h => hyes h.2))
      generalize decide (RightK (keyB l)) = dd at *
      subst hd
      clear hyes
      have HB2 := Lib.hid (set3_below HB1.out (Nat.le_refl _) (.int .i64 0) (.int .i64 0) (.int .i64 0))
      have HR2 := Lib.hid (kat_set HR1.out 0 0 0)
      have HK2 := Lib.hid ((set3_block w1 w.heap.size (.int .i64 0) (.int .i64 0) (.int .i64 0) D (by have := HZ.out; omega)).trans HK1.out)
      gi_wp2
      refine ⟨by simp, .inl ⟨_, _, rfl, run_takeDeferred HK2.out, ?_⟩⟩
      have HR3 := (show KAt ((((w1.setCell ⟨w.heap.size, 0, none⟩ (.int .i64 0)).setCell ⟨w.heap.size, 1, none⟩ (.int .i64 0)).setCell ⟨w.heap.size, 2, none⟩ (.int .i64 0)).putObj D (.deferred Option.none)) w.heap.size (0, 0, 0) from (World.putObj_heap_other (by have := HZ.out; omega)).trans HR2.out)
      have v0 := (HR3.cells 0 (by omega)).1
      have v1 := (HR3.cells 1 (by omega)).1
      have v2 := (HR3.cells 2 (by omega)).1
      simp only [fldK] at v0 v1 v2
      refine ⟨.tuple #[.agg #[.int .i64 0, .int .i64 0, .int .i64 0], .int .i64 71], ?_, ?_, HB2.out.trans (belowK_b (w := w) (Nat.le_refl _) _ D _ _ (by have := HZ.out; omega) HK2.out rfl rfl)⟩
      · simp [results, Tryd.f19, go_sem, v0, v1, v2]
      · rw [HY.out.1, HY.out.2]
  case stop =>
    intro D c' i W hD hi hF hK
    exact hF.elim

/-- key.Read, at any bytes. -/
theorem readK_calls (v : Value) (l : List UInt8) (w : World) (h : BR w v l) :
    Calls Tryd.prog 19 #[v] w fun e w' => e = .returned (.tuple #[.agg #[.int .i64 (rdV l).1, .int .i64 (rdV l).2.1, .int .i64 (rdV l).2.2], .int .i64 (rdE l)]) ∧ Below w.heap.size w w' := by
  by_cases hl : l.length = 12
  · rcases h with ⟨rfl, _⟩ | ⟨b, o, c, rfl, h1, h2, h3, h4⟩
    · cases hl
    · rw [hl] at h2 h4 ⊢
      exact (callsIn_wide (n := 5)).1 (readK_in 5 (by omega) b o c l w hl h1 h2 h3 h4)
  · have e := rd_no (l := l) (fun k => hl k.1)
    rw [e.1, e.2]
    exact readK_short v l w h hl
end Go.Proofs.YtapaccbffhcjdaaDoor
