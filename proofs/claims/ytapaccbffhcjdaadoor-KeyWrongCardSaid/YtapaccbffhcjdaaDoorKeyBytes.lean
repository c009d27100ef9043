/-
  CONTRACT of key.Bytes: the bytes of a key; nothing that was there is written.
-/
import Derived.Test.YtapaccbffhcjdaaDoorKeyRead
import Derived.ArgAppend
namespace Go.Proofs.YtapaccbffhcjdaaDoor
open Go.RowKit Go.Shelf

attribute [local go_sem] Oper.semAt_some

/-- The block holds twelve bytes, of which those of l are written. -/
def RowB (W : World) (b : Nat) (l : List UInt8) : Prop := l.length ≤ 12 ∧ W.heap[b]? = some (.cells ((l.map fun (c : UInt8) => Value.int .u8 (c.toNat : Int)) ++ List.replicate (12 - l.length) (Value.int .u8 0)).toArray 5 (0, 0))
theorem RowB.lt {W : World} {b : Nat} {l : List UInt8} (h : RowB W b l) : b < W.heap.size := (Array.getElem?_eq_some_iff.1 h.2).1
theorem rowB_own (b : Nat) : Own (fun (l : List UInt8) (W : World) => RowB W b l) := fun l X Y row hs hg hrow =>
  ⟨hs.1, (hg.block b (Array.getElem?_eq_some_iff.1 hs.2).1 (fun e => by obtain ⟨o, ho, hc⟩ := hrow b e.symm; rw [hs.2] at ho; cases ho; cases hc)).trans hs.2⟩
theorem RowB.free {W : World} {b : Nat} {l : List UInt8} (h : RowB W b l) (hl : l.length < 12) : W.cell? ⟨b, l.length, none⟩ = some (.int .u8 0) ∧ W.frozen? ⟨b, l.length, none⟩ = false := by
  obtain ⟨_, h⟩ := h
  refine ⟨?_, by simp [World.frozen?, h]⟩
  obtain ⟨m, hm⟩ : ∃ m, 12 - l.length = m + 1 := ⟨12 - l.length - 1, by omega⟩
  rw [hm, List.replicate_succ] at h
  simp [World.cell?, h]
theorem modify_mid (A B : List Value) (x y : Value) : (A ++ x :: B).modify A.length (fun _ => y) = A ++ y :: B := by
  induction A with
  | nil => rfl
  | cons a A ih => exact congrArg (a :: ·) ih
theorem RowB.put {W : World} {b : Nat} {l : List UInt8} (h : RowB W b l) (hl : l.length < 12) (c : UInt8) : RowB (W.setCell ⟨b, l.length, none⟩ (.int .u8 (c.toNat : Int))) b (l ++ [c]) := by
  refine ⟨by simp; omega, ?_⟩
  rw [setRow h.2]
  congr 2
  obtain ⟨m, hm⟩ : ∃ m, 12 - l.length = m + 1 := ⟨12 - l.length - 1, by omega⟩
  have hm2 : 12 - (l ++ [c]).length = m := by simp; omega
  rw [hm, hm2, List.replicate_succ]
  apply Array.ext'
  rw [Array.toList_modify]
  have := modify_mid (l.map fun (c : UInt8) => Value.int .u8 (c.toNat : Int)) (List.replicate m (Value.int .u8 0)) (Value.int .u8 0) (.int .u8 (c.toNat : Int))
  rw [List.length_map] at this
  simp only [List.map_append, List.map_cons, List.map_nil, List.append_assoc, List.singleton_append]
  exact this
theorem RowB.reads {W : World} {b : Nat} {l : List UInt8} (h : RowB W b l) (hl : l.length = 12) : BR W (.slice (some ⟨b, 0, none⟩) 12 12) l := by
  refine .inr ⟨b, 0, 12, by rw [hl], h.lt, by omega, by unfold maxLen; omega, fun j hj => ?_⟩
  simp only [World.cell?, h.2]
  simp
  rw [List.getElem?_append_left (by simpa using hj)]
  simp [hj]
/-- The bytes that are written when j bytes of a part are. -/
theorem bytes_at {k : Ky} (i j : Nat) (hi : i < 3) (hj : j < sizN i) : (bytesK k)[offP i + j]? = some (UInt8.ofNat ((fldK k i).toNat / 256 ^ (sizN i - 1 - j) % 256)) := by
  unfold bytesK
  obtain rfl | rfl | rfl : i = 0 ∨ i = 1 ∨ i = 2 := by omega
  · simp only [sizN, offP, fldK] at *
    rw [List.append_assoc, List.getElem?_append_left (by simp [beL_length]; omega)]
    simp [beL, hj]
  · simp only [sizN, offP, fldK] at *
    obtain rfl : j = 0 := by omega
    rw [List.getElem?_append_left (by simp [beL_length]), List.getElem?_append_right (by simp [beL_length])]
    simp [beL]
  · simp only [sizN, offP, fldK] at *
    rw [List.getElem?_append_right (by simp [beL_length])]
    simp [beL, hj]

theorem info_u8K : (Tryd.prog.info? 5).map (fun i => (i.zero, i.size, i.bytes)) = some (some (.int .u8 0), 1, 1) := by kernel_rfl
theorem append_byte (W : World) (z m g : Nat) (d v0 : Value) (hd : d.oneCell' = true) (hm : m < 12) (hg : W.cell? ⟨g, 0, none⟩ = some d) (hc : W.cell? ⟨z, m, none⟩ = some v0) (hf : W.frozen? ⟨z, m, none⟩ = false) :
    (Builtin.append_ #[26, 26] 26 #[.slice (some ⟨z, 0, none⟩) m 12, .slice (some ⟨g, 0, none⟩) 1 1]).run Tryd.prog W = .ok (.slice (some ⟨z, 0, none⟩) (m + 1) 12) (W.setCell ⟨z, m, none⟩ d) := by
  obtain ⟨i, hi, hz⟩ : ∃ i, Tryd.prog.info? 5 = some i ∧ i.size = 1 := by
    have h := info_u8K
    cases h2 : Tryd.prog.info? 5 with
    | none => rw [h2] at h; cases h
    | some i => rw [h2] at h; simp at h; exact ⟨i, rfl, h.2.1⟩
  have h := run_append_room_cells (P := Tryd.prog) W 26 26 5 i Tryd.underlying26 hi z 0 m 12 ⟨g, 0, none⟩ 1 1 [d] (by rw [hz]; rfl)
    (fun j u hj => by
      cases j with
      | zero => simp at hj; subst hj; exact hg
      | succ j => simp at hj)
    (fun u hu => by rw [List.mem_singleton.1 hu]; exact hd) (by omega)
    (fun j hj => by
      have : j = 0 := by simpa using hj
      subst this
      rw [hz, show 0 + m * 1 + 0 = m by omega, hc]; rfl)
    (fun j hj => by
      have : j = 0 := by simpa using hj
      subst this
      rw [hz, show 0 + m * 1 + 0 = m by omega, hf])
  rw [hz, show 0 + m * 1 = m by omega] at h
  exact h
/-- append, as one step of a region that draws, in a round. -/
theorem stepIn_app {o : Oper} {a : Act} {w : World} {K : Act → World → Prop} {Q : Exit → Act → World → Prop} {l n : Nat} (s x : Operand)
    (ho : o.op = .call { callee := .builtin .append, args := #[s, x], argTypes := #[26, 26] }) (ht : o.type = 26) (v1 v2 v' : Value) (w' : World) (hs : a.eval s = v1) (hx : a.eval x = v2)
    (hr : (Builtin.append_ #[26, 26] 26 #[v1, v2]).run Tryd.prog w = .ok v' w') (h : K (a.put o.dst v') w') :
    Oper.wpIn (Fence.wide.inRound l) n Tryd.prog o a w K Q := by
  unfold Oper.wpIn
  refine ⟨fun _ _ => trivial, ?_⟩
  rw [Oper.semAt_eq _ _ _ (fun c e => by rw [ho] at e; cases e)]
  unfold execOp
  simp only [ho, ht, resolve, invoke, builtin, Sem.run_bind, Sem.run_pure, Result.andThen_ok, List.map_toArray, List.map_cons, List.map_nil, hs, hx, hr]
  exact h
theorem make12 (W : World) : (Instr.makeSlice 26 (.int .i64 0) (.int .i64 12)).run Tryd.prog W = .ok (.slice (some ⟨W.heap.size, 0, none⟩) 0 12) (W.alloc (.cells #[.int .u8 0, .int .u8 0, .int .u8 0, .int .u8 0, .int .u8 0, .int .u8 0, .int .u8 0, .int .u8 0, .int .u8 0, .int .u8 0, .int .u8 0, .int .u8 0] 5)) := by kernel_rfl

set_option maxRecDepth 100000 in
set_option maxHeartbeats 2000000 in
theorem bytesK_in (n : Nat) (hn : 5 ≤ n) (k : Ky) (w : World) (hr : RightK k) :
    CallsIn Fence.wide n Tryd.prog 17 #[.agg #[.int .i64 k.1, .int .i64 k.2.1, .int .i64 k.2.2]] w fun e W' => (∃ v, e = .returned (.tuple #[v, .int .i64 0]) ∧ BR W' v (bytesK k)) ∧ Below w.heap.size w W' := by
  have h1 : 1 ≤ n := by omega
  have HRt := Lib.hid (fun W => rightK_calls k W)
  rw [decide_eq_true hr] at HRt
  refine callsIn_of_wp_marks Tryd.func17 rfl trivial ?_ rfl
  simp only [Tryd.ntmps17, List.size_toArray, List.length_cons, List.length_nil, Nat.reduceAdd, Nat.reduceSub, Array.replicate_succ, Array.replicate_zero, List.push_toArray, List.append_toArray, List.nil_append, List.cons_append]
  gi_wp2_with fail
  refine ⟨trivial, ?_⟩
  refine (callsIn_wide.2 (HRt.out _)).mono ?_
  rintro e w1 ⟨rfl, hb1⟩
  have hmk := fun W => make12 W
  have HK1 := Lib.hid (show KAt w1 w.heap.size k from (hb1.block _ (by simp)).trans (World.alloc_heap_new w _))
  have HB1 := Lib.hid (((Below.refl _ w).alloc (Nat.le_refl _) (.cells #[.int .i64 k.1, .int .i64 k.2.1, .int .i64 k.2.2] 23)).trans (hb1.mono (by simp)))
  clear hb1
  gi_wp2_with (refine ⟨trivial, ?_⟩; gi_at_call 54; refine (partsK_in (n - 1) w.heap.size _).mono ?_; rintro e w' ⟨rfl, rfl⟩)
  obtain ⟨W0, hW0⟩ : ∃ W0, W0 = (((w1.alloc (.cells #[.int .u8 0, .int .u8 0, .int .u8 0, .int .u8 0, .int .u8 0, .int .u8 0, .int .u8 0, .int .u8 0, .int .u8 0, .int .u8 0, .int .u8 0, .int .u8 0] 5)).alloc (.cells #[.slice (some ⟨w1.heap.size, 0, none⟩) 0 12] 26)).alloc (.cells #[.pointer (some ⟨w.heap.size, 0, none⟩)] 86)) := ⟨_, rfl⟩
  have hlt1 := HK1.out.lt
  have hs0 : W0.heap.size = w1.heap.size + 3 := by rw [hW0]; simp
  have k0 : KAt W0 w.heap.size k := by
    rw [hW0]; exact ((Below.heap_alloc _ _ _ (by simp; omega)).trans (Below.heap_alloc _ _ _ (by simp; omega))).trans ((Below.heap_alloc _ _ _ (by omega)).trans HK1.out)
  have q0 : RowB W0 w1.heap.size [] := by
    refine ⟨by simp, ?_⟩
    rw [hW0]; exact ((Below.heap_alloc _ _ _ (by simp; omega)).trans (Below.heap_alloc _ _ _ (by simp))).trans (World.alloc_heap_new w1 _)
  have b1 : Boxed W0 (w1.heap.size + 1) 26 (.slice (some ⟨w1.heap.size, 0, none⟩) 0 12) := by
    have := Boxed.new (w1.alloc (.cells #[.int .u8 0, .int .u8 0, .int .u8 0, .int .u8 0, .int .u8 0, .int .u8 0, .int .u8 0, .int .u8 0, .int .u8 0, .int .u8 0, .int .u8 0, .int .u8 0] 5)) 26 (.slice (some ⟨w1.heap.size, 0, none⟩) 0 12)
    rw [World.size_alloc] at this
    rw [hW0]; exact this.alloc _
  have b2 : Boxed W0 (w1.heap.size + 1 + 1) 86 (.pointer (some ⟨w.heap.size, 0, none⟩)) := by
    have := Boxed.new ((w1.alloc (.cells #[.int .u8 0, .int .u8 0, .int .u8 0, .int .u8 0, .int .u8 0, .int .u8 0, .int .u8 0, .int .u8 0, .int .u8 0, .int .u8 0, .int .u8 0, .int .u8 0] 5)).alloc (.cells #[.slice (some ⟨w1.heap.size, 0, none⟩) 0 12] 26)) 86 (.pointer (some ⟨w.heap.size, 0, none⟩))
    rw [World.size_alloc, World.size_alloc] at this
    rw [hW0]; exact this
  have hB0 : Below w.heap.size w W0 := by rw [hW0]; exact ((HB1.out.alloc HB1.out.size _).alloc (by have := HB1.out.size; simp; omega) _).alloc (by have := HB1.out.size; simp; omega) _
  rw [← hW0]
  clear hW0
  obtain ⟨z, hz⟩ : ∃ z, w1.heap.size = z := ⟨_, rfl⟩
  have hzw : w.heap.size < z := by omega
  rw [hz] at hs0 q0 b1 b2 ⊢
  clear hz HB1 HK1 hlt1 hmk
  refine wpIn_rangeTied (encs := encP w.heap.size) (N := 3) rfl h1 (gf := 80) (lb := #[.pointer (some ⟨z + 1 + 1, 0, none⟩)]) rfl trivial (enters_of Tryd.func80 (by kernel_rfl) rfl)
    (partsK_tied (n - 1) (by omega) (z + 1 + 1) w.heap.size) (fun W hb => (hb.block _ (by omega)).trans b2) (fun _ => rfl)
    (fun i W => ((KAt W w.heap.size k ∧ RowB W z ((bytesK k).take (offP i))) ∧ Boxed W (z + 1) 26 (.slice (some ⟨z, 0, none⟩) (offP i) 12)) ∧ Below w.heap.size w W)
    (fun _ _ _ => False)
    (OwnFrom.and (OwnFrom.and (OwnFrom.and (Own.from (kat_own _ _) _) (Own.from (fun i X Y row hs hg hr => rowB_own z ((bytesK k).take (offP i)) X Y row hs hg hr) _)) (Own.from (boxed_own _ _ (fun i : Nat => Value.slice (some ⟨z, 0, none⟩) (offP i) 12)) _)) (ownFrom_below (Nat.le_refl _) (by omega)))
    (fun _ => fun _ _ _ _ hs _ _ => hs)
    ⟨⟨⟨k0, q0⟩, b1⟩, hB0⟩
    (fun i a W => ∃ p, a = { tmps := #[.agg #[.int .i64 k.1, .int .i64 k.2.1, .int .i64 k.2.2], .pointer (some ⟨w.heap.size, 0, none⟩), .slice none 0 0, .int .i64 0, .pointer (some ⟨z + 1, 0, none⟩), undef, .pointer (some ⟨p, 0, none⟩), undef, .agg #[.int .i64 k.1, .int .i64 k.2.1, .int .i64 k.2.2], .bool true, .bool false, .slice (some ⟨z, 0, none⟩) 0 12, .func (.func 80) #[] #[.pointer (some ⟨z + 1 + 1, 0, none⟩)], .int .i64 (i : Int), .agg #[.pointer (some ⟨w.heap.size, i, none⟩), .int .i64 (mostP i), .int .i64 (sizeP i)], undef, undef, undef, undef, undef, undef, undef, undef, undef, undef, undef, undef, undef, undef, undef, undef, undef, undef, undef, undef, undef, undef], defers := [] } ∧ PAt W p w.heap.size i)
    (fun i a => fun s X Y row hs hg hrow => by obtain ⟨p, e, hp⟩ := hs; exact ⟨p, e, (Own.from (pat_own p w.heap.size i) _) () X Y row hp hg hrow⟩)
    ?assign ?body ?done ?stop
  case assign =>
    rintro l0 i W K hi ⟨⟨⟨hk, hq⟩, hb⟩, hB⟩ hK
    have HK := Lib.hid hK
    have HI := Lib.hid (And.intro (And.intro (And.intro hk hq) hb) hB)
    clear hK hk hq hb hB
    simp only [encP]
    gi_wp2
    have hg := World.grownBy_alloc W (.cells #[.pointer (some ⟨w.heap.size, i, none⟩), .int .i64 (mostP i), .int .i64 (sizeP i)] 89) none
    obtain ⟨⟨⟨hk, hq⟩, hbx⟩, hB⟩ := HI.out
    have hbel : Below w.heap.size w (W.alloc (.cells #[.pointer (some ⟨w.heap.size, i, none⟩), .int .i64 (mostP i), .int .i64 (sizeP i)] 89)) := hB.alloc hB.size _
    exact HK.out _ _ (keepsFrom_grown hg) ⟨⟨⟨(hg.block _ hk.lt (by simp)).trans hk, ⟨hq.1, (hg.block _ hq.lt (by simp)).trans hq.2⟩⟩, hbx.alloc _⟩, hbel⟩ ⟨_, rfl, World.alloc_heap_new W _⟩
  case body =>
    rintro l0 i a' W hi ⟨⟨⟨hk, hq⟩, hbx⟩, hB⟩ ⟨p, rfl, hp⟩
    obtain ⟨s, hs⟩ : ∃ s, sizN i = s := ⟨_, rfl⟩
    obtain ⟨q, hqq⟩ : ∃ q, offP i = q := ⟨_, rfl⟩
    obtain ⟨e1, e2, e3⟩ := offP_step i hi
    rw [hs, hqq] at e1 e2
    rw [hs] at e3
    rw [hqq] at hq hbx
    have HK := Lib.hid hk; have HBX := Lib.hid hbx; have HB := Lib.hid hB; have HP := Lib.hid hp; have HQ := Lib.hid hq
    obtain ⟨p0, p1, p2⟩ := hp.cells
    rw [sizeP_nat, hs] at p2
    have HSQ := Lib.hid (And.intro hs (And.intro hqq (And.intro e1 (And.intro e2 e3))))
    clear hk hbx hB hp hq hs hqq e1 e2 e3 b1 b2 hB0 k0 q0 hs0
    gi_wp2_with fail
    gi_loopw [7, 17] (fun cv iv wr => ∃ j : Nat, j ≤ s ∧ iv = .int .i64 (j : Int) ∧ ((KAt wr w.heap.size k ∧ RowB wr z ((bytesK k).take (q + j))) ∧ Boxed wr (z + 1) 26 (.slice (some ⟨z, 0, none⟩) (q + j) 12)) ∧ ((Below w.heap.size w wr ∧ KeepsFrom W0.heap.size W wr) ∧ PAt wr p w.heap.size i)) (fun _ iv _ => s - (intOf iv).toNat)
    case atStart => exact ⟨0, by omega, rfl, ⟨⟨HK.out, HQ.out⟩, HBX.out⟩, ⟨HB.out, keepsFrom_below (Below.refl _ _)⟩, HP.out⟩
    case round =>
      obtain ⟨j, hj, rfl, ⟨⟨hk, hq⟩, hbx⟩, ⟨hB, hkf⟩, hp⟩ := hrel
      have HKF := Lib.hid hkf
      have HK2 := Lib.hid hk; have HQ2 := Lib.hid hq; have HBX2 := Lib.hid hbx; have HB2 := Lib.hid hB; have HP2 := Lib.hid hp
      obtain ⟨p0', p1', p2'⟩ := hp.cells
      rw [sizeP_nat, HSQ.out.1] at p2'
      obtain ⟨c0', -⟩ := hk.cells i hi
      clear hkf hk hq hbx hB hp p0 p1 p2 HK HQ HBX HB HP
      by_cases hlt : j < s
      · have hlt' : (j : Int) < (s : Int) := by omega
        have HLT := Lib.hid hlt
        have hby := bytes_at (k := k) i j hi (by rw [HSQ.out.1]; exact hlt)
        rw [HSQ.out.1, HSQ.out.2.1] at hby
        obtain ⟨d, hd⟩ : ∃ d, UInt8.ofNat ((fldK k i).toNat / 256 ^ (s - 1 - j) % 256) = d := ⟨_, rfl⟩
        rw [hd] at hby
        obtain ⟨f, hf⟩ : ∃ f, fldK k i = f := ⟨_, rfl⟩
        rw [hf] at c0'
        obtain ⟨m, hm⟩ : ∃ m, q + j = m := ⟨_, rfl⟩
        have hlen : ((bytesK k).take m).length = m := by
          rw [List.length_take, bytesK_length]; obtain ⟨g1, g2, g3, g4, g5⟩ := HSQ.out; omega
        have hm12 : m < 12 := by obtain ⟨g1, g2, g3, g4, g5⟩ := HSQ.out; omega
        have hbx3 := HBX2.out
        have hq3 := HQ2.out
        rw [hm] at hbx3 hq3
        obtain ⟨c12, f12⟩ := hq3.free (by omega)
        rw [hlen] at c12 f12
        have d1 := hbx3.cell
        have f1 := hbx3.frozen
        have hqa : RowB (wr.drew.alloc (.cells #[.int .u8 (d.toNat : Int)] 5)) z ((bytesK k).take m) := ⟨hq3.1, (Below.heap_alloc wr.drew _ z (show z < wr.heap.size from hq3.lt)).trans hq3.2⟩
        have HQ3 := Lib.hid (show RowB ((wr.drew.alloc (.cells #[.int .u8 (d.toNat : Int)] 5)).setCell ⟨z, m, none⟩ (.int .u8 (d.toNat : Int))) z ((bytesK k).take (m + 1)) by
          have := hqa.put (by omega) d
          rw [hlen] at this
          rwa [List.take_add_one, ← hm, hby, hm])
        clear hqa
        have HBX3 := Lib.hid hbx3
        have HM := Lib.hid hm
        have HF := Lib.hid (And.intro hf hd)
        have HZW := Lib.hid hzw
        have hzr : z < wr.heap.size := hq3.lt
        have hzr1 : z + 1 < wr.heap.size := hbx3.lt
        have s7 : s ≤ 7 := HSQ.out.2.2.2.2
        obtain ⟨y1, hy1⟩ : ∃ y1 : Int, (s : Int) - 1 = y1 := ⟨_, rfl⟩
        obtain ⟨y2, hy2⟩ : ∃ y2 : Int, y1 - (j : Int) = y2 := ⟨_, rfl⟩
        obtain ⟨y3, hy3⟩ : ∃ y3 : Int, 8 * y2 = y3 := ⟨_, rfl⟩
        obtain ⟨y4, hy4⟩ : ∃ y4 : Int, f / 2 ^ y3.toNat = y4 := ⟨_, rfl⟩
        have w1' : IntKind.i64.wrap ((s : Int) - 1) = y1 := by rw [IntKind.wrap_i64]; omega
        have w2' : IntKind.i64.wrap (y1 - (j : Int)) = y2 := by rw [IntKind.wrap_i64]; omega
        have w3' : IntKind.i64.wrap (8 * y2) = y3 := by rw [IntKind.wrap_i64]; omega
        have hsh : ∀ W, (Op.shift .shr .i64 f .i64 y3).run Tryd.prog W = .ok (.int .i64 y4) W := fun W => by
          have e := Go.shift_shr_i64 (x := f) (yk := .i64) (y := y3) (by omega) (by omega)
          rw [e, hy4]; rfl
        have hwb : IntKind.u8.wrap y4 = (d.toNat : Int) := by
          have hf0 : 0 ≤ f := by rw [← hf]; exact ((right_okP k).1 hr i hi).1
          obtain ⟨fn, rfl⟩ : ∃ fn : Nat, f = (fn : Int) := ⟨f.toNat, by omega⟩
          have e : y3.toNat = 8 * (s - 1 - j) := by omega
          rw [e, show (2 : Int) ^ (8 * (s - 1 - j)) = ((2 ^ (8 * (s - 1 - j)) : Nat) : Int) by rw [Int.natCast_pow]; rfl, Nat.pow_mul] at hy4
          rw [hf, Int.toNat_natCast] at hd
          rw [← hy4, ← hd, IntKind.wrap_u8, ← Int.natCast_ediv]
          simp
        have HY := Lib.hid (And.intro hy1 (And.intro hy2 (And.intro hy3 hy4)))
        clear hby hlen hbx3 hq3 hm hf hd hzw hlt s7 hy1 hy2 hy3 hy4
        gi_wp2_with fail
        refine wpIn_region_bools (by kernel_rfl) (by kernel_rfl) (fun B => { tmps := #[.agg #[.int .i64 k.1, .int .i64 k.2.1, .int .i64 k.2.2], .pointer (some ⟨w.heap.size, 0, none⟩), .slice none 0 0, .int .i64 0, .pointer (some ⟨z + 1, 0, none⟩), undef, .pointer (some ⟨p, 0, none⟩), .int .i64 (j : Int), .agg #[.int .i64 k.1, .int .i64 k.2.1, .int .i64 k.2.2], .bool true, .bool false, .slice (some ⟨z, 0, none⟩) 0 12, .func (.func 80) #[] #[.pointer (some ⟨z + 1 + 1, 0, none⟩)], .int .i64 (i : Int), .agg #[.pointer (some ⟨w.heap.size, i, none⟩), .int .i64 (mostP i), .int .i64 (sizeP i)], .pointer (some ⟨p, 2, none⟩), .int .i64 (s : Int), .int .i64 (j : Int), .bool true, .int .i64 (j : Int), bif B 0 then .slice (some ⟨z, 0, none⟩) m 12 else u20, bif B 1 then .pointer (some ⟨p, 0, none⟩) else u21, bif B 2 then .pointer (some ⟨w.heap.size, i, none⟩) else u22, bif B 3 then .pointer (some ⟨w.heap.size, i, none⟩) else u23, bif B 4 then .int .i64 f else u24, bif B 5 then .pointer (some ⟨p, 2, none⟩) else u25, bif B 6 then .int .i64 (s : Int) else u26, bif B 7 then .int .i64 y1 else u27, bif B 8 then .int .i64 (j : Int) else u28, bif B 9 then .int .i64 y2 else u29, bif B 10 then .int .i64 y3 else u30, bif B 11 then .int .i64 y4 else u31, bif B 12 then .int .u8 (d.toNat : Int) else u32, bif B 13 then .slice (some ⟨wr.heap.size, 0, none⟩) 1 1 else u33, bif B 14 then .slice (some ⟨z, 0, none⟩) (m + 1) 12 else u34, u35, undef], defers := [] }) (fun B => bif B 15 then ((wr.drew.alloc (.cells #[.int .u8 (d.toNat : Int)] 5)).setCell ⟨z, m, none⟩ (.int .u8 (d.toNat : Int))).setCell ⟨z + 1, 0, none⟩ (.slice (some ⟨z, 0, none⟩) (m + 1) 12) else bif B 14 then (wr.drew.alloc (.cells #[.int .u8 (d.toNat : Int)] 5)).setCell ⟨z, m, none⟩ (.int .u8 (d.toNat : Int)) else bif B 13 then wr.drew.alloc (.cells #[.int .u8 (d.toNat : Int)] 5) else wr.drew) rfl rfl ?step ?fin
        case step =>
          intro B x hx hbx hcl hw K hK
          have hx : x < 16 := hx
          have c1 := hcl 1 (by decide)
          have c2 := hcl 2 (by decide)
          have c3 := hcl 3 (by decide)
          have c4 := hcl 4 (by decide)
          have c5 := hcl 5 (by decide)
          have c6 := hcl 6 (by decide)
          have c7 := hcl 7 (by decide)
          have c8 := hcl 8 (by decide)
          have c9 := hcl 9 (by decide)
          have c10 := hcl 10 (by decide)
          have c11 := hcl 11 (by decide)
          have c12 := hcl 12 (by decide)
          have c13 := hcl 13 (by decide)
          have c14 := hcl 14 (by decide)
          have c15 := hcl 15 (by decide)
          simp [waits, Region.binds] at c1 c2 c3 c4 c5 c6 c7 c8 c9 c10 c11 c12 c13 c14 c15
          clear hcl
          obtain rfl | rfl | rfl | rfl | rfl | rfl | rfl | rfl | rfl | rfl | rfl | rfl | rfl | rfl | rfl | rfl : x = 0 ∨ x = 1 ∨ x = 2 ∨ x = 3 ∨ x = 4 ∨ x = 5 ∨ x = 6 ∨ x = 7 ∨ x = 8 ∨ x = 9 ∨ x = 10 ∨ x = 11 ∨ x = 12 ∨ x = 13 ∨ x = 14 ∨ x = 15 := by omega
          all_goals (simp [waits, Region.binds] at hw)
          · have h14 : B 14 = false := by cases h : B 14 with | false => rfl | true => simp_all
            have h15 : B 15 = false := by cases h : B 15 with | false => rfl | true => simp_all
            clear c1 c2 c3 c4 c5 c6 c7 c8 c9 c10 c11 c12 c13 c14 c15 hx
            cases h13 : B 13 with
            | false =>
              simp [upd, h13, h14, h15] at hK
              refine wpOpIn_step rfl ?_
              intro K' hK'
              simp only [h14, h15, hbx, cond_false]
              go_simp
              exact hK' _ _ hK
            | true =>
              have k1 : (z + 1 < wr.drew.heap.size) := hzr1
              have d2 : (wr.drew.alloc (.cells #[.int .u8 (d.toNat : Int)] 5)).cell? ⟨z + 1, 0, none⟩ = some (.slice (some ⟨z, 0, none⟩) m 12) := (HBX3.out.alloc _).cell
              simp [upd, h13, h14, h15] at hK
              refine wpOpIn_step rfl ?_
              intro K' hK'
              simp only [h14, h15, hbx, cond_true, cond_false]
              go_simp
              exact hK' _ _ hK
          · have h13 : B 13 = false := by cases h : B 13 with | false => rfl | true => simp_all
            have h14 : B 14 = false := by cases h : B 14 with | false => rfl | true => simp_all
            have h15 : B 15 = false := by cases h : B 15 with | false => rfl | true => simp_all
            clear c1 c2 c3 c4 c5 c6 c7 c8 c9 c10 c11 c12 c13 c14 c15 hx
            simp [upd, h13, h14, h15] at hK
            refine wpOpIn_step rfl ?_
            intro K' hK'
            simp only [h13, h14, h15, hbx, cond_false]
            go_simp
            exact hK' _ _ hK
          · have h13 : B 13 = false := by cases h : B 13 with | false => rfl | true => simp_all
            have h14 : B 14 = false := by cases h : B 14 with | false => rfl | true => simp_all
            have h15 : B 15 = false := by cases h : B 15 with | false => rfl | true => simp_all
            clear c1 c2 c3 c4 c5 c6 c7 c8 c9 c10 c11 c12 c13 c14 c15 hx
            simp [upd, h13, h14, h15, hw] at hK
            refine wpOpIn_step rfl ?_
            intro K' hK'
            simp only [h13, h14, h15, hw, hbx, cond_true, cond_false]
            go_simp
            exact hK' _ _ hK
          · have h13 : B 13 = false := by cases h : B 13 with | false => rfl | true => simp_all
            have h14 : B 14 = false := by cases h : B 14 with | false => rfl | true => simp_all
            have h15 : B 15 = false := by cases h : B 15 with | false => rfl | true => simp_all
            clear c1 c2 c3 c4 c5 c6 c7 c8 c9 c10 c11 c12 c13 c14 c15 hx
            simp [upd, h13, h14, h15, hw] at hK
            refine wpOpIn_step rfl ?_
            intro K' hK'
            simp only [h13, h14, h15, hw, hbx, cond_true, cond_false]
            go_simp
            exact hK' _ _ hK
          · have h13 : B 13 = false := by cases h : B 13 with | false => rfl | true => simp_all
            have h14 : B 14 = false := by cases h : B 14 with | false => rfl | true => simp_all
            have h15 : B 15 = false := by cases h : B 15 with | false => rfl | true => simp_all
            clear c1 c2 c3 c4 c5 c6 c7 c8 c9 c10 c11 c12 c13 c14 c15 hx
            simp [upd, h13, h14, h15, hw] at hK
            refine wpOpIn_step rfl ?_
            intro K' hK'
            simp only [h13, h14, h15, hw, hbx, cond_true, cond_false]
            go_simp
            exact hK' _ _ hK
          · have h13 : B 13 = false := by cases h : B 13 with | false => rfl | true => simp_all
            have h14 : B 14 = false := by cases h : B 14 with | false => rfl | true => simp_all
            have h15 : B 15 = false := by cases h : B 15 with | false => rfl | true => simp_all
            clear c1 c2 c3 c4 c5 c6 c7 c8 c9 c10 c11 c12 c13 c14 c15 hx
            simp [upd, h13, h14, h15] at hK
            refine wpOpIn_step rfl ?_
            intro K' hK'
            simp only [h13, h14, h15, hbx, cond_false]
            go_simp
            exact hK' _ _ hK
          · have h13 : B 13 = false := by cases h : B 13 with | false => rfl | true => simp_all
            have h14 : B 14 = false := by cases h : B 14 with | false => rfl | true => simp_all
            have h15 : B 15 = false := by cases h : B 15 with | false => rfl | true => simp_all
            clear c1 c2 c3 c4 c5 c6 c7 c8 c9 c10 c11 c12 c13 c14 c15 hx
            simp [upd, h13, h14, h15, hw] at hK
            refine wpOpIn_step rfl ?_
            intro K' hK'
            simp only [h13, h14, h15, hw, hbx, cond_true, cond_false]
            go_simp
            exact hK' _ _ hK
          · have h13 : B 13 = false := by cases h : B 13 with | false => rfl | true => simp_all
            have h14 : B 14 = false := by cases h : B 14 with | false => rfl | true => simp_all
            have h15 : B 15 = false := by cases h : B 15 with | false => rfl | true => simp_all
            clear c1 c2 c3 c4 c5 c6 c7 c8 c9 c10 c11 c12 c13 c14 c15 hx
            simp [upd, h13, h14, h15, hw] at hK
            refine wpOpIn_step rfl ?_
            intro K' hK'
            simp only [h13, h14, h15, hw, hbx, cond_true, cond_false]
            go_simp
            exact hK' _ _ hK
          · have h13 : B 13 = false := by cases h : B 13 with | false => rfl | true => simp_all
            have h14 : B 14 = false := by cases h : B 14 with | false => rfl | true => simp_all
            have h15 : B 15 = false := by cases h : B 15 with | false => rfl | true => simp_all
            clear c1 c2 c3 c4 c5 c6 c7 c8 c9 c10 c11 c12 c13 c14 c15 hx
            simp [upd, h13, h14, h15] at hK
            refine wpOpIn_step rfl ?_
            intro K' hK'
            simp only [h13, h14, h15, hbx, cond_false]
            go_simp
            exact hK' _ _ hK
          · have h13 : B 13 = false := by cases h : B 13 with | false => rfl | true => simp_all
            have h14 : B 14 = false := by cases h : B 14 with | false => rfl | true => simp_all
            have h15 : B 15 = false := by cases h : B 15 with | false => rfl | true => simp_all
            clear c1 c2 c3 c4 c5 c6 c7 c8 c9 c10 c11 c12 c13 c14 c15 hx
            simp [upd, h13, h14, h15, hw] at hK
            refine wpOpIn_step rfl ?_
            intro K' hK'
            simp only [h13, h14, h15, hw, hbx, cond_true, cond_false]
            go_simp
            exact hK' _ _ hK
          · have h13 : B 13 = false := by cases h : B 13 with | false => rfl | true => simp_all
            have h14 : B 14 = false := by cases h : B 14 with | false => rfl | true => simp_all
            have h15 : B 15 = false := by cases h : B 15 with | false => rfl | true => simp_all
            clear c1 c2 c3 c4 c5 c6 c7 c8 c9 c10 c11 c12 c13 c14 c15 hx
            simp [upd, h13, h14, h15, hw] at hK
            refine wpOpIn_step rfl ?_
            intro K' hK'
            simp only [h13, h14, h15, hw, hbx, cond_true, cond_false]
            go_simp
            exact hK' _ _ hK
          · have h13 : B 13 = false := by cases h : B 13 with | false => rfl | true => simp_all
            have h14 : B 14 = false := by cases h : B 14 with | false => rfl | true => simp_all
            have h15 : B 15 = false := by cases h : B 15 with | false => rfl | true => simp_all
            clear c1 c2 c3 c4 c5 c6 c7 c8 c9 c10 c11 c12 c13 c14 c15 hx
            simp [upd, h13, h14, h15, hw] at hK
            refine wpOpIn_step rfl ?_
            intro K' hK'
            simp only [h13, h14, h15, hw, hbx, cond_true, cond_false]
            go_simp
            exact hK' _ _ hK
          · have h13 : B 13 = false := by cases h : B 13 with | false => rfl | true => simp_all
            have h14 : B 14 = false := by cases h : B 14 with | false => rfl | true => simp_all
            have h15 : B 15 = false := by cases h : B 15 with | false => rfl | true => simp_all
            clear c1 c2 c3 c4 c5 c6 c7 c8 c9 c10 c11 c12 c13 c14 c15 hx
            simp [upd, h13, h14, h15, hw] at hK
            refine wpOpIn_step rfl ?_
            intro K' hK'
            simp only [h13, h14, h15, hw, hbx, cond_true, cond_false]
            go_simp
            exact hK' _ _ hK
          · have h14 : B 14 = false := by cases h : B 14 with | false => rfl | true => simp_all
            have h15 : B 15 = false := by cases h : B 15 with | false => rfl | true => simp_all
            clear c1 c2 c3 c4 c5 c6 c7 c8 c9 c10 c11 c12 c13 c14 c15 hx
            simp [upd, h14, h15, hw] at hK
            refine wpOpIn_step rfl ?_
            intro K' hK'
            simp only [h14, h15, hw, hbx, cond_true, cond_false]
            go_simp
            exact hK' _ _ hK
          · have h15 : B 15 = false := by cases h : B 15 with | false => rfl | true => simp_all
            clear c1 c2 c3 c4 c5 c6 c7 c8 c9 c10 c11 c12 c13 c14 c15 hx
            have hnew : (wr.drew.alloc (.cells #[.int .u8 (d.toNat : Int)] 5)).heap[wr.heap.size]? = some (.cells #[.int .u8 (d.toNat : Int)] 5 (0, 0)) := World.alloc_heap_new wr.drew _
            have hap := append_byte (wr.drew.alloc (.cells #[.int .u8 (d.toNat : Int)] 5)) z m wr.heap.size (.int .u8 (d.toNat : Int)) (.int .u8 0) rfl hm12 (by simp only [World.cell?, hnew]; rfl) (by rw [cell_blk (Below.heap_alloc _ _ _ (show z < wr.drew.heap.size from hzr))]; exact c12) (by rw [frozen_blk (Below.heap_alloc _ _ _ (show z < wr.drew.heap.size from hzr))]; exact f12)
            simp [upd, h15, hw] at hK
            refine wpOpIn_step rfl ?_
            intro K' hK'
            simp only [h15, hw, hbx, cond_true, cond_false]
            rw [if_pos (by rfl)]
            apply stepIn_app (s := .tmp 20) (x := .tmp 33) (v1 := .slice (some ⟨z, 0, none⟩) m 12) (v2 := .slice (some ⟨wr.heap.size, 0, none⟩) 1 1) (hr := hap)
            · rfl
            · rfl
            · rfl
            · rfl
            · exact hK' _ _ hK
          · have h14 : B 14 = true := by simp_all
            have h13 : B 13 = true := by simp_all
            clear c1 c2 c3 c4 c5 c6 c7 c8 c9 c10 c11 c12 c13 c14 c15 hx
            have d2 : ((wr.drew.alloc (.cells #[.int .u8 (d.toNat : Int)] 5)).setCell ⟨z, m, none⟩ (.int .u8 (d.toNat : Int))).cell? ⟨z + 1, 0, none⟩ = some (.slice (some ⟨z, 0, none⟩) m 12) := (cell_blk (Below.heap_setCell _ _ _ _ (by simp)) 0).trans (HBX3.out.alloc _).cell
            have f2 : ((wr.drew.alloc (.cells #[.int .u8 (d.toNat : Int)] 5)).setCell ⟨z, m, none⟩ (.int .u8 (d.toNat : Int))).frozen? ⟨z + 1, 0, none⟩ = false := (frozen_blk (Below.heap_setCell _ _ _ _ (by simp)) 0).trans (HBX3.out.alloc _).frozen
            generalize (wr.drew.alloc (.cells #[.int .u8 (d.toNat : Int)] 5)).setCell ⟨z, m, none⟩ (.int .u8 (d.toNat : Int)) = W9 at *
            simp [upd, h13, h14, hw] at hK
            refine wpOpIn_step rfl ?_
            intro K' hK'
            simp only [h13, h14, hw, hbx, cond_true, cond_false]
            go_simp
            exact hK' _ _ hK
        case fin =>
          intro B hB
          have hB' : ∀ j, j < 16 → B j = true := hB
          have HPne := Lib.hid (show p ≠ z by
            rintro rfl
            have h1 := HP2.out
            have h2 := HQ2.out.2
            unfold PAt at h1
            rw [h1] at h2
            simp at h2)
          have HPne1 := Lib.hid (show p ≠ z + 1 by
            rintro rfl
            have h1 := HP2.out
            have h2 : wr.heap[z + 1]? = some (.cells #[_] 26 (0, 0)) := HBX3.out
            unfold PAt at h1
            rw [h1] at h2
            simp at h2)
          have HPL := Lib.hid (show p < wr.heap.size from (Array.getElem?_eq_some_iff.1 HP2.out).1)
          simp only [hB' 0 (by decide), hB' 1 (by decide), hB' 2 (by decide), hB' 3 (by decide), hB' 4 (by decide), hB' 5 (by decide), hB' 6 (by decide), hB' 7 (by decide), hB' 8 (by decide), hB' 9 (by decide), hB' 10 (by decide), hB' 11 (by decide), hB' 12 (by decide), hB' 13 (by decide), hB' 14 (by decide), hB' 15 (by decide), cond_true]
          have hj7 : j < 7 := by have := HLT.out; have := HSQ.out.2.2.2.2; omega
          have H9 := Lib.hid (show ((KAt (((wr.drew.alloc (.cells #[.int .u8 (d.toNat : Int)] 5)).setCell ⟨z, m, none⟩ (.int .u8 (d.toNat : Int))).setCell ⟨z + 1, 0, none⟩ (.slice (some ⟨z, 0, none⟩) (m + 1) 12)) w.heap.size k ∧ RowB (((wr.drew.alloc (.cells #[.int .u8 (d.toNat : Int)] 5)).setCell ⟨z, m, none⟩ (.int .u8 (d.toNat : Int))).setCell ⟨z + 1, 0, none⟩ (.slice (some ⟨z, 0, none⟩) (m + 1) 12)) z ((bytesK k).take (q + (j + 1)))) ∧ Boxed (((wr.drew.alloc (.cells #[.int .u8 (d.toNat : Int)] 5)).setCell ⟨z, m, none⟩ (.int .u8 (d.toNat : Int))).setCell ⟨z + 1, 0, none⟩ (.slice (some ⟨z, 0, none⟩) (m + 1) 12)) (z + 1) 26 (.slice (some ⟨z, 0, none⟩) (q + (j + 1)) 12)) ∧ ((Below w.heap.size w (((wr.drew.alloc (.cells #[.int .u8 (d.toNat : Int)] 5)).setCell ⟨z, m, none⟩ (.int .u8 (d.toNat : Int))).setCell ⟨z + 1, 0, none⟩ (.slice (some ⟨z, 0, none⟩) (m + 1) 12)) ∧ KeepsFrom W0.heap.size W (((wr.drew.alloc (.cells #[.int .u8 (d.toNat : Int)] 5)).setCell ⟨z, m, none⟩ (.int .u8 (d.toNat : Int))).setCell ⟨z + 1, 0, none⟩ (.slice (some ⟨z, 0, none⟩) (m + 1) 12))) ∧ PAt (((wr.drew.alloc (.cells #[.int .u8 (d.toNat : Int)] 5)).setCell ⟨z, m, none⟩ (.int .u8 (d.toNat : Int))).setCell ⟨z + 1, 0, none⟩ (.slice (some ⟨z, 0, none⟩) (m + 1) 12)) p w.heap.size i) from by
            refine ⟨⟨⟨?_, ?_⟩, ?_⟩, ⟨?_, ?_⟩, ?_⟩
            · exact (Below.heap_setCell _ ⟨z + 1, 0, none⟩ _ _ (by have := HZW.out; simp; omega)).trans ((Below.heap_setCell _ ⟨z, m, none⟩ _ _ (by have := HZW.out; simp; omega)).trans ((Below.heap_alloc wr.drew _ _ (show w.heap.size < wr.heap.size from HK2.out.lt)).trans HK2.out))
            · rw [show q + (j + 1) = m + 1 by have := HM.out; omega]
              exact ⟨HQ3.out.1, (Below.heap_setCell _ ⟨z + 1, 0, none⟩ _ _ (by simp)).trans HQ3.out.2⟩
            · rw [show q + (j + 1) = m + 1 by have := HM.out; omega]
              exact (show Boxed ((wr.drew.alloc (.cells #[.int .u8 (d.toNat : Int)] 5)).setCell ⟨z, m, none⟩ (.int .u8 (d.toNat : Int))) (z + 1) 26 (.slice (some ⟨z, 0, none⟩) m 12) from (Below.heap_setCell _ ⟨z, m, none⟩ _ _ (by simp)).trans (Boxed.alloc (W := wr.drew) HBX3.out _)).set _
            · exact ((HB2.out.drew.alloc HB2.out.size _).setCell (p := ⟨z, m, none⟩) (Nat.le_of_lt HZW.out) _).setCell (p := ⟨z + 1, 0, none⟩) (by have := HZW.out; simp; omega) _
            · exact HKF.out.trans (((((KeepsOthers.drew wr).trans (KeepsOthers.alloc _ _)).trans (KeepsOthers.setCell _ _ _)).trans (KeepsOthers.setCell _ _ _)).from _)
            · exact (Below.heap_setCell _ ⟨z + 1, 0, none⟩ _ _ (by simpa using HPne1.out)).trans ((Below.heap_setCell _ ⟨z, m, none⟩ _ _ (by simpa using HPne.out)).trans ((Below.heap_alloc wr.drew _ _ (show p < wr.heap.size from HPL.out)).trans HP2.out)))
          clear hB hB' hsh hwb w1' w2' w3' HQ3 HBX3
          generalize (((wr.drew.alloc (.cells #[.int .u8 (d.toNat : Int)] 5)).setCell ⟨z, m, none⟩ (.int .u8 (d.toNat : Int))).setCell ⟨z + 1, 0, none⟩ (.slice (some ⟨z, 0, none⟩) (m + 1) 12)) = W9 at *
          gi_wp2
          go_roundw
          case rel => exact ⟨j + 1, HLT.out, by go_num, H9.out⟩
          case measure => have := HLT.out; simp [intOf]; omega
      · obtain rfl : j = s := by omega
        have hnl : ¬ (j : Int) < (j : Int) := by omega
        have HFin := Lib.hid (show KeepsFrom W0.heap.size W wr ∧ ((KAt wr w.heap.size k ∧ RowB wr z ((bytesK k).take (offP (i + 1)))) ∧ Boxed wr (z + 1) 26 (.slice (some ⟨z, 0, none⟩) (offP (i + 1)) 12)) ∧ Below w.heap.size w wr from by
          rw [HSQ.out.2.2.1]
          exact ⟨HKF.out, ⟨⟨HK2.out, HQ2.out⟩, HBX2.out⟩, HB2.out⟩)
        gi_wp2
        exact HFin.out
  case done =>
    rintro D W hD ⟨⟨⟨hk, hq⟩, hb⟩, hB⟩ hK
    have HB := Lib.hid hB
    have HK := Lib.hid hK
    have HQ := Lib.hid hq
    have d1 := hb.cell
    have HZ := Lib.hid hs0
    clear hk hq hb hB hK b1 b2 hB0 k0 q0 hs0
    gi_wp2
    refine ⟨by simp, .inl ⟨_, _, rfl, run_takeDeferred HK.out, ?_⟩⟩
    have hrow : RowB (W.putObj D (.deferred Option.none)) z (bytesK k) := by
      have h := HQ.out
      rw [show offP 3 = 12 from rfl, List.take_of_length_le (by rw [bytesK_length]; exact Nat.le_refl _)] at h
      exact ⟨h.1, (World.putObj_heap_other (by have := HZ.out; omega)).trans h.2⟩
    refine ⟨.tuple #[.slice (some ⟨z, 0, none⟩) 12 12, .int .i64 0], ?_, ⟨_, rfl, hrow.reads (bytesK_length k)⟩, HB.out.trans (belowK_b (w := w) (Nat.le_refl _) _ D _ _ (by have := HZ.out; omega) HK.out rfl rfl)⟩
    simp [results, Tryd.f17, go_sem, offP]
  case stop =>
    intro D c' i W hD hi hF hK
    exact hF.elim
theorem bytesK_yes (k : Ky) (w : World) (hr : RightK k) :
    Calls Tryd.prog 17 #[.agg #[.int .i64 k.1, .int .i64 k.2.1, .int .i64 k.2.2]] w fun e W' => (∃ v, e = .returned (.tuple #[v, .int .i64 0]) ∧ BR W' v (bytesK k)) ∧ Below w.heap.size w W' :=
  (callsIn_wide (n := 5)).1 (bytesK_in 5 (by omega) k w hr)
theorem bytesK_no (k : Ky) (w : World) (hr : ¬ RightK k) :
    Calls Tryd.prog 17 #[.agg #[.int .i64 k.1, .int .i64 k.2.1, .int .i64 k.2.2]] w fun e W' => e = .returned (.tuple #[.slice none 0 0, .int .i64 70]) ∧ Below w.heap.size w W' := by
  have HRt := Lib.hid (fun W => rightK_calls k W)
  rw [decide_eq_false hr] at HRt
  have HB := Lib.hid ((Below.refl w.heap.size w).alloc (Nat.le_refl _) (.cells #[.int .i64 k.1, .int .i64 k.2.1, .int .i64 k.2.2] 23))
  clear hr
  go_enter Tryd.func17, Tryd.ntmps17
  go_wp2_with fail
  refine (HRt.out _).mono ?_
  rintro e w1 ⟨rfl, hb⟩
  have HB1 := Lib.hid (HB.out.trans (hb.mono HB.out.size))
  clear hb
  go_wp2
  go_ret2
  exact ⟨rfl, HB1.out⟩
end Go.Proofs.YtapaccbffhcjdaaDoor
