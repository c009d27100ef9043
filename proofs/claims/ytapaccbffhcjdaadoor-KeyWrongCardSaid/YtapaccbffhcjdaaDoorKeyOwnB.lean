/-
  ROWS OF BYTES of the call's own, and append to them; the CONTRACT of the reference's put.
-/
import Derived.Test.YtapaccbffhcjdaaDoorKeyLawP
import Derived.OwnWalk
import Derived.Maps.AppendAt
namespace Go.Proofs.YtapaccbffhcjdaaDoor
open Go.RowKit Go.Shelf

def cellsB (l : List UInt8) : List Value := l.map fun c => .int .u8 (c.toNat : Int)
theorem cellsB_len (l : List UInt8) : (cellsB l).length = l.length * 1 := by simp [cellsB]
theorem cellsB_one (l : List UInt8) : ∀ u ∈ cellsB l, u.oneCell' = true := by
  intro u hu
  obtain ⟨c, _, rfl⟩ := List.mem_map.1 hu
  rfl
/-- A SLICE OF BYTES OF THE CALL's OWN. -/
def OwnB (w : World) (base : Nat) (v : Value) (l : List UInt8) : Prop := w.ownsRow base 5 1 v l.length (cellsB l)
theorem OwnB.nil (w : World) (base : Nat) : OwnB w base (.slice none 0 0) [] := World.ownsRow_nil _ _ _ _
theorem OwnB.row {w : World} {base : Nat} {v : Value} {l : List UInt8} (h : OwnB w base v l) : BR w v l := by
  obtain ⟨hl, ⟨rfl, h0⟩ | ⟨g, cap, cur, rfl, _, hg, hn, hm, hs, ht⟩⟩ := h
  · have : l = [] := List.eq_nil_of_length_eq_zero h0
    subst this
    exact .inl ⟨rfl, _, _, rfl, by unfold maxLen; omega⟩
  · refine .inr ⟨g, 0, cap, rfl, (Array.getElem?_eq_some_iff.1 hg).1, hn, hm, fun j hj => ?_⟩
    have hu : (cellsB l)[j]? = some (.int .u8 ((l.getD j 0).toNat : Int)) := by
      simp [cellsB, List.getD_eq_getElem?_getD, hj]
    rw [← ht, List.getElem?_take, Nat.mul_one, if_pos hj, Array.getElem?_toList] at hu
    rw [Nat.zero_add]
    simp [World.cell?, hg, hu]
theorem OwnB.below {w w' : World} {base : Nat} {v : Value} {l : List UInt8} (h : OwnB w base v l) (hb : Below w.heap.size w w') : OwnB w' base v l := by
  obtain ⟨hl, h | ⟨g, cap, cur, rfl, h1, hg, hn, hm, hs, ht⟩⟩ := h
  · exact ⟨hl, .inl h⟩
  · exact ⟨hl, .inr ⟨g, cap, cur, rfl, h1, (hb.block g (Array.getElem?_eq_some_iff.1 hg).1).trans hg, hn, hm, hs, ht⟩⟩
theorem BR.cell {w : World} {b o n c : Nat} {l : List UInt8} (h : BR w (.slice (some ⟨b, o, none⟩) n c) l) (j : Nat) (hj : j < l.length) : w.cell? ⟨b, o + j, none⟩ = some (.int .u8 ((l.getD j 0).toNat : Int)) := by
  rcases h with ⟨rfl, _⟩ | ⟨b', o', c', e, _, _, _, h4⟩
  · cases hj
  · cases e; exact h4 j hj

/-- append of bytes to a row of the call's own. -/
theorem run_appendB (w : World) (ty : TypeId) (base : Nat) (hbase : base ≤ w.heap.size) (v : Value) (l : List UInt8) (hown : OwnB w base v l) (x : Value) (m : List UInt8) (hx : BR w x m) (hl : l.length + m.length ≤ 2000000) :
    ∃ v' w', (Builtin.append_ #[26, 26] ty #[v, x]).run Tryd.prog w = .ok v' w' ∧ OwnB w' base v' (l ++ m) ∧ w.grownBy w' v.ownBlock := by
  obtain ⟨i0, hi, hz0, hz1, hz2⟩ := info_parts info_u8K
  rcases hx with ⟨rfl, a, c, rfl, hc⟩ | ⟨b, o, c, rfl, q1, q2, q3, q4⟩
  · refine ⟨v, w, ?_, by simpa using hown, ⟨rfl, rfl, rfl, Nat.le_refl _, fun _ _ _ => rfl⟩⟩
    rcases hown.2 with ⟨rfl, _⟩ | ⟨g, cap, cur, rfl, _, hg, hnc, _⟩
    · cases a <;> simp [Builtin.append_, run_underlying Tryd.underlying26, sizeOf, typeInfo, hi, Builtin.lenOf, Builtin.firstCells, loadCells, loadCellsFrom]
    · cases a <;> simp [Builtin.append_, run_underlying Tryd.underlying26, sizeOf, typeInfo, hi, Builtin.lenOf, Builtin.firstCells, hnc, storeCells, loadCells, loadCellsFrom]
  · obtain ⟨v', w', hr, h2, h3, _, _⟩ := run_append_own_at (P := Tryd.prog) w base 26 ty 5 i0 _ 1 1 Tryd.underlying26 hi hz0 hz1 hz2 rfl (by decide) v l.length (cellsB l) hown ⟨b, o, none⟩ m.length c (cellsB m) (cellsB_len m) (fun j u hu => by
        rw [Addr.add_lit]
        have hj : j < m.length := by
          have := (List.getElem?_eq_some_iff.1 hu).1
          rwa [cellsB_len, Nat.mul_one] at this
        rw [q4 j hj, ← hu]
        simp [cellsB, List.getD_eq_getElem?_getD, hj]) (cellsB_one m) (by unfold maxLen; omega) (by omega) hbase
    refine ⟨v', w', hr, ?_, h3⟩
    unfold OwnB
    rw [List.length_append, show cellsB (l ++ m) = cellsB l ++ cellsB m by simp [cellsB]]
    exact h2
theorem wpList_appendB {ops : Array Oper} {rest : List Oper} {o : Oper} {a : Act} {w : World} {Q : Exit → Act → World → Prop} (hgd : o.guard = none) (s x : Operand)
    (ho : o.op = .call { callee := .builtin .append, args := #[s, x], argTypes := #[26, 26] })
    (base : Nat) (v : Value) (l : List UInt8) (hs : a.eval s = v) (hown : OwnB w base v l) (xv : Value) (m : List UInt8) (hx : a.eval x = xv) (hxr : BR w xv m)
    (hl : l.length + m.length ≤ 2000000) (hbase : base ≤ w.heap.size)
    (h : ∀ v' w', OwnB w' base v' (l ++ m) → w.grownBy w' v.ownBlock → wpList Tryd.prog ops Q rest (a.put o.dst v') w') : wpList Tryd.prog ops Q (o :: rest) a w :=
  wpList_plain hgd fun K hK => by
    obtain ⟨v', w', hr, h2, h3⟩ := run_appendB w o.type base hbase v l hown xv m hxr hl
    unfold Oper.wp execOp
    simp only [ho, resolve, invoke, builtin, Sem.run_bind, Sem.run_pure, Result.andThen_ok, List.map_toArray, List.map_cons, List.map_nil, hs, hx, hr]
    exact hK _ _ (h v' w' h2 h3)
theorem br_one (w : World) (c : Int) (h0 : 0 ≤ c) (h1 : c < 256) : BR (w.alloc (.cells #[.int .u8 c] 5)) (.slice (some ⟨w.heap.size, 0, none⟩) 1 1) [UInt8.ofNat c.toNat] := by
  refine .inr ⟨w.heap.size, 0, 1, rfl, by simp, by simp, by unfold maxLen; omega, fun j hj => ?_⟩
  obtain rfl : j = 0 := by simpa using hj
  have e : ((UInt8.ofNat c.toNat).toNat : Int) = c := by rw [UInt8.toNat_ofNat']; omega
  have hc := World.alloc_heap_new w (.cells #[.int .u8 c] 5)
  simp only [World.cell?, hc, List.getD_cons_zero, e]
  rfl
set_option maxRecDepth 100000 in
set_option maxHeartbeats 1000000 in
/-- The reference's put. -/
theorem put_calls : ∀ (n x : Nat) (v : Value) (l : List UInt8) (w0 w : World) (B : Nat), n ≤ 7 → x ≤ 281474976710656 → l.length ≤ 100 → OwnB w B v l → B ≤ w0.heap.size → Below B w0 w →
    Calls Tryd.prog 77 #[v, .int .i64 (x : Int), .int .i64 (n : Int)] w fun e w' => ∃ v', e = .returned v' ∧ OwnB w' B v' (l ++ beL n x) ∧ Below B w0 w'
  | 0, x, v, l, w0, w, B, _, _, _, ho, _, hb => by
    have HO := Lib.hid ho; have HB := Lib.hid hb
    clear ho hb
    go_enter Tryd.func77, Tryd.ntmps77
    go_wp2
    go_ret
    exact ⟨_, rfl, by simpa [beL] using HO.out, HB.out⟩
  | n + 1, x, v, l, w0, w, B, hn, hx, hl, ho, hB0, hb => by
    have IH := Lib.hid (put_calls n (x / 256) v l w0 w B (by omega) (by omega) hl ho hB0 hb)
    have HE := Lib.hid (show l ++ beL (n + 1) x = (l ++ beL n (x / 256)) ++ [UInt8.ofNat (x % 256)] by rw [beL_succ, List.append_assoc])
    have hle : (l ++ beL n (x / 256)).length ≤ 110 := by rw [List.length_append, beL_length]; omega
    have HLe := Lib.hid hle
    have HZ := Lib.hid (show B ≤ w0.heap.size from hB0)
    have z0 : ((n : Int) + 1 == 0) = false := by rw [beq_eq_false_iff_ne]; omega
    have z1 : IntKind.i64.wrap ((n : Int) + 1 - 1) = (n : Int) := by rw [IntKind.wrap_i64]; omega
    have z2 : (n : Int) + 1 - 1 = (n : Int) := by omega
    have d1 : (x : Int).tdiv 256 = ((x / 256 : Nat) : Int) := by rw [Int.tdiv_eq_ediv_of_nonneg (by omega)]; omega
    have d2 : (x : Int).tmod 256 = ((x % 256 : Nat) : Int) := by rw [Int.tmod_eq_emod_of_nonneg (by omega)]; omega
    have d3 : IntKind.u8.wrap ((x % 256 : Nat) : Int) = ((x % 256 : Nat) : Int) := by rw [IntKind.wrap_u8]; omega
    obtain ⟨q, hq⟩ : ∃ q, x / 256 = q := ⟨_, rfl⟩
    obtain ⟨r, hr⟩ : ∃ r, x % 256 = r := ⟨_, rfl⟩
    have hr0 : r < 256 := by omega
    have hq1 : (q : Int) ≤ 281474976710656 := by omega
    have hq0 : (0 : Int) ≤ (q : Int) := by omega
    rw [hq] at IH d1 HE HLe
    rw [hr] at d2 d3 HE
    rw [show (((n + 1 : Nat)) : Int) = (n : Int) + 1 by omega]
    clear hq hr ho hb hle hl hx
    go_enter Tryd.func77, Tryd.ntmps77
    go_wp2_with fail
    refine IH.out.mono ?_
    rintro e w1 ⟨v1, rfl, ho1, hb1⟩
    have HO1 := Lib.hid ho1; have HB1 := Lib.hid hb1
    have HA := Lib.hid ((Below.refl w1.heap.size w1).alloc (Nat.le_refl _) (.cells #[.int .u8 (r : Int)] 5))
    clear ho1 hb1
    have hi0 : (0 : Int) ≤ (r : Int) := by omega
    have hi1 : (r : Int) < 256 := by omega
    go_wp2_with (at_builtin; go_must (refine wpList_appendB rfl (.tmp 15) (.tmp 19) (by rfl) B _ (l ++ beL n q) (by first | rfl | simp [Act.eval]) (HO1.out.below HA.out) _ [UInt8.ofNat (r : Int).toNat] (by first | rfl | simp [Act.eval]) (br_one _ _ hi0 hi1) (by have := HLe.out; simp only [List.length_singleton]; omega) (Nat.le_trans HZ.out (Nat.le_trans HB1.out.size HA.out.size)) ?_; intro v5 w5 hr5 hg5; have HR5 := Lib.hid hr5; have HB5 := Lib.hid ((HB1.out.trans (HA.out.mono (Nat.le_trans HZ.out HB1.out.size))).grown hg5 (Nat.le_trans HZ.out (Nat.le_trans HB1.out.size HA.out.size)) (fun j hj => (World.ownsRow.lt (HO1.out.below HA.out) j hj).1)); clear hr5 hg5))
    go_ret
    refine ⟨_, rfl, ?_, HB5.out⟩
    have h := HR5.out
    rw [Int.toNat_natCast] at h
    rw [HE.out]
    exact h
end Go.Proofs.YtapaccbffhcjdaaDoor
