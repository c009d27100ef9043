/-
  CONTRACT of field.Read: the fields with a form, or where the first wrong one begins; nothing that was there is written.
-/
import Derived.Test.YteaeedhhdnkldaaFieldSeq
import Derived.Test.YteaeedhhdnkldaaNumSplitB
import Derived.Maps.AppendAt
namespace Go.Proofs.Yteaeedhhdnkldaa
open Go.RowKit Go.Shelf Pl

attribute [local go_sem] Oper.semAt_some

/-- Where the first wrong field begins. -/
def rdRes : Nat → Nat → Int → List Yl → Option Nat
  | _, _, _, [] => none
  | n, m, a, y :: ys => if takeOk n m a y.2.1 y.2.2.length = true then rdRes (n - 1) (m - y.2.2.length) y.2.1 ys else some y.1
def readE (l : List Nat) : Option Nat := rdRes 64 16384 0 (fsq l)
def ylF (y : Yl) : Fld := ((y.2.1 : Int), y.2.2)
def readV (l : List Nat) : List Fld := (fsq l).map ylF

theorem info_field : (Try.prog.info? 33).map (fun i => (i.zero, i.size, i.bytes)) = some (some (.agg #[.int .i64 0, .slice none 0 0]), 2, 32) := by kernel_rfl

/-- The cells of fields. -/
def fcells : List Fld → List Value → List Value
  | p :: L, v :: V => .int .i64 p.1 :: v :: fcells L V
  | _, _ => []
theorem fcells_snoc (L : List Fld) : ∀ (V : List Value) (p : Fld) (v : Value), V.length = L.length → fcells (L ++ [p]) (V ++ [v]) = fcells L V ++ [.int .i64 p.1, v] := by
  induction L with
  | nil => intro V p v h; have : V = [] := List.eq_nil_of_length_eq_zero (by simpa using h); subst this; rfl
  | cons q L ih =>
    intro V p v h
    cases V with
    | nil => simp at h
    | cons u V => simp only [List.cons_append, fcells, ih V p v (by simpa using h)]
/-- A SLICE OF THE CALL's OWN THAT HOLDS FIELDS, EACH WITH BYTES OF THE CALL's OWN. -/
def FOwn (w : World) (base : Nat) (v : Value) (L : List Fld) : Prop :=
  ∃ V : List Value, V.length = L.length ∧ w.ownsRow base 33 2 v L.length (fcells L V) ∧ ∀ i < L.length, Own8 w base (V.getD i undef) (fb L i)

theorem fown_nil (w : World) (base : Nat) : FOwn w base (.slice none 0 0) [] := ⟨[], rfl, World.ownsRow_nil _ _ _ _, fun _ hi => absurd hi (Nat.not_lt_zero _)⟩

/-- What turns no row of bytes and no row of fields keeps fields of the call's own. -/
theorem FOwn.keep {w w' : World} {base : Nat} {v : Value} {L : List Fld} {row : Option Nat} (h : FOwn w base v L) (hg : w.grownBy w' row) (hr : ∀ r c t, row = some r → w.heap[r]? = some (.cells c t (0, 0)) → t ≠ 5 ∧ t ≠ 33) : FOwn w' base v L := by
  obtain ⟨V, h1, h2, h3⟩ := h
  refine ⟨V, h1, h2.kept hg ?_, fun i hi => (h3 i hi).kept hg ?_⟩
  · rcases h2.2 with ⟨rfl, _⟩ | ⟨g, cap, cur, rfl, _, hgb, _⟩
    · exact .inl rfl
    · exact .inr fun e => (hr g cur _ e.symm hgb).2 rfl
  · rcases (h3 i hi).2 with ⟨e, _⟩ | ⟨g, cap, cur, e, _, hgb, _⟩
    · rw [e]; exact .inl rfl
    · rw [e]; exact .inr fun e => (hr g cur _ e.symm hgb).1 rfl
theorem cells_keep {A B : World} {row : Option Nat} {b : Nat} {c : Array Value} {t : TypeId} {f : Nat × Nat} (h : A.heap[b]? = some (.cells c t f)) (hg : A.grownBy B row) (hr : ∀ r, row = some r → ∃ o : Obj, A.heap[r]? = some o ∧ o.isCells = false) : B.heap[b]? = some (.cells c t f) := by
  refine (hg.block b (Array.getElem?_eq_some_iff.1 h).1 fun e => ?_).trans h
  obtain ⟨o, ho, hc⟩ := hr b e.symm
  rw [h] at ho
  cases ho
  cases hc
theorem FOwn.own {A B : World} {base : Nat} {v : Value} {L : List Fld} {row : Option Nat} (h : FOwn A base v L) (hg : A.grownBy B row) (hr : ∀ r, row = some r → ∃ o : Obj, A.heap[r]? = some o ∧ o.isCells = false) : FOwn B base v L :=
  h.keep hg fun r c t e hh => by
    obtain ⟨o, ho, hc⟩ := hr r e
    rw [hh] at ho
    cases ho
    cases hc

/-- What Read's loop keeps: the results' cells, the bytes, the room, and the fields so far. -/
def RdI (w : World) (sv : Value) {w0 : World} (pre : List (Yv w0)) (W : World) : Prop :=
  Boxed W w.heap.size 31 (.slice none 0 0) ∧ Boxed W (w.heap.size + 1) 3 (.int .i64 0) ∧ Boxed W (w.heap.size + 2) 53 (.int .i64 0) ∧ Boxed W (w.heap.size + 6) 22 sv ∧
  (∃ n m a, RoomAt W (w.heap.size + 5) n m a ∧ n ≤ 64 ∧ m ≤ 16384 ∧ pre.length + n = 64 ∧ ∀ rest, rdRes 64 16384 0 (pre.map Yv.yl ++ rest) = rdRes n m a rest) ∧
  ∃ v, Boxed W (w.heap.size + 3) 31 v ∧ FOwn W w.heap.size v (pre.map fun x => ylF x.yl)
theorem rdI_own (w : World) (sv : Value) {w0 : World} : Own (RdI w sv (w0 := w0)) := by
  rintro s A B row ⟨h1, h2, h3, h4, ⟨n, m, a, h5, h6⟩, v, h7, h8⟩ hg hr
  exact ⟨cells_keep h1 hg hr, cells_keep h2 hg hr, cells_keep h3 hg hr, cells_keep h4 hg hr, ⟨n, m, a, cells_keep h5 hg hr, h6⟩, v, cells_keep h7 hg hr, h8.own hg hr⟩

/-- How Read's loop is left where a field is wrong. -/
def RdX (w : World) {w0 : World} (c : Code) (pre : List (Yv w0)) (W : World) : Prop :=
  c = .ret ∧ ∃ ini last n m a, pre = ini ++ [last] ∧ (∀ rest, rdRes 64 16384 0 (ini.map Yv.yl ++ rest) = rdRes n m a rest) ∧ takeOk n m a (last.1.2.1 : Nat) last.1.2.2.2.length = false ∧
    Boxed W w.heap.size 31 (.slice none 0 0) ∧ Boxed W (w.heap.size + 1) 3 (.int .i64 (last.1.1 : Nat)) ∧ Boxed W (w.heap.size + 2) 53 (.int .i64 21)
theorem rdX_own (w : World) {w0 : World} (c : Code) : Own (RdX w c (w0 := w0)) := by
  rintro s A B row ⟨h0, ini, last, n, m, a, h1, h2, h3, h4, h5, h6⟩ hg hr
  exact ⟨h0, ini, last, n, m, a, h1, h2, h3, cells_keep h4 hg hr, cells_keep h5 hg hr, cells_keep h6 hg hr⟩

theorem Yv.open {w0 : World} (x : Yv w0) : ∃ at0 tg a2 c2 fbs, x.1 = (at0, tg, .slice a2 fbs.length c2, fbs) ∧ at0 ≤ 16768 ∧ tg < 256 ∧ fbs.length ≤ 16768 ∧ BRow w0 (.slice a2 fbs.length c2) fbs := by
  obtain ⟨⟨at0, tg, vv, fbs⟩, hx1, hx2, hx3, hx4⟩ := x
  dsimp only at hx1 hx2 hx3 hx4
  obtain ⟨a2, c2, rfl⟩ := hx4.shape
  exact ⟨at0, tg, a2, c2, fbs, rfl, hx1, hx2, hx3, hx4⟩

theorem cell_two_new (w : World) (x y : Value) (t : TypeId) : ∀ j u, [x, y][j]? = some u → (w.alloc (.cells #[x, y] t)).cell? ((⟨w.heap.size, 0, none⟩ : Addr).add j) = some u := by
  intro j u hu
  have hadd : (⟨w.heap.size, 0, none⟩ : Addr).add j = ⟨w.heap.size, j, none⟩ := by unfold Addr.add; split <;> simp_all
  rw [hadd, World.cell?_alloc_new]
  simpa using hu

theorem rd_mid {w W w3 w4 : World} {v : Value} {L : List Fld} {nn m : Nat} {a : Int} (H3 : Boxed W (w.heap.size + 3) 31 v) (HF : FOwn W w.heap.size v L) (HRm : RoomAt W (w.heap.size + 5) nn m a) (GR : W.grownBy w3 (some (w.heap.size + 5))) (hb4 : Below w3.drew.heap.size w3.drew w4) :
    Boxed w4 (w.heap.size + 3) 31 v ∧ FOwn w4 w.heap.size v L := by
  have k3 : Boxed w3 (w.heap.size + 3) 31 v := H3.kept GR (by simp)
  have f3 : FOwn w3 w.heap.size v L := HF.keep GR fun r c t e hh => by
    cases e
    rw [show W.heap[w.heap.size + 5]? = _ from HRm] at hh
    cases hh
    exact ⟨by decide, by decide⟩
  have f3' : FOwn w3.drew w.heap.size v L := f3
  exact ⟨(hb4.block _ k3.lt).trans k3, f3'.keep (grownBy_of_below hb4 none) fun r c t e => by cases e⟩

theorem own8_thru {w4 W5 : World} {base B n : Nat} {v v' u : Value} {l : List Nat} {xs : List Value} {tmp : Obj} (h : Own8 w4 base u l) (hrow : w4.ownsRow base 33 2 v n xs) (hgrow : (w4.alloc tmp).grownBy W5 v.ownBlock) (hB : Boxed w4 B 31 v) : Own8 (W5.setCell ⟨B, 0, none⟩ v') base u l := by
  have h1 : Own8 (w4.alloc tmp) base u l := h.alloc _
  have h2 : Own8 W5 base u l := h1.kept hgrow (by
    rcases h.2 with ⟨e, _⟩ | ⟨g, cap, cur, e, _, hgb, _⟩
    · rw [e]; exact .inl rfl
    · refine .inr fun e2 => ?_
      rcases hrow.2 with ⟨e3, _⟩ | ⟨g2, cap2, cur2, e3, _, hgb2, _⟩
      · rw [e, e3] at e2; simp [Value.ownBlock] at e2
      · rw [e, e3] at e2
        simp only [Value.ownBlock, Option.some.injEq] at e2
        subst e2
        rw [hgb] at hgb2
        simp at hgb2)
  refine h2.kept (grownBy_setCell' W5 B v') ?_
  rcases h.2 with ⟨e, _⟩ | ⟨g, cap, cur, e, _, hgb, _⟩
  · rw [e]; exact .inl rfl
  · rw [e]
    refine .inr fun e2 => ?_
    simp only [Value.ownBlock, Option.some.injEq] at e2
    subst e2
    rw [show w4.heap[g]? = _ from hB] at hgb
    simp at hgb

theorem fb_snoc (L : List Fld) (p : Fld) (i : Nat) (hi : i < L.length) : fb (L ++ [p]) i = fb L i := by
  simp [fb, List.getD_eq_getElem?_getD, List.getElem?_append_left hi]
theorem fb_last (L : List Fld) (p : Fld) : fb (L ++ [p]) L.length = p.2 := by
  simp [fb, List.getD_eq_getElem?_getD]
theorem getD_snoc (V : List Value) (u : Value) (i : Nat) (hi : i < V.length) : (V ++ [u]).getD i undef = V.getD i undef := by
  simp [List.getD_eq_getElem?_getD, List.getElem?_append_left hi]
theorem getD_last (V : List Value) (u : Value) : (V ++ [u]).getD V.length undef = u := by
  simp [List.getD_eq_getElem?_getD]

theorem rd_end {w W w3 w4 W5 : World} {sv v v' : Value} {a5 : Option Addr} {c5 at0 tg nn m : Nat} {a : Int} {a2 : Option Addr} {c2 : Nat} {fbs : List Nat} {pre : List (Yv w)} {x : Yv w} {V : List Value} {B0 : Nat}
    (hB : Below w.heap.size w W) (I0 : Boxed W w.heap.size 31 (.slice none 0 0)) (I1 : Boxed W (w.heap.size + 1) 3 (.int .i64 0)) (I2 : Boxed W (w.heap.size + 2) 53 (.int .i64 0)) (I6 : Boxed W (w.heap.size + 6) 22 sv)
    (HRm : RoomAt W (w.heap.size + 5) nn m a) (OK : RoomAt w3 (w.heap.size + 5) (nn - 1) (m - fbs.length) (tg : Nat)) (GR : W.grownBy w3 (some (w.heap.size + 5))) (hn : nn ≤ 64) (hm : m ≤ 16384) (hcnt : pre.length + nn = 64) (htk : takeOk nn m a (tg : Nat) fbs.length = true)
    (hrest : ∀ rest, rdRes 64 16384 0 (pre.map Yv.yl ++ rest) = rdRes nn m a rest) (XE : x.1 = (at0, tg, .slice a2 fbs.length c2, fbs))
    (hb4 : Below w3.drew.heap.size w3.drew w4) (ho5 : Own8 w4 w3.drew.heap.size (.slice a5 fbs.length c5) fbs)
    (K3 : Boxed w4 (w.heap.size + 3) 31 v) (hV1 : V.length = pre.length) (hV2 : w4.ownsRow w.heap.size 33 2 v pre.length (fcells (pre.map fun x => ylF x.yl) V)) (hV3 : ∀ i < pre.length, Own8 w4 w.heap.size (V.getD i undef) (fb (pre.map fun x => ylF x.yl) i))
    {tmp : Obj} (hgrow : (w4.alloc tmp).grownBy W5 v.ownBlock) (hown' : W5.ownsRow w.heap.size 33 2 v' (pre.length + 1) (fcells (pre.map fun x => ylF x.yl) V ++ [.int .i64 (tg : Nat), .slice a5 fbs.length c5])) :
    Boxed W5 (w.heap.size + 3) 31 v ∧ (KeepsFrom B0 W (W5.setCell ⟨w.heap.size + 3, 0, none⟩ v') ∧ KpB w.heap.size (w.heap.size + 6) W (W5.setCell ⟨w.heap.size + 3, 0, none⟩ v') ∧ RdI w sv (pre ++ [x]) (W5.setCell ⟨w.heap.size + 3, 0, none⟩ v') ∧ Below w.heap.size w (W5.setCell ⟨w.heap.size + 3, 0, none⟩ v')) := by
  have hb3 : Below w.heap.size W w3 := (Below.refl _ W).grown GR hB.size fun j e => by cases e; omega
  have hbW4 : Below w.heap.size W w4 := (hb3.drew).trans (hb4.mono (by have := hb3.size; have := hB.size; show w.heap.size ≤ w3.heap.size; omega))
  have hw4 : w.heap.size ≤ w4.heap.size := Nat.le_trans hB.size hbW4.size
  obtain ⟨q1, q2, q3, q4, q5⟩ := K3.appended (by decide) hV2 hw4 (by omega) hown' hgrow
  have box : ∀ (b : Nat) (t : TypeId) (u : Value), Boxed W b t u → t ≠ 33 → b ≠ w.heap.size + 5 → b ≠ w.heap.size + 3 → Boxed (W5.setCell ⟨w.heap.size + 3, 0, none⟩ v') b t u := fun b t u hb ht h5 h3 => by
    have k1 : Boxed w3 b t u := hb.kept GR (by simpa using h5)
    have k2 : Boxed w4 b t u := (hb4.block b k1.lt).trans k1
    exact boxed_other k2 ht hV2 hgrow h3
  have hx : Yv.yl x = (at0, tg, fbs) := by unfold Yv.yl; rw [XE]
  have hxF : ylF x.yl = ((tg : Int), fbs) := by rw [hx]; rfl
  have j6 := box _ _ _ I6 (by decide) (by omega) (by omega)
  have room4 : RoomAt w4 (w.heap.size + 5) (nn - 1) (m - fbs.length) (tg : Nat) := (hb4.block _ (room_lt OK)).trans OK
  have room5 : RoomAt (W5.setCell ⟨w.heap.size + 3, 0, none⟩ v') (w.heap.size + 5) (nn - 1) (m - fbs.length) (tg : Nat) := by
    have r1 : RoomAt (w4.alloc tmp) (w.heap.size + 5) (nn - 1) (m - fbs.length) (tg : Nat) := room_below room4 ((Below.refl _ _).alloc (Nat.le_refl _) _)
    have r2 : RoomAt W5 (w.heap.size + 5) (nn - 1) (m - fbs.length) (tg : Nat) := (hgrow.block _ (room_lt r1) (by
      rcases hV2.2 with ⟨e, _⟩ | ⟨g, cap, cur, e, _, hgb, _⟩
      · rw [e]; simp [Value.ownBlock]
      · rw [e]
        intro e2
        simp only [Value.ownBlock, Option.some.injEq] at e2
        subst e2
        rw [show w4.heap[w.heap.size + 5]? = _ from room4] at hgb
        simp at hgb)).trans r1
    exact ((grownBy_setCell' W5 (w.heap.size + 3) v').block _ (room_lt r2) (by simp)).trans r2
  have kp : KeepsOthers W (W5.setCell ⟨w.heap.size + 3, 0, none⟩ v') := by
    have k1 : KeepsOthers W w3 := KeepsOthers.of_grownBy GR fun j o ej hj => by
      cases ej
      rw [show W.heap[w.heap.size + 5]? = _ from HRm] at hj
      cases hj
      rfl
    have k2 : KeepsOthers w3.drew w4 := KeepsOthers.of_grownBy (grownBy_of_below hb4 none) fun j o ej => by cases ej
    exact (k1.trans ((KeepsOthers.drew w3).trans k2)).trans q4
  refine ⟨q1, kp.from _, ⟨hbW4.trans q5, j6.trans I6.symm⟩, ⟨box _ _ _ I0 (by decide) (by omega) (by omega), box _ _ _ I1 (by decide) (by omega) (by omega), box _ _ _ I2 (by decide) (by omega) (by omega), j6, ⟨nn - 1, m - fbs.length, (tg : Nat), room5, by omega, by omega, ?_, ?_⟩, v', q2, V ++ [.slice a5 fbs.length c5], by simp [hV1], ?_, ?_⟩, hB.trans (hbW4.trans q5)⟩
  · have : nn ≠ 0 := by intro e; rw [e] at htk; simp [takeOk] at htk
    simp; omega
  · intro rest
    rw [List.map_append, List.map_cons, List.map_nil, List.append_assoc, hrest, hx]
    simp only [List.cons_append, List.nil_append, rdRes]
    rw [if_pos htk]
  · rw [List.map_append, List.map_cons, List.map_nil, fcells_snoc _ _ _ _ (by simp [hV1]), hxF]
    simpa using q3
  · intro i hi
    rw [List.map_append, List.map_cons, List.map_nil, hxF]
    simp only [List.length_map, List.length_append, List.length_cons, List.length_nil] at hi
    by_cases h : i < pre.length
    · rw [getD_snoc _ _ _ (by omega), fb_snoc _ _ _ (by simpa using h)]
      exact own8_thru (hV3 i h) hV2 hgrow K3
    · obtain rfl : i = pre.length := by omega
      have e1 : (V ++ [Value.slice a5 fbs.length c5]).getD pre.length undef = .slice a5 fbs.length c5 := by rw [← hV1]; exact getD_last _ _
      have e2 : fb ((pre.map fun x => ylF x.yl) ++ [((tg : Int), fbs)]) pre.length = fbs := by
        have := fb_last (pre.map fun x => ylF x.yl) ((tg : Int), fbs)
        rwa [List.length_map] at this
      rw [e1, e2]
      exact own8_thru (own_base ho5 (by have := hb3.size; have := hB.size; show w.heap.size ≤ w3.heap.size; omega)) hV2 hgrow K3

/-- append of fields, as one step of a region that draws, in a round. -/
theorem stepIn_appendF {ops : Array Oper} {o : Oper} {a : Act} {w : World} {K : Act → World → Prop} {Q : Exit → Act → World → Prop} {l n : Nat} {E : Prop} (hg : o.guard = none) (s x : Operand)
    (ho : o.op = .call { callee := .builtin .append, args := #[s, x], argTypes := #[31, 31] })
    (base : Nat) (v : Value) (k : Nat) (xs : List Value) (hs : a.eval s = v) (hown : w.ownsRow base 33 2 v k xs) (ad : Addr) (m c : Nat) (news : List Value) (hx : a.eval x = .slice (some ad) m c) (hl : news.length = m * 2) (hnews : ∀ j u, news[j]? = some u → w.cell? (ad.add j) = some u) (h1 : ∀ u ∈ news, u.oneCell' = true)
    (hk : k + m ≤ 100000) (hbase : base ≤ w.heap.size)
    (h : ∀ v' w', w'.ownsRow base 33 2 v' (k + m) (xs ++ news) → w.grownBy w' v.ownBlock → K (a.put o.dst v') w') :
    if Region.wanted o (yielded ops a.tmps) = true then Oper.wpIn (Fence.wide.inRound l) n Try.prog o a w K Q else E := by
  rw [if_pos (by simp [Region.wanted, hg])]
  obtain ⟨i0, hi, hz0, hz1, hz2⟩ := info_parts info_field
  obtain ⟨v', w', hr, h2, h3, -⟩ := run_append_own_at (P := Try.prog) w base 31 o.type 33 i0 (.agg #[.int .i64 0, .slice none 0 0]) 2 32 Try.underlying31 hi hz0 hz1 hz2 rfl (by decide) v k xs hown ad m c news hl hnews h1 (by unfold maxLen; omega) (by omega) hbase
  unfold Oper.wpIn
  refine ⟨fun _ _ => trivial, ?_⟩
  rw [Oper.semAt_eq _ _ _ (fun c e => by rw [ho] at e; cases e)]
  unfold execOp
  simp only [ho, resolve, invoke, builtin, Sem.run_bind, Sem.run_pure, Result.andThen_ok, List.map_toArray, List.map_cons, List.map_nil, hs, hx, hr]
  exact h v' w' h2 h3

set_option maxRecDepth 100000 in
set_option maxHeartbeats 1000000 in
theorem wholeRoom_exact (w : World) :
    Calls Try.prog 119 #[] w fun e w' => e = .returned (.agg #[.int .i64 64, .int .i64 16384, .int .i64 0]) ∧ w' = w.alloc (.cells #[.int .i64 64, .int .i64 16384, .int .i64 0] 173) := by
  go_enter Try.func119, Try.ntmps119
  go_wp2
  exact bodyPost_ret (v := .agg #[.int .i64 64, .int .i64 16384, .int .i64 0]) (by simp [results, Try.results119, go_sem]) rfl ⟨rfl, rfl⟩

theorem within_stops (n : Nat) (hn : 1 ≤ n) (Bs : Nat) (sv : Value) (bs : List Nat) (w0 : World) (hrow : BRow w0 sv bs) (hlen : bs.length ≤ 16768) (w : World) (hB : Below w0.heap.size w0 w) (hbox : Boxed w Bs 22 sv) :
    SeqStopsK Fence.wide n Try.prog 144 #[.pointer (some ⟨Bs, 0, none⟩)] (encY (w0 := w0)) (KpB w0.heap.size Bs) (fun ys => ys.map Yv.yl = fsq bs) (fun pre => pre.map Yv.yl <+: fsq bs) (fsq bs).length w := fun l J Jx W hW hJ _ hY h0 =>
  within1_in n hn l Bs sv bs w0 hrow hlen J Jx W hJ hY (hB.trans (hW.mono hB.size)) ((hW.block Bs hbox.lt).trans hbox) h0

set_option maxRecDepth 100000 in
set_option maxHeartbeats 2000000 in
theorem fieldRead_in (n : Nat) (hn : 3 ≤ n) (v : Value) (bs : List Nat) (w : World) (hrow : BRow w v bs) (hlen : bs.length ≤ 16768) :
    CallsIn Fence.wide n Try.prog 85 #[v] w fun e W' => Below w.heap.size w W' ∧ ((∃ at0, readE bs = some at0 ∧ e = .returned (.tuple #[.slice none 0 0, .int .i64 (at0 : Nat), .int .i64 21])) ∨ (readE bs = none ∧ ∃ v', e = .returned (.tuple #[v', .int .i64 0, .int .i64 0]) ∧ FOwn W' w.heap.size v' (readV bs))) := by
  have h1 : 1 ≤ n := by omega
  obtain ⟨sa, sc, rfl⟩ := hrow.shape
  have hd0 : decide ((16768 : Int) < (bs.length : Int)) = false := by simp; omega
  refine callsIn_of_wp_marks Try.func85 rfl trivial ?_ rfl
  simp only [Try.ntmps85, List.size_toArray, List.length_cons, List.length_nil, Nat.reduceAdd, Nat.reduceSub, Array.replicate_succ, Array.replicate_zero, List.push_toArray, List.append_toArray, List.nil_append, List.cons_append]
  gi_wp2_with (first
    | (refine ⟨trivial, ?_⟩; gi_at_call 119; refine (callsIn_wide.2 (wholeRoom_exact _)).mono ?_; rintro e w' ⟨rfl, rfl⟩)
    | (refine ⟨trivial, ?_⟩; gi_at_call 128; refine (within_in (n - 1) _ _ _ _).mono ?_; rintro e w' ⟨rfl, rfl⟩))
  obtain ⟨W0, hW0⟩ : ∃ W0, (((((((w.alloc (.cells #[.slice none 0 0] 31)).alloc (.cells #[.int .i64 0] 3)).alloc (.cells #[.int .i64 0] 53)).alloc (.cells #[.slice none 0 0] 31)).alloc (.cells #[.int .i64 64, .int .i64 16384, .int .i64 0] 173)).alloc (.cells #[.int .i64 64, .int .i64 16384, .int .i64 0] 173)).alloc (.cells #[.slice sa bs.length sc] 22)) = W0 := ⟨_, rfl⟩
  have hsz : W0.heap.size = w.heap.size + 7 := by rw [← hW0]; simp
  have hB0 : Below w.heap.size w W0 := by
    rw [← hW0]
    exact (((((((Below.refl _ w).alloc (Nat.le_refl _) _).alloc (by simp) _).alloc (by simp; omega) _).alloc (by simp; omega) _).alloc (by simp; omega) _).alloc (by simp; omega) _).alloc (by simp; omega) _
  have b0 : Boxed W0 w.heap.size 31 (.slice none 0 0) := by
    rw [← hW0]; exact ((((((Boxed.new w _ _).alloc _).alloc _).alloc _).alloc _).alloc _).alloc _
  have b1 : Boxed W0 (w.heap.size + 1) 3 (.int .i64 0) := by
    rw [← hW0]; have := Boxed.new (w.alloc (.cells #[.slice none 0 0] 31)) 3 (.int .i64 0); simp only [World.size_alloc] at this; exact ((((this.alloc _).alloc _).alloc _).alloc _).alloc _
  have b2 : Boxed W0 (w.heap.size + 2) 53 (.int .i64 0) := by
    rw [← hW0]; have := Boxed.new ((w.alloc (.cells #[.slice none 0 0] 31)).alloc (.cells #[.int .i64 0] 3)) 53 (.int .i64 0); simp only [World.size_alloc] at this; exact (((this.alloc _).alloc _).alloc _).alloc _
  have b3 : Boxed W0 (w.heap.size + 3) 31 (.slice none 0 0) := by
    rw [← hW0]; have := Boxed.new (((w.alloc (.cells #[.slice none 0 0] 31)).alloc (.cells #[.int .i64 0] 3)).alloc (.cells #[.int .i64 0] 53)) 31 (.slice none 0 0); simp only [World.size_alloc] at this; exact ((this.alloc _).alloc _).alloc _
  have b5 : RoomAt W0 (w.heap.size + 5) 64 16384 0 := by
    rw [← hW0]
    refine room_below ?_ ((Below.refl _ _).alloc (Nat.le_refl _) _)
    have := World.alloc_heap_new (((((w.alloc (.cells #[.slice none 0 0] 31)).alloc (.cells #[.int .i64 0] 3)).alloc (.cells #[.int .i64 0] 53)).alloc (.cells #[.slice none 0 0] 31)).alloc (.cells #[.int .i64 64, .int .i64 16384, .int .i64 0] 173)) (.cells #[.int .i64 64, .int .i64 16384, .int .i64 0] 173)
    simp only [World.size_alloc] at this
    exact this
  have b6 : Boxed W0 (w.heap.size + 6) 22 (.slice sa bs.length sc) := by
    rw [← hW0]; have := Boxed.new ((((((w.alloc (.cells #[.slice none 0 0] 31)).alloc (.cells #[.int .i64 0] 3)).alloc (.cells #[.int .i64 0] 53)).alloc (.cells #[.slice none 0 0] 31)).alloc (.cells #[.int .i64 64, .int .i64 16384, .int .i64 0] 173)).alloc (.cells #[.int .i64 64, .int .i64 16384, .int .i64 0] 173)) 22 (.slice sa bs.length sc); simp only [World.size_alloc] at this; exact this
  rw [hW0]
  clear hW0
  have hI0 : RdI w (.slice sa bs.length sc) (w0 := w) [] W0 := ⟨b0, b1, b2, b6, ⟨64, 16384, 0, b5, by omega, by omega, rfl, fun _ => rfl⟩, _, b3, fown_nil _ _⟩
  refine wpIn_rangeFunc_ownH (encs := encY (w0 := w)) (Kp := KpB w.heap.size (w.heap.size + 6)) rfl h1 (gf := 144) (lb := #[.pointer (some ⟨w.heap.size + 6, 0, none⟩)]) rfl trivial (enters_of Try.func144 (by kernel_rfl) rfl)
    (within_stops (n - 1) (by omega) (w.heap.size + 6) (.slice sa bs.length sc) bs w hrow hlen _ hB0 b6)
    (fun h k => ⟨h.1.trans k.1, k.2.trans h.2⟩)
    (fun W l o o' hl h hc hw => ⟨belowK_b (w := w) (Nat.le_refl _) W l o o' (by omega) h hc hw, World.putObj_heap_other (by omega)⟩)
    (Below.refl _ _) (fun _ => rfl)
    (fun pre W => RdI w (.slice sa bs.length sc) pre W ∧ Below w.heap.size w W)
    (fun c pre W => RdX w c pre W ∧ Below w.heap.size w W)
    ?hI ?hIx ⟨hI0, hB0⟩
    (fun x a' W => ∃ Bx, w.heap.size + 7 ≤ Bx ∧ W.heap[Bx]? = some (.cells #[.int .i64 (x.1.2.1 : Nat), x.1.2.2.1] 33 (0, 0)) ∧ a' = { tmps := #[.slice sa bs.length sc, undef, .pointer (some ⟨w.heap.size, 0, none⟩), .pointer (some ⟨w.heap.size + 1, 0, none⟩), .pointer (some ⟨w.heap.size + 1 + 1, 0, none⟩), .pointer (some ⟨w.heap.size + 1 + 1 + 1, 0, none⟩), .pointer (some ⟨w.heap.size + 1 + 1 + 1 + 1 + 1, 0, none⟩), .int .i64 (x.1.1 : Nat), .pointer (some ⟨Bx, 0, none⟩), .slice sa bs.length sc, .int .i64 (bs.length : Nat), .bool false, .agg #[.int .i64 64, .int .i64 16384, .int .i64 0], .slice sa bs.length sc, .func (.func 144) #[] #[.pointer (some ⟨w.heap.size + 1 + 1 + 1 + 1 + 1 + 1, 0, none⟩)], .int .i64 (x.1.1 : Nat), .agg #[.int .i64 (x.1.2.1 : Nat), x.1.2.2.1], undef, undef, undef, undef, undef, undef, undef, undef, undef, undef, undef, undef, undef, undef], defers := [] })
    ?hAx ?assign ?body ?done ?stop
  case hI => exact OwnFrom.and (Own.from (rdI_own _ _) _) (ownFrom_below (Nat.le_refl _) (by omega))
  case hIx => exact fun c => OwnFrom.and (Own.from (rdX_own _ _) _) (ownFrom_below (Nat.le_refl _) (by omega))
  case hAx =>
    rintro x a' s A B row ⟨Bx, h2, h3, h4⟩ hg hr
    exact ⟨Bx, h2, cells_keep h3 hg (fun r e => (hr r e).2), h4⟩
  case assign =>
    rintro l pre x W K ⟨hi, hB⟩ hK
    obtain ⟨at0, tg, a2, c2, fbs, hxe, -, -, -, -⟩ := x.open
    have HI := Lib.hid (OwnFrom.alloc (Own.from (rdI_own w (.slice sa bs.length sc) (w0 := w)) 0) (.cells #[.int .i64 (tg : Nat), .slice a2 fbs.length c2] 33) hi)
    have HB := Lib.hid hB
    have HX := Lib.hid (show w.heap.size + 6 < W.heap.size from hi.2.2.2.1.lt)
    clear hi hB
    simp only [encY, hxe] at hK ⊢
    clear hxe
    gi_wp2
    exact hK _ _ ((KeepsOthers.alloc _ _).from _) ⟨(Below.refl _ W).alloc HB.out.size _, Below.heap_alloc _ _ _ HX.out⟩ ⟨HI.out, HB.out.alloc HB.out.size _⟩ ⟨W.heap.size, by have := HX.out; omega, World.alloc_heap_new W _, rfl⟩
  case body =>
    rintro l pre x a' W hl hr ⟨hI, hB⟩ ⟨Bx, hBx, bX, rfl⟩ hlt
    obtain ⟨at0, tg, a2, c2, fbs, hxe, hx1, hx2, hx3, hx4⟩ := x.open
    simp only [hxe] at bX ⊢
    obtain ⟨i0, i1, i2, i6, ⟨nn, m, a, h5, hn64, hm64, hcnt, hrest⟩, v, h3, hF⟩ := hI
    have x0 : W.cell? ⟨Bx, 0, none⟩ = some (.int .i64 (tg : Nat)) := by simp [World.cell?, bX]
    have x1 : W.cell? ⟨Bx, 1, none⟩ = some (.slice a2 fbs.length c2) := by simp [World.cell?, bX]
    have h5' := Lib.hid h5
    have HT := Lib.hid (take_calls (w.heap.size + 5) nn m a (tg : Nat) fbs.length W h5 hn64 hm64)
    have hnn : 1 ≤ n - 1 - 1 := by omega
    obtain ⟨tk, htk⟩ : ∃ tk, takeOk nn m a (tg : Nat) fbs.length = tk := ⟨_, rfl⟩
    rw [htk] at HT
    have I0 := Lib.hid i0; have I1 := Lib.hid i1; have I2 := Lib.hid i2; have I6 := Lib.hid i6; have H3 := Lib.hid h3; have HF := Lib.hid hF; have HB := Lib.hid hB; have HR := Lib.hid hrest; have BX := Lib.hid bX; have X4 := Lib.hid hx4; have XE := Lib.hid hxe
    clear i0 i1 i2 i6 h3 hF hB hrest bX h5 hx4 hxe b0 b1 b2 b3 b5 b6 hB0 hI0 hrow
    cases tk with
    | false =>
      gi_wp2_with (refine ⟨trivial, ?_⟩; gi_at_call 120; refine (CallsIn.inRound l (callsIn_wide.2 HT.out)).mono ?_; rintro e w3 ⟨rfl, -, hgr⟩; have k0 : Boxed w3 w.heap.size 31 (.slice none 0 0) := I0.out.kept hgr (by simp); have k1 : Boxed w3 (w.heap.size + 1) 3 (.int .i64 0) := I1.out.kept hgr (by simp); have k2 : Boxed w3 (w.heap.size + 2) 53 (.int .i64 0) := I2.out.kept hgr (by simp); have c0 := k0.cell; have c1 := k1.cell; have c2' : w3.cell? ⟨w.heap.size + 1 + 1, 0, none⟩ = some (.int .i64 0) := k2.cell; have f0 := k0.frozen; have f1 := k1.frozen; have f2 : w3.frozen? ⟨w.heap.size + 1 + 1, 0, none⟩ = false := k2.frozen; have K0 := Lib.hid k0; have K1 := Lib.hid k1; have K2 := Lib.hid k2; have GR := Lib.hid hgr; clear k0 k1 k2 hgr)
      have KO : KeepsOthers W w3 := KeepsOthers.of_grownBy GR.out fun j o ej hj => by
        cases ej
        rw [show W.heap[w.heap.size + 5]? = _ from h5'.out] at hj
        cases hj
        rfl
      have hb3 : Below w.heap.size w w3 := HB.out.grown GR.out HB.out.size (fun j e => by cases e; omega)
      exact ⟨(((KO.trans (KeepsOthers.setCell _ ⟨w.heap.size, 0, none⟩ (.slice none 0 0))).trans (KeepsOthers.setCell _ ⟨w.heap.size + 1, 0, none⟩ (.int .i64 (at0 : Nat)))).trans (KeepsOthers.setCell _ ⟨w.heap.size + 1 + 1, 0, none⟩ (.int .i64 21))).from _,
        ⟨rfl, pre, x, nn, m, a, rfl, HR.out, by rw [XE.out]; exact htk, ((K0.out.set _).other (by omega) _).other (by omega) _, by rw [XE.out]; exact ((K1.out.other (by omega) _).set _).other (by omega) _, ((K2.out.other (by omega) _).other (by omega) _).set _⟩,
        ((hb3.setCell (p := ⟨w.heap.size, 0, none⟩) (Nat.le_refl _) _).setCell (p := ⟨w.heap.size + 1, 0, none⟩) (by simp) _).setCell (p := ⟨w.heap.size + 1 + 1, 0, none⟩) (by simp; omega) _⟩
    | true =>
      gi_wp2_with (refine ⟨trivial, ?_⟩; gi_at_call 120; refine (CallsIn.inRound l (callsIn_wide.2 HT.out)).mono ?_; rintro e w3 ⟨rfl, hok, hgr⟩; have k3 : Boxed w3 (w.heap.size + 3) 31 v := H3.out.kept hgr (by simp); have c3 : w3.cell? ⟨w.heap.size + 1 + 1 + 1, 0, none⟩ = some v := k3.cell; have f3 : w3.frozen? ⟨w.heap.size + 1 + 1 + 1, 0, none⟩ = false := k3.frozen; have y0 := hgr.cell x0 (by simp; omega); have y1 := hgr.cell x1 (by simp; omega); have K3 := Lib.hid k3; have GR := Lib.hid hgr; have OK := Lib.hid (hok trivial); clear k3 hgr hok)
      refine wpIn_region_any (by kernel_rfl) ?_
      change wpAnyIn _ _ _ _ _ _ _ _ _ (World.drew _)
      have hB3 : Below w.heap.size w w3 := HB.out.grown GR.out HB.out.size (fun j e => by cases e; omega)
      have HOW := Lib.hid (own_calls (tg : Nat) (.slice a2 fbs.length c2) fbs w3.drew (X4.out.below hB3.drew) (by omega))
      have HRm := h5'
      clear hB3
      refine wpAnyIn_ready (rs := [0, 1]) (by kernel_rfl) (by simp) ?_
      refine AllReadyIn.cons rfl (fun K hK => ?_) (AllReadyIn.cons rfl (fun K hK => ?_) AllReadyIn.nil)
      · go_simp
        refine hK _ _ ?_
        clear hK K
        refine wpAnyIn_ready (rs := [1]) (by kernel_rfl) (by simp) ?_
        refine AllReadyIn.cons rfl (fun K hK => ?_) AllReadyIn.nil
        go_simp
        refine hK _ _ ?_
        clear hK K
        refine wpAnyIn_ready (rs := [2]) (by kernel_rfl) (by simp) ?_
        refine AllReadyIn.cons rfl (fun K hK => ?_) AllReadyIn.nil
        go_simp
        refine ⟨trivial, ?_⟩
        refine (CallsIn.inRound l (callsIn_wide.2 HOW.out)).mono ?_
        rintro e w4 ⟨v5, rfl, ho5, hb4⟩
        obtain ⟨a5, c5, rfl⟩ := owns_shape ho5
        obtain ⟨k3, V, hV1, hV2, hV3⟩ := rd_mid H3.out HF.out HRm.out GR.out hb4
        have c4 : w4.cell? ⟨w.heap.size + 1 + 1 + 1, 0, none⟩ = some v := k3.cell
        have c4' := cell_alloc' c4 (.cells #[.int .i64 (tg : Nat), .slice a5 fbs.length c5] 33)
        have hw4 : w.heap.size ≤ w4.heap.size := Nat.le_trans (Nat.le_of_lt (Nat.lt_of_le_of_lt (Nat.le_add_right _ _) k3.lt)) (Nat.le_refl _)
        have K3 := Lib.hid k3; have HV1 := Lib.hid hV1; have HV2 := Lib.hid hV2; have HV3 := Lib.hid hV3; have HO5 := Lib.hid ho5; have HB4 := Lib.hid hb4
        clear k3 hV1 hV2 hV3 ho5 hb4
        refine hK _ _ ?_
        clear hK K
        refine wpAnyIn_ready (rs := [3]) (by kernel_rfl) (by simp) ?_
        refine AllReadyIn.cons rfl (fun K hK => ?_) AllReadyIn.nil
        go_simp
        refine hK _ _ ?_
        clear hK K
        refine wpAnyIn_ready (rs := [4]) (by kernel_rfl) (by simp) ?_
        refine AllReadyIn.cons rfl (fun K hK => ?_) AllReadyIn.nil
        refine stepIn_appendF rfl (.tmp 25) (.tmp 28) rfl w.heap.size v pre.length _ (by first | rfl | simp [Act.eval, Act.put]) (by have := HV2.out.alloc (.cells #[.int .i64 (tg : Nat), .slice a5 fbs.length c5] 33); rwa [List.length_map] at this) ⟨w4.heap.size, 0, none⟩ 1 1 [.int .i64 (tg : Nat), .slice a5 fbs.length c5] (by first | rfl | simp [Act.eval, Act.put]) rfl (cell_two_new _ _ _ _) (by intro u hu; simp at hu; rcases hu with rfl | rfl <;> rfl) (by omega) (by simp; omega) ?_
        intro v' W5 hown' hgrow
        obtain ⟨g', cap', rfl⟩ := ownsRow_succ hown'
        have hfin := rd_end (B0 := W0.heap.size) HB.out I0.out I1.out I2.out I6.out HRm.out OK.out GR.out hn64 hm64 hcnt htk HR.out XE.out HB4.out HO5.out K3.out (by have := HV1.out; rwa [List.length_map] at this) (by have := HV2.out; rwa [List.length_map] at this) (by have := HV3.out; rwa [List.length_map] at this) hgrow hown'
        have c6 : W5.cell? ⟨w.heap.size + 1 + 1 + 1, 0, none⟩ = some v := hfin.1.cell
        have f6 : W5.frozen? ⟨w.heap.size + 1 + 1 + 1, 0, none⟩ = false := hfin.1.frozen
        have FIN := Lib.hid hfin.2
        clear hfin hown' hgrow
        refine hK _ _ ?_
        clear hK K
        refine wpAnyIn_ready (rs := [5]) (by kernel_rfl) (by simp) ?_
        refine AllReadyIn.cons rfl (fun K hK => ?_) AllReadyIn.nil
        go_simp
        refine hK _ _ ?_
        clear hK K
        refine wpAnyIn_done (by kernel_rfl) ?_ _
        gi_wp2
        exact ⟨FIN.out.1, FIN.out.2.1, FIN.out.2.2⟩
      · go_simp
        refine hK _ _ ?_
        clear hK K
        refine wpAnyIn_ready (rs := [0, 2]) (by kernel_rfl) (by simp) ?_
        refine AllReadyIn.cons rfl (fun K hK => ?_) (AllReadyIn.cons rfl (fun K hK => ?_) AllReadyIn.nil)
        · go_simp
          refine hK _ _ ?_
          clear hK K
          refine wpAnyIn_ready (rs := [2]) (by kernel_rfl) (by simp) ?_
          refine AllReadyIn.cons rfl (fun K hK => ?_) AllReadyIn.nil
          go_simp
          refine ⟨trivial, ?_⟩
          refine (CallsIn.inRound l (callsIn_wide.2 HOW.out)).mono ?_
          rintro e w4 ⟨v5, rfl, ho5, hb4⟩
          obtain ⟨a5, c5, rfl⟩ := owns_shape ho5
          obtain ⟨k3, V, hV1, hV2, hV3⟩ := rd_mid H3.out HF.out HRm.out GR.out hb4
          have c4 : w4.cell? ⟨w.heap.size + 1 + 1 + 1, 0, none⟩ = some v := k3.cell
          have c4' := cell_alloc' c4 (.cells #[.int .i64 (tg : Nat), .slice a5 fbs.length c5] 33)
          have hw4 : w.heap.size ≤ w4.heap.size := Nat.le_trans (Nat.le_of_lt (Nat.lt_of_le_of_lt (Nat.le_add_right _ _) k3.lt)) (Nat.le_refl _)
          have K3 := Lib.hid k3; have HV1 := Lib.hid hV1; have HV2 := Lib.hid hV2; have HV3 := Lib.hid hV3; have HO5 := Lib.hid ho5; have HB4 := Lib.hid hb4
          clear k3 hV1 hV2 hV3 ho5 hb4
          refine hK _ _ ?_
          clear hK K
          refine wpAnyIn_ready (rs := [3]) (by kernel_rfl) (by simp) ?_
          refine AllReadyIn.cons rfl (fun K hK => ?_) AllReadyIn.nil
          go_simp
          refine hK _ _ ?_
          clear hK K
          refine wpAnyIn_ready (rs := [4]) (by kernel_rfl) (by simp) ?_
          refine AllReadyIn.cons rfl (fun K hK => ?_) AllReadyIn.nil
          refine stepIn_appendF rfl (.tmp 25) (.tmp 28) rfl w.heap.size v pre.length _ (by first | rfl | simp [Act.eval, Act.put]) (by have := HV2.out.alloc (.cells #[.int .i64 (tg : Nat), .slice a5 fbs.length c5] 33); rwa [List.length_map] at this) ⟨w4.heap.size, 0, none⟩ 1 1 [.int .i64 (tg : Nat), .slice a5 fbs.length c5] (by first | rfl | simp [Act.eval, Act.put]) rfl (cell_two_new _ _ _ _) (by intro u hu; simp at hu; rcases hu with rfl | rfl <;> rfl) (by omega) (by simp; omega) ?_
          intro v' W5 hown' hgrow
          obtain ⟨g', cap', rfl⟩ := ownsRow_succ hown'
          have hfin := rd_end (B0 := W0.heap.size) HB.out I0.out I1.out I2.out I6.out HRm.out OK.out GR.out hn64 hm64 hcnt htk HR.out XE.out HB4.out HO5.out K3.out (by have := HV1.out; rwa [List.length_map] at this) (by have := HV2.out; rwa [List.length_map] at this) (by have := HV3.out; rwa [List.length_map] at this) hgrow hown'
          have c6 : W5.cell? ⟨w.heap.size + 1 + 1 + 1, 0, none⟩ = some v := hfin.1.cell
          have f6 : W5.frozen? ⟨w.heap.size + 1 + 1 + 1, 0, none⟩ = false := hfin.1.frozen
          have FIN := Lib.hid hfin.2
          clear hfin hown' hgrow
          refine hK _ _ ?_
          clear hK K
          refine wpAnyIn_ready (rs := [5]) (by kernel_rfl) (by simp) ?_
          refine AllReadyIn.cons rfl (fun K hK => ?_) AllReadyIn.nil
          go_simp
          refine hK _ _ ?_
          clear hK K
          refine wpAnyIn_done (by kernel_rfl) ?_ _
          gi_wp2
          exact ⟨FIN.out.1, FIN.out.2.1, FIN.out.2.2⟩
        · go_simp
          refine ⟨trivial, ?_⟩
          refine (CallsIn.inRound l (callsIn_wide.2 HOW.out)).mono ?_
          rintro e w4 ⟨v5, rfl, ho5, hb4⟩
          obtain ⟨a5, c5, rfl⟩ := owns_shape ho5
          obtain ⟨k3, V, hV1, hV2, hV3⟩ := rd_mid H3.out HF.out HRm.out GR.out hb4
          have c4 : w4.cell? ⟨w.heap.size + 1 + 1 + 1, 0, none⟩ = some v := k3.cell
          have c4' := cell_alloc' c4 (.cells #[.int .i64 (tg : Nat), .slice a5 fbs.length c5] 33)
          have hw4 : w.heap.size ≤ w4.heap.size := Nat.le_trans (Nat.le_of_lt (Nat.lt_of_le_of_lt (Nat.le_add_right _ _) k3.lt)) (Nat.le_refl _)
          have K3 := Lib.hid k3; have HV1 := Lib.hid hV1; have HV2 := Lib.hid hV2; have HV3 := Lib.hid hV3; have HO5 := Lib.hid ho5; have HB4 := Lib.hid hb4
          clear k3 hV1 hV2 hV3 ho5 hb4
          refine hK _ _ ?_
          clear hK K
          refine wpAnyIn_ready (rs := [0, 3]) (by kernel_rfl) (by simp) ?_
          refine AllReadyIn.cons rfl (fun K hK => ?_) (AllReadyIn.cons rfl (fun K hK => ?_) AllReadyIn.nil)
          · go_simp
            refine hK _ _ ?_
            clear hK K
            refine wpAnyIn_ready (rs := [3]) (by kernel_rfl) (by simp) ?_
            refine AllReadyIn.cons rfl (fun K hK => ?_) AllReadyIn.nil
            go_simp
            refine hK _ _ ?_
            clear hK K
            refine wpAnyIn_ready (rs := [4]) (by kernel_rfl) (by simp) ?_
            refine AllReadyIn.cons rfl (fun K hK => ?_) AllReadyIn.nil
            refine stepIn_appendF rfl (.tmp 25) (.tmp 28) rfl w.heap.size v pre.length _ (by first | rfl | simp [Act.eval, Act.put]) (by have := HV2.out.alloc (.cells #[.int .i64 (tg : Nat), .slice a5 fbs.length c5] 33); rwa [List.length_map] at this) ⟨w4.heap.size, 0, none⟩ 1 1 [.int .i64 (tg : Nat), .slice a5 fbs.length c5] (by first | rfl | simp [Act.eval, Act.put]) rfl (cell_two_new _ _ _ _) (by intro u hu; simp at hu; rcases hu with rfl | rfl <;> rfl) (by omega) (by simp; omega) ?_
            intro v' W5 hown' hgrow
            obtain ⟨g', cap', rfl⟩ := ownsRow_succ hown'
            have hfin := rd_end (B0 := W0.heap.size) HB.out I0.out I1.out I2.out I6.out HRm.out OK.out GR.out hn64 hm64 hcnt htk HR.out XE.out HB4.out HO5.out K3.out (by have := HV1.out; rwa [List.length_map] at this) (by have := HV2.out; rwa [List.length_map] at this) (by have := HV3.out; rwa [List.length_map] at this) hgrow hown'
            have c6 : W5.cell? ⟨w.heap.size + 1 + 1 + 1, 0, none⟩ = some v := hfin.1.cell
            have f6 : W5.frozen? ⟨w.heap.size + 1 + 1 + 1, 0, none⟩ = false := hfin.1.frozen
            have FIN := Lib.hid hfin.2
            clear hfin hown' hgrow
            refine hK _ _ ?_
            clear hK K
            refine wpAnyIn_ready (rs := [5]) (by kernel_rfl) (by simp) ?_
            refine AllReadyIn.cons rfl (fun K hK => ?_) AllReadyIn.nil
            go_simp
            refine hK _ _ ?_
            clear hK K
            refine wpAnyIn_done (by kernel_rfl) ?_ _
            gi_wp2
            exact ⟨FIN.out.1, FIN.out.2.1, FIN.out.2.2⟩
          · go_simp
            refine hK _ _ ?_
            clear hK K
            refine wpAnyIn_ready (rs := [0]) (by kernel_rfl) (by simp) ?_
            refine AllReadyIn.cons rfl (fun K hK => ?_) AllReadyIn.nil
            go_simp
            refine hK _ _ ?_
            clear hK K
            refine wpAnyIn_ready (rs := [4]) (by kernel_rfl) (by simp) ?_
            refine AllReadyIn.cons rfl (fun K hK => ?_) AllReadyIn.nil
            refine stepIn_appendF rfl (.tmp 25) (.tmp 28) rfl w.heap.size v pre.length _ (by first | rfl | simp [Act.eval, Act.put]) (by have := HV2.out.alloc (.cells #[.int .i64 (tg : Nat), .slice a5 fbs.length c5] 33); rwa [List.length_map] at this) ⟨w4.heap.size, 0, none⟩ 1 1 [.int .i64 (tg : Nat), .slice a5 fbs.length c5] (by first | rfl | simp [Act.eval, Act.put]) rfl (cell_two_new _ _ _ _) (by intro u hu; simp at hu; rcases hu with rfl | rfl <;> rfl) (by omega) (by simp; omega) ?_
            intro v' W5 hown' hgrow
            obtain ⟨g', cap', rfl⟩ := ownsRow_succ hown'
            have hfin := rd_end (B0 := W0.heap.size) HB.out I0.out I1.out I2.out I6.out HRm.out OK.out GR.out hn64 hm64 hcnt htk HR.out XE.out HB4.out HO5.out K3.out (by have := HV1.out; rwa [List.length_map] at this) (by have := HV2.out; rwa [List.length_map] at this) (by have := HV3.out; rwa [List.length_map] at this) hgrow hown'
            have c6 : W5.cell? ⟨w.heap.size + 1 + 1 + 1, 0, none⟩ = some v := hfin.1.cell
            have f6 : W5.frozen? ⟨w.heap.size + 1 + 1 + 1, 0, none⟩ = false := hfin.1.frozen
            have FIN := Lib.hid hfin.2
            clear hfin hown' hgrow
            refine hK _ _ ?_
            clear hK K
            refine wpAnyIn_ready (rs := [5]) (by kernel_rfl) (by simp) ?_
            refine AllReadyIn.cons rfl (fun K hK => ?_) AllReadyIn.nil
            go_simp
            refine hK _ _ ?_
            clear hK K
            refine wpAnyIn_done (by kernel_rfl) ?_ _
            gi_wp2
            exact ⟨FIN.out.1, FIN.out.2.1, FIN.out.2.2⟩
  case done =>
    rintro D ys W hD hys ⟨⟨i0, i1, i2, i6, ⟨nn, m, a, h5, hn64, hm64, hcnt, hrest⟩, v, h3, hF⟩, hB⟩ hK
    have hnone : readE bs = none := by
      have := hrest []
      rw [List.append_nil, hys] at this
      exact this
    have hV : readV bs = ys.map fun x => ylF x.yl := by unfold readV; rw [← hys, List.map_map]; rfl
    obtain ⟨va, vc, rfl⟩ : ∃ va vc, v = .slice va ys.length vc := by
      obtain ⟨V, -, h2, -⟩ := hF
      obtain ⟨a, c, e⟩ := owns_shape h2
      rw [List.length_map] at e
      exact ⟨a, c, e⟩
    have I0 := Lib.hid i0; have I1 := Lib.hid i1; have I2 := Lib.hid i2; have HF := Lib.hid hF; have HBB := Lib.hid hB; have HKK := Lib.hid hK; have HNn := Lib.hid hnone; have HVv := Lib.hid hV
    have c0 : W.cell? ⟨w.heap.size, 0, none⟩ = some (.slice none 0 0) := i0.cell
    have c1 : W.cell? ⟨w.heap.size + 1, 0, none⟩ = some (.int .i64 0) := i1.cell
    have c2 : W.cell? ⟨w.heap.size + 1 + 1, 0, none⟩ = some (.int .i64 0) := i2.cell
    have c3 : W.cell? ⟨w.heap.size + 1 + 1 + 1, 0, none⟩ = some (.slice va ys.length vc) := h3.cell
    have f0 : W.frozen? ⟨w.heap.size, 0, none⟩ = false := i0.frozen
    have f1 : W.frozen? ⟨w.heap.size + 1, 0, none⟩ = false := i1.frozen
    have f2 : W.frozen? ⟨w.heap.size + 1 + 1, 0, none⟩ = false := i2.frozen
    have hD8 : w.heap.size + 7 ≤ D := by omega
    clear i0 i1 i2 i6 h5 hrest h3 hF hB hK hnone hV b0 b1 b2 b3 b5 b6 hB0 hI0 hrow hys
    gi_wp2
    have k0 : Boxed (((W.setCell ⟨w.heap.size, 0, none⟩ (.slice va ys.length vc)).setCell ⟨w.heap.size + 1, 0, none⟩ (.int .i64 0)).setCell ⟨w.heap.size + 1 + 1, 0, none⟩ (.int .i64 0)) w.heap.size 31 (.slice va ys.length vc) := ((I0.out.set _).other (by omega) _).other (by omega) _
    have k1 : Boxed (((W.setCell ⟨w.heap.size, 0, none⟩ (.slice va ys.length vc)).setCell ⟨w.heap.size + 1, 0, none⟩ (.int .i64 0)).setCell ⟨w.heap.size + 1 + 1, 0, none⟩ (.int .i64 0)) (w.heap.size + 1) 3 (.int .i64 0) := ((I1.out.other (by omega) _).set _).other (by omega) _
    have k2 : Boxed (((W.setCell ⟨w.heap.size, 0, none⟩ (.slice va ys.length vc)).setCell ⟨w.heap.size + 1, 0, none⟩ (.int .i64 0)).setCell ⟨w.heap.size + 1 + 1, 0, none⟩ (.int .i64 0)) (w.heap.size + 1 + 1) 53 (.int .i64 0) := ((I2.out.other (by omega) _).other (by omega) _).set _
    have hF1 : FOwn (W.setCell ⟨w.heap.size, 0, none⟩ (.slice va ys.length vc)) w.heap.size (.slice va ys.length vc) (ys.map fun x => ylF x.yl) := HF.out.keep (grownBy_setCell' _ _ _) fun r c t e hh => by
      cases e; rw [show W.heap[w.heap.size]? = _ from I0.out] at hh; cases hh; exact ⟨by decide, by decide⟩
    have hF2 : FOwn ((W.setCell ⟨w.heap.size, 0, none⟩ (.slice va ys.length vc)).setCell ⟨w.heap.size + 1, 0, none⟩ (.int .i64 0)) w.heap.size (.slice va ys.length vc) (ys.map fun x => ylF x.yl) := hF1.keep (grownBy_setCell' _ _ _) fun r c t e hh => by
      cases e; rw [show (W.setCell ⟨w.heap.size, 0, none⟩ (.slice va ys.length vc)).heap[w.heap.size + 1]? = _ from I1.out.other (by omega) _] at hh; cases hh; exact ⟨by decide, by decide⟩
    have hF3 : FOwn (((W.setCell ⟨w.heap.size, 0, none⟩ (.slice va ys.length vc)).setCell ⟨w.heap.size + 1, 0, none⟩ (.int .i64 0)).setCell ⟨w.heap.size + 1 + 1, 0, none⟩ (.int .i64 0)) w.heap.size (.slice va ys.length vc) (ys.map fun x => ylF x.yl) := hF2.keep (grownBy_setCell' _ _ _) fun r c t e hh => by
      cases e; rw [show ((W.setCell ⟨w.heap.size, 0, none⟩ (.slice va ys.length vc)).setCell ⟨w.heap.size + 1, 0, none⟩ (.int .i64 0)).heap[w.heap.size + 1 + 1]? = _ from (I2.out.other (by omega) _).other (by omega) _] at hh; cases hh; exact ⟨by decide, by decide⟩
    have hB4 : Below w.heap.size w (((W.setCell ⟨w.heap.size, 0, none⟩ (.slice va ys.length vc)).setCell ⟨w.heap.size + 1, 0, none⟩ (.int .i64 0)).setCell ⟨w.heap.size + 1 + 1, 0, none⟩ (.int .i64 0)) := ((HBB.out.setCell (p := ⟨w.heap.size, 0, none⟩) (Nat.le_refl _) _).setCell (p := ⟨w.heap.size + 1, 0, none⟩) (by simp) _).setCell (p := ⟨w.heap.size + 1 + 1, 0, none⟩) (by simp; omega) _
    have hK' := (((KeepsOthers.setCell W ⟨w.heap.size, 0, none⟩ (.slice va ys.length vc)).trans (KeepsOthers.setCell _ ⟨w.heap.size + 1, 0, none⟩ (.int .i64 0))).trans (KeepsOthers.setCell _ ⟨w.heap.size + 1 + 1, 0, none⟩ (.int .i64 0))).same D _ HKK.out rfl
    generalize (((W.setCell ⟨w.heap.size, 0, none⟩ (.slice va ys.length vc)).setCell ⟨w.heap.size + 1, 0, none⟩ (.int .i64 0)).setCell ⟨w.heap.size + 1 + 1, 0, none⟩ (.int .i64 0)) = W6 at *
    refine ⟨by simp, .inl ⟨_, _, rfl, run_takeDeferred hK', ?_⟩⟩
    have hc0 := cell_kept k0.cell (grownBy_putObj' _ D (.deferred none)) (fun r e => by cases e; exact ⟨_, hK', rfl⟩)
    have hc1 := cell_kept k1.cell (grownBy_putObj' _ D (.deferred none)) (fun r e => by cases e; exact ⟨_, hK', rfl⟩)
    have hc2 := cell_kept k2.cell (grownBy_putObj' _ D (.deferred none)) (fun r e => by cases e; exact ⟨_, hK', rfl⟩)
    refine ⟨.tuple #[.slice va ys.length vc, .int .i64 0, .int .i64 0], ?_, hB4.trans (belowK_b (w := w) (Nat.le_refl _) _ D _ _ (by omega) hK' rfl rfl), .inr ⟨HNn.out, _, rfl, ?_⟩⟩
    · simp [results, Try.f85, go_sem, hc0, hc1, hc2]
    · rw [HVv.out]
      exact hF3.own (grownBy_putObj' _ D (.deferred none)) (fun r e => by cases e; exact ⟨_, hK', rfl⟩)
  case stop =>
    rintro D c pre W hD hpre ⟨⟨rfl, ini, last, nn, m, a, rfl, hrest, htk, x0, x1, x2⟩, hB⟩ hK
    have hsome : readE bs = some last.1.1 := by
      obtain ⟨t, ht⟩ := hpre
      have e : fsq bs = ini.map Yv.yl ++ (last.yl :: t) := by rw [← ht]; simp
      unfold readE
      rw [e, hrest]
      unfold rdRes
      rw [if_neg (by intro e2; rw [show takeOk nn m a (last.yl.2.1 : Nat) last.yl.2.2.length = false from htk] at e2; cases e2)]
      rfl
    gi_wp2
    refine ⟨by simp, .inl ⟨_, _, rfl, run_takeDeferred hK, ?_⟩⟩
    have hc0 := cell_kept x0.cell (grownBy_putObj' _ D (.deferred none)) (fun r e => by cases e; exact ⟨_, hK, rfl⟩)
    have hc1 := cell_kept x1.cell (grownBy_putObj' _ D (.deferred none)) (fun r e => by cases e; exact ⟨_, hK, rfl⟩)
    have hc2 := cell_kept x2.cell (grownBy_putObj' _ D (.deferred none)) (fun r e => by cases e; exact ⟨_, hK, rfl⟩)
    refine ⟨.tuple #[.slice none 0 0, .int .i64 (last.1.1 : Nat), .int .i64 21], ?_, hB.trans (belowK_b (w := w) (Nat.le_refl _) _ D _ _ (by omega) hK rfl rfl), .inl ⟨_, hsome, rfl⟩⟩
    simp [results, Try.f85, go_sem, hc0, hc1, hc2]

/-- field.Read, at any bytes that are not too many. -/
theorem fieldRead_calls (v : Value) (bs : List Nat) (w : World) (hrow : BRow w v bs) (hlen : bs.length ≤ 16768) :
    Calls Try.prog 85 #[v] w fun e W' => Below w.heap.size w W' ∧ ((∃ at0, readE bs = some at0 ∧ e = .returned (.tuple #[.slice none 0 0, .int .i64 (at0 : Nat), .int .i64 21])) ∨ (readE bs = none ∧ ∃ v', e = .returned (.tuple #[v', .int .i64 0, .int .i64 0]) ∧ FOwn W' w.heap.size v' (readV bs))) :=
  (callsIn_wide (n := 3)).1 (fieldRead_in 3 (by omega) v bs w hrow hlen)
end Go.Proofs.Yteaeedhhdnkldaa
