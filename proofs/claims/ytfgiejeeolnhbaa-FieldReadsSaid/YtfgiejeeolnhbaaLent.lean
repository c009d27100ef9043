/-
  CONTRACTS of fermatakit.markByte, LentBytes and KeptBytes: a copy with marks behind it, and whether it is as it was.
-/
import Derived.Test.YtfgiejeeolnhbaaNumAppendF
import Derived.Test.YtfgiejeeolnhbaaAwake01
import Derived.BigQuiet
import Derived.Deep.RegionLaw
namespace Go.Proofs.Ytfgiejeeolnhbaa
open Go.RowKit Pl

/-- The mark at a place behind a lent slice of bytes. -/
def mkB (i : Nat) : Nat := (8000024 + i) * 11400714819323198485 % 18446744073709551616 / 72057594037927936
theorem mkB_lt (i : Nat) : mkB i < 256 := by unfold mkB; omega

set_option maxRecDepth 100000 in
set_option maxHeartbeats 400000 in
theorem mark_calls (i : Nat) (w : World) (hi : i < 1000) : Calls Try.prog 91 #[.int .i64 1, .int .i64 i] w fun e w' => e = .returned (.int .i64 (8000024 + (i : Int))) ∧ w = w' := by
  go_enter Try.func91, Try.ntmps91
  go_wp2
  go_ret
  exact ⟨rfl, rfl⟩

set_option maxRecDepth 100000 in
set_option maxHeartbeats 400000 in
theorem markByte_calls (i : Nat) (w : World) (hi : i < 1000) : Calls Try.prog 77 #[.int .i64 1, .int .i64 i] w fun e w' => e = .returned (.int .u8 (mkB i : Nat)) ∧ w = w' := by
  go_enter Try.func77, Try.ntmps77
  go_wp2_with (go_at_call 91; refine (mark_calls i _ hi).mono ?_; rintro e w' ⟨rfl, rfl⟩)
  go_ret
  refine ⟨ret_int ?_, rfl⟩
  rw [IntKind.wrap_u64, mkB, Int.natCast_ediv, Int.natCast_emod, Int.natCast_mul, Int.natCast_add]
  rw [show ((8000024 : Nat) : Int) = 8000024 from rfl, show ((11400714819323198485 : Nat) : Int) = 11400714819323198485 from rfl, show ((18446744073709551616 : Nat) : Int) = 18446744073709551616 from rfl, show ((72057594037927936 : Nat) : Int) = 72057594037927936 from rfl]
  omega

/-- append within the capacity: the value is known. -/
theorem wpList_fits8 {ops : Array Oper} {rest : List Oper} {o : Oper} {a : Act} {w : World} {Q : Exit → Act → World → Prop} (hgd : o.guard = none) (s x : Operand)
    (ho : o.op = .call { callee := .builtin .append, args := #[s, x], argTypes := #[22, 22] })
    (base g cap : Nat) (l : List Nat) (hs : a.eval s = .slice (some ⟨g, 0, none⟩) l.length cap) (hown : Own8 w base (.slice (some ⟨g, 0, none⟩) l.length cap) l) (xv : Value) (m : List Nat) (hx : a.eval x = xv) (hrow : BRow w xv m)
    (hl : l.length + m.length ≤ cap)
    (h : ∀ w', Own8 w' base (.slice (some ⟨g, 0, none⟩) (l ++ m).length cap) (l ++ m) → w.grownBy w' (some g) → wpList Try.prog ops Q rest (a.put o.dst (.slice (some ⟨g, 0, none⟩) (l ++ m).length cap)) w') : wpList Try.prog ops Q (o :: rest) a w :=
  wpList_plain hgd fun K hK => by
    obtain ⟨i0, hi, hz0, hz1, hz2⟩ := info_parts info_u8
    have key : ∃ w', (Builtin.append_ #[22, 22] o.type #[.slice (some ⟨g, 0, none⟩) l.length cap, xv]).run Try.prog w = .ok (.slice (some ⟨g, 0, none⟩) (l ++ m).length cap) w' ∧ Own8 w' base (.slice (some ⟨g, 0, none⟩) (l ++ m).length cap) (l ++ m) ∧ w.grownBy w' (some g) := by
      have fin : ∀ (ad : Addr) (c : Nat), xv = .slice (some ad) m.length c → (∀ j u, (m.map B8)[j]? = some u → w.cell? (ad.add j) = some u) → ∃ w', (Builtin.append_ #[22, 22] o.type #[.slice (some ⟨g, 0, none⟩) l.length cap, xv]).run Try.prog w = .ok (.slice (some ⟨g, 0, none⟩) (l ++ m).length cap) w' ∧ Own8 w' base (.slice (some ⟨g, 0, none⟩) (l ++ m).length cap) (l ++ m) ∧ w.grownBy w' (some g) := by
        rintro ad c rfl hcells
        obtain ⟨w', hr, h2, h3⟩ := run_append_fits (P := Try.prog) w base 22 o.type 5 i0 1 Try.underlying22 hi hz1 g l.length cap (l.map B8) hown ad m.length c (m.map B8) (by simp) hcells (B8_one m) hl
        refine ⟨w', ?_, ?_, h3⟩
        · rw [List.length_append]; exact hr
        · unfold Own8; rw [List.length_append, List.map_append]; exact h2
      obtain ⟨_, ⟨a', c, rfl, rfl, hc⟩ | ⟨b, off, cap', rfl, h1, h2, h3⟩⟩ := hrow
      · cases a' with
        | some ad => exact fin ad c rfl (fun j u hu => by simp at hu)
        | none =>
          refine ⟨w, ?_, by simpa using hown, ⟨rfl, rfl, rfl, Nat.le_refl _, fun _ _ _ => rfl⟩⟩
          have hnc : l.length ≤ cap := by omega
          simp [Builtin.append_, run_underlying Try.underlying22, sizeOf, typeInfo, hi, Builtin.lenOf, Builtin.firstCells, hnc, storeCells]
      · exact fin ⟨b, off, none⟩ cap' rfl (brow_cells h3)
    obtain ⟨w', hr, h2, h3⟩ := key
    unfold Oper.wp execOp
    simp only [ho, resolve, invoke, builtin, Sem.run_bind, Sem.run_pure, Result.andThen_ok, List.map_toArray, List.map_cons, List.map_nil, hs, hx, hr]
    exact hK _ _ (h w' h2 h3)

theorem wpList_fits8n {ops : Array Oper} {rest : List Oper} {o : Oper} {a : Act} {w : World} {Q : Exit → Act → World → Prop} (hgd : o.guard = none) (s x : Operand)
    (ho : o.op = .call { callee := .builtin .append, args := #[s, x], argTypes := #[22, 22] })
    (base g cap n n' : Nat) (l : List Nat) (hs : a.eval s = .slice (some ⟨g, 0, none⟩) n cap) (hown : Own8 w base (.slice (some ⟨g, 0, none⟩) n cap) l) (xv : Value) (m : List Nat) (hx : a.eval x = xv) (hrow : BRow w xv m)
    (hn : n = l.length) (hn' : n' = n + m.length) (hl : n' ≤ cap)
    (h : ∀ w', Own8 w' base (.slice (some ⟨g, 0, none⟩) n' cap) (l ++ m) → w.grownBy w' (some g) → wpList Try.prog ops Q rest (a.put o.dst (.slice (some ⟨g, 0, none⟩) n' cap)) w') : wpList Try.prog ops Q (o :: rest) a w := by
  subst hn
  have e : n' = (l ++ m).length := by rw [List.length_append]; exact hn'
  subst e
  exact wpList_fits8 hgd s x ho base g cap l hs hown xv m hx hrow (by simpa using hl) h

def marks (k : Nat) : List Nat := (List.range k).map mkB
theorem marks_succ (k : Nat) : marks (k + 1) = marks k ++ [mkB k] := by simp [marks, List.range_succ]
theorem marks_length (k : Nat) : (marks k).length = k := by simp [marks]
theorem marks_allB (k : Nat) : AllB (marks k) := by
  intro d hd
  simp only [marks, List.mem_map] at hd
  obtain ⟨i, _, rfl⟩ := hd
  exact mkB_lt i

set_option maxRecDepth 100000 in
set_option maxHeartbeats 2000000 in
theorem lentBytes_calls (v : Value) (l : List Nat) (w : World) (h : BRow w v l) (hl : l.length ≤ 1000) :
    Calls Try.prog 34 #[v] w fun e w' => ∃ g, e = .returned (.slice (some ⟨g, 0, none⟩) l.length (l.length + 12)) ∧ BRow w' (.slice (some ⟨g, 0, none⟩) (l.length + 12) (l.length + 12)) (l ++ marks 12) ∧ Below w.heap.size w w' := by
  obtain ⟨i0, hi, hz0, hz1, hz2⟩ := info_parts info_u8
  have hI := Lib.hid hi
  have hZ0 := Lib.hid hz0
  have hZ1 := Lib.hid hz1
  have hZ2 := Lib.hid hz2
  clear hi hz0 hz1 hz2
  have hrow := Lib.hid h
  obtain ⟨a, cap, rfl⟩ := h.shape
  clear h
  go_enter Try.func34, Try.ntmps34
  go_wp2_with (first
    | (at_make; refine wpList_make_own _ rfl _ _ 22 rfl w.heap.size 5 i0 (.int .u8 0) 1 Try.underlying22 hI.out hZ0.out hZ1.out .i64 .i64 ((l.length : Int) + 12) (l.length + 12) rfl rfl (by omega) (by rw [hZ2.out]; omega) (by unfold maxLen; omega) (Nat.le_refl _) ?_; intro w1 hown1 hgrow1; have HO1 := Lib.hid hown1; have HB1 := Lib.hid (grown_none_below hgrow1); clear hown1 hgrow1)
    | (at_builtin; refine wpList_fits8 rfl (.tmp 9) (.tmp 10) rfl w.heap.size w.heap.size (l.length + 12) [] rfl HO1.out _ l rfl (hrow.out.below HB1.out) (by simp) ?_; intro w2 hown2 hgrow2; have HO2 := Lib.hid hown2; have HB2 := Lib.hid (HB1.out.grown hgrow2 HB1.out.size (fun k e => by cases e; exact Nat.le_refl _)); clear hown2 hgrow2)
    | fail)
  go_loopw [3, 4] (fun o i wr => ∃ k : Nat, k ≤ 12 ∧ i = .int .i64 k ∧ o = .slice (some ⟨w.heap.size, 0, none⟩) (l.length + k) (l.length + 12) ∧ Own8 wr w.heap.size (.slice (some ⟨w.heap.size, 0, none⟩) (l.length + k) (l.length + 12)) (l ++ marks k) ∧ Below w.heap.size w wr) (fun _ i _ => 12 - (intOf i).toNat)
  case atStart => exact ⟨0, by omega, rfl, rfl, by simpa [marks] using HO2.out, HB2.out⟩
  case round =>
    obtain ⟨k, hk, rfl, rfl, hown, hbel⟩ := hrel
    have HO := Lib.hid hown
    have HB := Lib.hid hbel
    have hsz := hbel.size
    clear hown hbel
    have hmk : AllB [mkB k] := by intro d hd; simp only [List.mem_singleton] at hd; subst hd; exact mkB_lt k
    have hle1 : [mkB k].length ≤ 1000 := by simp
    have HLN := Lib.hid (show l.length + k = (l ++ marks k).length by rw [List.length_append, marks_length])
    have hnx : l ++ marks k ++ [mkB k] = l ++ marks (k + 1) := by rw [marks_succ, List.append_assoc]
    have HNX := Lib.hid hnx
    clear hnx
    by_cases hlt : k < 12
    · go_wp2_with (first
        | (go_at_call 77; refine (markByte_calls k _ (by omega)).mono ?_; rintro e w' ⟨rfl, rfl⟩)
        | (at_builtin; refine wpList_fits8n rfl (.tmp 16) (.tmp 19) rfl w.heap.size w.heap.size (l.length + 12) (l.length + k) (l.length + (k + 1)) (l ++ marks k) rfl (HO.out.alloc _) _ [mkB k] rfl (BRow.lit _ _ _ hmk hle1) HLN.out rfl (by omega) ?_; intro w3 hown3 hgrow3; have HO3 := Lib.hid hown3; have HB3 := Lib.hid ((HB.out.alloc HB.out.size _).grown hgrow3 (by have := HB.out.size; simp; omega) (fun j hj => by cases hj; exact Nat.le_refl _)); clear hown3 hgrow3)
        | fail)
      go_roundw
      case rel => exact ⟨k + 1, by omega, by go_num, rfl, by rw [← HNX.out]; exact HO3.out, HB3.out⟩
      case measure => simp [intOf]; omega
    · obtain rfl : k = 12 := by omega
      have hall : AllB (l ++ marks 12) := by
        intro d hd
        rw [List.mem_append] at hd
        exact hd.elim (hrow.out.1 d) (marks_allB 12 d)
      have HR := Lib.hid (show BRow wr (.slice (some ⟨w.heap.size, 0, none⟩) (l.length + 12) (l.length + 12)) (l ++ marks 12) from BRow.of_own HO.out hall)
      clear hall
      go_wp2
      go_ret
      exact ⟨_, rfl, HR.out, HB.out⟩
end Go.Proofs.Ytfgiejeeolnhbaa
