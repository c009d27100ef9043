/-
  CONTRACTS of field.unsuited, field.missing and field.Suit: whether fields suit wants; nothing that was there is written.
-/
import Derived.Test.YtlohggdabpfkhaaFieldWants
namespace Go.Proofs.Ytlohggdabpfkhaa
open Go.RowKit Pl

theorem eq_want (a : Int) (b : Bool) (c d : Int) (W : World) : (binOp .eql 32 (.agg #[.int .i64 a, .bool b, .int .i64 c, .int .i64 d]) (.agg #[.int .i64 0, .bool false, .int .i64 0, .int .i64 0])).run Try.prog W = .ok (.bool (decide ((⟨a, b, c, d⟩ : Wnt) = wz))) W := by
  have u3 := Try.underlying3
  have u4 := Try.underlying4
  have a3 := Try.isAgg3
  have z3 := Try.sizeOf3
  have a4 := Try.isAgg4
  have z4 := Try.sizeOf4
  have hS : Try.prog.underlying 32 = some (.struct (Try.prog.fieldsOf 32)) := by kernel_rfl
  have hp : Try.prog.stoodInHeld 32 = false := by kernel_rfl
  rw [run_eql_struct, show (10000 : Nat) = 9999 + 1 from rfl, run_equalIn_agg W 9999 32 _ _ hS hp]
  simp only [Program.fieldsOf, Try.underlying32]
  go_simp
  have e : ((⟨a, b, c, d⟩ : Wnt) = wz) ↔ a = 0 ∧ b = false ∧ c = 0 ∧ d = 0 := by simp [wz]
  by_cases h1 : a = 0 <;> by_cases h2 : b = false <;> by_cases h3 : c = 0 <;> by_cases h4 : d = 0 <;> simp_all
theorem guard_want (x y : Operand) (xs ys : Array Value) (W : World) : (eqGuard .eql 32 x y (.agg xs) (.agg ys)).run Try.prog W = .ok () W := run_eqGuard_agg W _ _ _ _ _ _ (by kernel_rfl)

/-- The first field that does not suit, and why. -/
def unsF (W : List Wnt) : List Fld → Option (Int × Nat)
  | [] => none
  | p :: L => if findW p.1 W = wz then some (p.1, 23) else if (p.2.length : Int) < (findW p.1 W).least ∨ (findW p.1 W).most < (p.2.length : Int) then some (p.1, 24) else unsF W L
theorem unsF_step (W : List Wnt) (L : List Fld) (k : Nat) (hk : k < L.length) : unsF W (L.drop k) = if findW (ft L k) W = wz then some (ft L k, 23) else if ((fb L k).length : Int) < (findW (ft L k) W).least ∨ (findW (ft L k) W).most < ((fb L k).length : Int) then some (ft L k, 24) else unsF W (L.drop (k + 1)) := by
  rw [List.drop_eq_getElem_cons hk]
  simp [unsF, ft, fb, List.getD_eq_getElem?_getD, hk]
/-- What a function that looks for a fault returns. -/
def twoV (r : Option (Int × Nat)) : Value := match r with
  | none => .tuple #[.int .i64 0, .int .i64 0]
  | some (t, e) => .tuple #[.int .i64 t, .int .i64 (e : Nat)]

set_option maxRecDepth 100000 in
set_option maxHeartbeats 2000000 in
theorem unsuited_calls (v u : Value) (L : List Fld) (M : List Wnt) (w : World) (h : FRow w v L) (h2 : WRow w u M) :
    Calls Try.prog 74 #[v, u] w fun e w' => e = .returned (twoV (unsF M L)) ∧ Below w.heap.size w w' := by
  have HW := Lib.hid (fun t W (hb : Below w.heap.size w W) => wanted_calls u M t W (h2.below hb))
  clear h2
  obtain ⟨ht, ⟨a, c, rfl, rfl, -⟩ | ⟨b, off, cap, A, C, rfl, hc, hm, hcell⟩⟩ := h
  · go_enter Try.func74, Try.ntmps74
    go_wp2
    go_loopw [11] (fun i wr => i = .int .i64 0 ∧ Below w.heap.size w wr) (fun i _ => 0)
    case atStart => exact ⟨rfl, Below.refl _ _⟩
    case round =>
      obtain ⟨rfl, hbel⟩ := hrel
      go_wp2
      go_ret2
      exact ⟨rfl, hbel⟩
  · have HC := Lib.hid hcell
    have hcs : (L.length : Int) ≤ 9223372036854775807 := by unfold maxLen at hm; omega
    clear hcell hm ht
    have q1 := eq_want
    have q2 := guard_want
    go_enter Try.func74, Try.ntmps74
    go_wp2
    go_loopw [11] (fun i wr => ∃ k, k ≤ L.length ∧ i = .int .i64 (k : Nat) ∧ unsF M (L.drop k) = unsF M L ∧ Below w.heap.size w wr) (fun i _ => L.length - (intOf i).toNat)
    case atStart => exact ⟨0, Nat.zero_le _, rfl, rfl, Below.refl _ _⟩
    case round =>
      obtain ⟨k, hk, rfl, hfd, hbel⟩ := hrel
      have HFd := Lib.hid hfd
      have HB := Lib.hid hbel
      by_cases hlt : k < L.length
      · obtain ⟨c1, c2, -⟩ := HC.out k hlt
        have HS := Lib.hid (unsF_step M L k hlt)
        generalize A k = A1 at c2
        generalize C k = C1 at c2
        have c1' := (hbel.cell (p := ⟨b, off + k * 2, none⟩) (block_lt_of_cell c1)).trans c1
        have c2' := (hbel.cell (p := ⟨b, off + k * 2 + 1, none⟩) (block_lt_of_cell c2)).trans c2
        generalize ft L k = t at *
        generalize fb L k = bs at *
        clear c1 c2 hbel hfd
        have hA := HB.out.alloc HB.out.size (.cells #[.int .i64 t, .slice A1 bs.length C1] 25)
        have HCall := Lib.hid (HW.out t _ hA)
        have HA := Lib.hid hA
        have HN := Lib.hid (World.alloc_heap_new wr (.cells #[.int .i64 t, .slice A1 bs.length C1] 25))
        clear hA
        obtain ⟨q, hq⟩ : ∃ q, findW t M = q := ⟨_, rfl⟩
        rw [hq] at HCall HS
        obtain ⟨tg, mu, le, mo⟩ := q
        unfold encW at HCall
        dsimp only at HCall HS
        clear hq
        obtain ⟨z, hz⟩ : ∃ z, decide ((⟨tg, mu, le, mo⟩ : Wnt) = wz) = z := ⟨_, rfl⟩
        have q3 := fun W => eq_want tg mu le mo W
        rw [hz] at q3
        clear q1
        go_wp2_with (go_at_call 113; refine HCall.out.mono ?_; rintro e w3 ⟨rfl, hb3⟩; have hN3 := (hb3.block wr.heap.size (by simp)).trans HN.out; have e0 : w3.cell? ⟨wr.heap.size, 0, none⟩ = some (.int .i64 t) := (by simp [World.cell?, hN3]); have e1 : w3.cell? ⟨wr.heap.size, 1, none⟩ = some (.slice A1 bs.length C1) := (by simp [World.cell?, hN3]); have hl3 : wr.heap.size < w3.heap.size := (Array.getElem?_eq_some_iff.1 hN3).1; have HB3 := Lib.hid (HA.out.trans (hb3.mono HA.out.size)); clear hb3 hN3)
        case roundEnd =>
          have hz2 : z = false := by assumption
          subst hz2
          have hn := of_decide_eq_false hz
          go_roundw
          case rel => exact ⟨k + 1, by omega, by go_num, by rw [← HFd.out, HS.out, if_neg hn, if_neg (by omega)], HB3.out.alloc HB3.out.size _⟩
          case measure => simp [intOf]; omega
        all_goals go_ret2
        · have hz2 : z = true := by assumption
          subst hz2
          exact ⟨by rw [← HFd.out, HS.out, if_pos (of_decide_eq_true hz)]; rfl, HB3.out.alloc HB3.out.size _⟩
        all_goals
          have hz2 : z = false := by assumption
          subst hz2
          have hn := of_decide_eq_false hz
          exact ⟨by rw [← HFd.out, HS.out, if_neg hn, if_pos (by omega)]; rfl, HB3.out.alloc HB3.out.size _⟩
      · obtain rfl : k = L.length := by omega
        clear hfd hbel
        go_wp2
        go_ret2
        exact ⟨by rw [← HFd.out, List.drop_length]; rfl, HB.out⟩

/-- The first want that must have a field and has none. -/
def misF (F : List Fld) : List Wnt → Option (Int × Nat)
  | [] => none
  | p :: L => if p.must = true ∧ placeF F p.tag < 0 then some (p.tag, 25) else misF F L
theorem misF_step (F : List Fld) (L : List Wnt) (k : Nat) (hk : k < L.length) : misF F (L.drop k) = if (wg L k).must = true ∧ placeF F (wg L k).tag < 0 then some ((wg L k).tag, 25) else misF F (L.drop (k + 1)) := by
  rw [List.drop_eq_getElem_cons hk]
  simp [misF, wg, List.getD_eq_getElem?_getD, hk]

set_option maxRecDepth 100000 in
set_option maxHeartbeats 2000000 in
theorem missing_calls (v u : Value) (F : List Fld) (L : List Wnt) (w : World) (h : FRow w v F) (h2 : WRow w u L) :
    Calls Try.prog 75 #[v, u] w fun e w' => e = .returned (twoV (misF F L)) ∧ Below w.heap.size w w' := by
  have HPl := Lib.hid (fun t W (hb : Below w.heap.size w W) => place_calls t v F W (h.below hb))
  clear h
  obtain ⟨a, c, rfl, rfl, -⟩ | ⟨b, off, cap, rfl, hc, hm, hcell⟩ := h2
  · go_enter Try.func75, Try.ntmps75
    go_wp2
    go_loopw [10] (fun i wr => i = .int .i64 0 ∧ Below w.heap.size w wr) (fun i _ => 0)
    case atStart => exact ⟨rfl, Below.refl _ _⟩
    case round =>
      obtain ⟨rfl, hbel⟩ := hrel
      go_wp2
      go_ret2
      exact ⟨rfl, hbel⟩
  · have HC := Lib.hid hcell
    have hcs : (L.length : Int) ≤ 9223372036854775807 := by unfold maxLen at hm; omega
    clear hcell hm
    go_enter Try.func75, Try.ntmps75
    go_wp2
    go_loopw [10] (fun i wr => ∃ k, k ≤ L.length ∧ i = .int .i64 (k : Nat) ∧ misF F (L.drop k) = misF F L ∧ Below w.heap.size w wr) (fun i _ => L.length - (intOf i).toNat)
    case atStart => exact ⟨0, Nat.zero_le _, rfl, rfl, Below.refl _ _⟩
    case round =>
      obtain ⟨k, hk, rfl, hfd, hbel⟩ := hrel
      have HFd := Lib.hid hfd
      have HB := Lib.hid hbel
      by_cases hlt : k < L.length
      · obtain ⟨c0, c1, c2, c3⟩ := HC.out k hlt
        have c0' := (hbel.cell (p := ⟨b, _, none⟩) (block_lt_of_cell c0)).trans c0
        have c1' := (hbel.cell (p := ⟨b, _, none⟩) (block_lt_of_cell c1)).trans c1
        have c2' := (hbel.cell (p := ⟨b, _, none⟩) (block_lt_of_cell c2)).trans c2
        have c3' := (hbel.cell (p := ⟨b, _, none⟩) (block_lt_of_cell c3)).trans c3
        have HS := Lib.hid (misF_step F L k hlt)
        generalize wg L k = p at *
        obtain ⟨tg, mu, le, mo⟩ := p
        dsimp only at c0' c1' c2' c3' HS
        clear c0 c1 c2 c3 hbel hfd
        have hA := HB.out.alloc HB.out.size (.cells #[.int .i64 tg, .bool mu, .int .i64 le, .int .i64 mo] 32)
        have HCall := Lib.hid (HPl.out tg _ hA)
        have HA := Lib.hid hA
        have HN := Lib.hid (World.alloc_heap_new wr (.cells #[.int .i64 tg, .bool mu, .int .i64 le, .int .i64 mo] 32))
        clear hA
        generalize placeF F tg = pl at *
        cases mu with
        | false =>
          go_wp2_with fail
          go_roundw
          case rel => exact ⟨k + 1, by omega, by go_num, by rw [← HFd.out, HS.out, if_neg (by simp)], HA.out⟩
          case measure => simp [intOf]; omega
        | true =>
          go_wp2_with (go_at_call 100; refine HCall.out.mono ?_; rintro e w3 ⟨rfl, hb3⟩; have hN3 := (hb3.block wr.heap.size (by simp)).trans HN.out; have e0 : w3.cell? ⟨wr.heap.size, 0, none⟩ = some (.int .i64 tg) := (by simp [World.cell?, hN3]); have HB3 := Lib.hid (HA.out.trans (hb3.mono HA.out.size)); clear hb3 hN3)
          case roundEnd =>
            go_roundw
            case rel => exact ⟨k + 1, by omega, by go_num, by rw [← HFd.out, HS.out, if_neg (by omega)], HB3.out⟩
            case measure => simp [intOf]; omega
          go_ret2
          exact ⟨by rw [← HFd.out, HS.out, if_pos ⟨trivial, by omega⟩]; rfl, HB3.out⟩
      · obtain rfl : k = L.length := by omega
        clear hfd hbel
        go_wp2
        go_ret2
        exact ⟨by rw [← HFd.out, List.drop_length]; rfl, HB.out⟩

/-- What Suit says. -/
def suitF (F : List Fld) (L : List Wnt) : Option (Int × Nat) :=
  if rightF F = false then some (0, 20) else if rightW L = false then some (0, 22) else match unsF L F with
    | some r => some r
    | none => misF F L
theorem unsF_code (W : List Wnt) (L : List Fld) : ∀ t e, unsF W L = some (t, e) → e = 23 ∨ e = 24 := by
  induction L with
  | nil => intro t e h; cases h
  | cons p L ih =>
    intro t e h
    unfold unsF at h
    split at h
    · cases h; exact .inl rfl
    split at h
    · cases h; exact .inr rfl
    · exact ih t e h

set_option maxRecDepth 100000 in
set_option maxHeartbeats 2000000 in
theorem suit_calls (v u : Value) (F : List Fld) (L : List Wnt) (w : World) (h : FRow w v F) (h2 : WRow w u L) :
    Calls Try.prog 21 #[v, u] w fun e w' => e = .returned (twoV (suitF F L)) ∧ Below w.heap.size w w' := by
  have H1 := Lib.hid (right_calls v F w h)
  have H2 := Lib.hid (fun W (hb : Below w.heap.size w W) => rightWants_calls u L W (h2.below hb))
  have H3 := Lib.hid (fun W (hb : Below w.heap.size w W) => unsuited_calls v u F L W (h.below hb) (h2.below hb))
  have H4 := Lib.hid (fun W (hb : Below w.heap.size w W) => missing_calls v u F L W (h.below hb) (h2.below hb))
  have HS := Lib.hid (show suitF F L = if rightF F = false then some (0, 20) else if rightW L = false then some (0, 22) else match unsF L F with
    | some r => some r
    | none => misF F L from rfl)
  have HU := Lib.hid (unsF_code L F)
  clear h h2
  generalize rightF F = r1 at *
  generalize rightW L = r2 at *
  cases r1 with
  | false =>
    go_enter Try.func21, Try.ntmps21
    go_wp2_with (go_at_call 55; refine H1.out.mono ?_; rintro e w1 ⟨rfl, hb1⟩)
    go_ret2
    exact ⟨by rw [HS.out]; rfl, hb1⟩
  | true =>
    cases r2 with
    | false =>
      go_enter Try.func21, Try.ntmps21
      go_wp2_with (first
        | (go_at_call 55; refine H1.out.mono ?_; rintro e w1 ⟨rfl, hb1⟩)
        | (go_at_call 73; refine (H2.out _ hb1).mono ?_; rintro e w2 ⟨rfl, hb2⟩))
      go_ret2
      exact ⟨by rw [HS.out]; rfl, hb1.trans (hb2.mono hb1.size)⟩
    | true =>
      generalize unsF L F = r3 at *
      cases r3 with
      | some p =>
        obtain ⟨t, er⟩ := p
        have her := HU.out t er rfl
        have hne : ((er : Int) != 0) = true := by rw [bne_iff_ne]; omega
        have H3' := Lib.hid (fun W hb => H3.out W hb)
        unfold twoV at H3'
        dsimp only at H3'
        clear H3
        go_enter Try.func21, Try.ntmps21
        go_wp2_with (first
          | (go_at_call 55; refine H1.out.mono ?_; rintro e w1 ⟨rfl, hb1⟩)
          | (go_at_call 73; refine (H2.out _ hb1).mono ?_; rintro e w2 ⟨rfl, hb2⟩; have hb12 := hb1.trans (hb2.mono hb1.size))
          | (go_at_call 74; refine (H3'.out _ hb12).mono ?_; rintro e w3 ⟨rfl, hb3⟩; have hb13 := hb12.trans (hb3.mono hb12.size)))
        go_ret2
        exact ⟨by rw [HS.out]; rfl, hb13⟩
      | none =>
        have H3' := Lib.hid (fun W hb => H3.out W hb)
        unfold twoV at H3'
        dsimp only at H3'
        clear H3
        obtain ⟨mt, me, hm⟩ : ∃ (mt : Int) (me : Nat), twoV (misF F L) = .tuple #[.int .i64 mt, .int .i64 me] := by
          cases misF F L with
          | none => exact ⟨0, 0, rfl⟩
          | some p => exact ⟨p.1, p.2, rfl⟩
        have HM := Lib.hid hm
        rw [hm] at H4
        clear hm
        go_enter Try.func21, Try.ntmps21
        go_wp2_with (first
          | (go_at_call 55; refine H1.out.mono ?_; rintro e w1 ⟨rfl, hb1⟩)
          | (go_at_call 73; refine (H2.out _ hb1).mono ?_; rintro e w2 ⟨rfl, hb2⟩; have hb12 := hb1.trans (hb2.mono hb1.size))
          | (go_at_call 74; refine (H3'.out _ hb12).mono ?_; rintro e w3 ⟨rfl, hb3⟩; have hb13 := hb12.trans (hb3.mono hb12.size))
          | (go_at_call 75; refine (H4.out _ hb13).mono ?_; rintro e w4 ⟨rfl, hb4⟩; have hb14 := hb13.trans (hb4.mono hb13.size)))
        go_ret2
        exact ⟨by rw [HS.out]; exact congrArg _ HM.out.symm, hb14⟩
end Go.Proofs.Ytlohggdabpfkhaa
