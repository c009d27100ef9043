/-
  CONTRACT of name.Right: whether a string is a name; nothing that was there is written.
-/
import Derived.Test.YtdaalpiiagmdfaaNameParts
import Derived.BigFrameIn
import Derived.BigGuardIn
import Derived.WalkMore
namespace Go.Proofs.Ytdaalpiiagmdfaa
open Go.RowKit Go.Shelf

attribute [local go_sem] Oper.semAt_some

def partOk (p : List UInt8) : Bool := bnded p && p.all inr
def rightN (l : List UInt8) : Bool := decide (0 < l.length) && (decide (l.length ≤ 32) && (ltr (l.getD 0 0) && (partsL l).all partOk))

set_option maxRecDepth 100000 in
set_option maxHeartbeats 2000000 in
theorem right_in (n : Nat) (hn : 3 ≤ n) (c : UInt8) (r : List UInt8) (w : World) (hl : r.length < 32) (hc : ltr c = true) :
    CallsIn Fence.wide n Try.prog 27 #[str (c :: r)] w fun e W' => e = .returned (.bool ((partsL (c :: r)).all partOk)) ∧ Below w.heap.size w W' := by
  have h1 : 1 ≤ n := by omega
  have HLt := Lib.hid (letter_calls c w)
  rw [hc] at HLt
  have hsz : (⟨(c :: r).toArray⟩ : ByteArray).size = r.length + 1 := by simp [ByteArray.size]
  have hli : decide ((32 : Int) < (r.length : Int) + 1) = false := decide_eq_false (by omega)
  have hg0 : ∀ h, (⟨(c :: r).toArray⟩ : ByteArray)[0]'h = c := fun _ => rfl
  have hl1 : (0 : Int) < (r.length : Int) + 1 := by omega
  refine callsIn_of_wp_marks Try.func27 rfl trivial ?_ rfl
  simp only [Try.ntmps27, List.size_toArray, List.length_cons, List.length_nil, Nat.reduceAdd, Nat.reduceSub, Array.replicate_succ, Array.replicate_zero, List.push_toArray, List.append_toArray, List.nil_append, List.cons_append]
  unfold str
  gi_wp2_with fail
  refine wpIn_wide.2 (wp_scope_straight ((wpIn_wide (n := n)).1 ?_))
  gi_wp2_with (refine ⟨trivial, ?_⟩; gi_at_call 56; refine (callsIn_wide.2 HLt.out).mono ?_; rintro e w' ⟨rfl, rfl⟩)
  apply wpIn_label
  gi_wp2_with (refine ⟨trivial, ?_⟩; gi_at_call 45; refine (parts_in (n - 1) (c :: r) _).mono ?_; rintro e w' ⟨rfl, rfl⟩; unfold str)
  have b1 := Boxed.new w 4 (.bool true)
  have b2 := Boxed.new (w.alloc (.cells #[.bool true] 4)) 9 (.string ⟨(c :: r).toArray⟩)
  simp only [World.size_alloc] at b2
  have hB0 : Below w.heap.size w ((w.alloc (.cells #[.bool true] 4)).alloc (.cells #[.string ⟨(c :: r).toArray⟩] 9)) := ((Below.refl _ w).alloc (Nat.le_refl _) _).alloc (by simp) _
  refine wpIn_rangeFunc_ownG (encs := encS) (Kp := KpN w.heap.size (w.heap.size + 1)) rfl h1 (gf := 67) (lb := #[.pointer (some ⟨w.heap.size + 1, 0, none⟩)]) rfl trivial (enters_of Try.func67 (by kernel_rfl) rfl)
    (parts_stops (n - 1) (by omega) (w.heap.size + 1) (c :: r) (by simp only [List.length_cons]; omega) w _ hB0 b2)
    (fun h k => ⟨h.1.trans k.1, k.2.trans h.2⟩)
    (fun W l o o' hl h hc hw => ⟨belowK_b (w := w) (Nat.le_refl _) W l o o' (by simp at hl; omega) h hc hw, World.putObj_heap_other (by simp at hl; omega)⟩)
    (Below.refl _ _) (fun _ => rfl)
    (fun pre W => ((∀ p ∈ pre, partOk p.1 = true) ∧ Boxed W w.heap.size 4 (.bool true)) ∧ Below w.heap.size w W)
    (fun cc pre W => (cc = .exit 0 ∧ ∃ ini last, pre = ini ++ [last] ∧ partOk last.1 = false ∧ Boxed W w.heap.size 4 (.bool false)) ∧ Below w.heap.size w W)
    (OwnFrom.and (OwnFrom.and (ownFrom_pure _ _) (Own.from (boxed_own _ _ _) _)) (ownFrom_below (Nat.le_refl _) (by simp; omega)))
    (fun cc => OwnFrom.and (Own.from (fun s A B row hs hg hr => by obtain ⟨hc, ini, last, e1, e2, e3⟩ := hs; exact ⟨hc, ini, last, e1, e2, boxed_own _ _ (fun _ : Unit => _) () A B row e3 hg hr⟩) _) (ownFrom_below (Nat.le_refl _) (by simp; omega)))
    ⟨⟨fun p hp => (by cases hp), b1.alloc _⟩, hB0⟩
    (fun x => { tmps := #[.string ⟨(c :: r).toArray⟩, undef, .bool false, .pointer (some ⟨w.heap.size, 0, none⟩), .string ⟨x.1.toArray⟩, undef, .string ⟨(c :: r).toArray⟩, .bool false, .bool false, .string ⟨(c :: r).toArray⟩, .int .i64 ((r.length : Int) + 1), .bool false, .bool false, .bool false, .string ⟨(c :: r).toArray⟩, .int .u8 c.toNat, .bool true, .bool false, .bool false, .string ⟨(c :: r).toArray⟩, .func (.func 67) #[] #[.pointer (some ⟨w.heap.size + 1, 0, none⟩)], .string ⟨x.1.toArray⟩, undef, undef, undef, undef, undef, undef, undef, undef, undef, undef, undef, undef, undef, undef, undef], defers := [] }) ?assign ?body ?done ?stop
  case assign =>
    intro l x W K hK
    simp only [encS, str]
    gi_wp2
    exact hK
  case body =>
    rintro l pre ⟨x, hx⟩ W ⟨⟨hp, hb1⟩, hB⟩ hlt
    have HBn := Lib.hid (bounded_calls x W (by omega))
    have HB1 := Lib.hid hb1; have HB := Lib.hid hB; have HP := Lib.hid hp
    have c1 := hb1.cell
    have f1 := hb1.frozen
    clear hp hb1 hB hlt b1 b2 hB0
    simp only [str] at *
    obtain ⟨bd, hbd⟩ : ∃ bd, bnded x = bd := ⟨_, rfl⟩
    rw [hbd] at HBn
    cases bd with
    | false =>
      have HF := Lib.hid (show partOk x = false by unfold partOk; rw [hbd]; rfl)
      clear hbd
      gi_wp2_with (refine ⟨trivial, (by intro _; omega), ?_⟩; refine (CallsIn.inRound l (callsIn_wide.2 HBn.out)).mono ?_; rintro e w' ⟨rfl, rfl⟩)
      exact ⟨(KeepsOthers.setCell _ _ _).from _, ⟨rfl, pre, ⟨x, hx⟩, rfl, HF.out, HB1.out.set _⟩, HB.out.setCell (p := ⟨w.heap.size, 0, none⟩) (Nat.le_refl _) _⟩
    | true =>
      have HF := Lib.hid (show partOk x = x.all inr by unfold partOk; rw [hbd]; rfl)
      clear hbd
      have hxl : (⟨x.toArray⟩ : ByteArray).size = x.length := by simp [ByteArray.size]
      gi_wp2_with (refine ⟨trivial, (by intro _; omega), ?_⟩; refine (CallsIn.inRound l (callsIn_wide.2 HBn.out)).mono ?_; rintro e w' ⟨rfl, rfl⟩)
      gi_loopw [27] (fun i wr => ∃ k : Nat, k ≤ x.length ∧ i = .int .i64 k ∧ (∀ j, j < k → inr (x.getD j 0) = true) ∧ W = wr) (fun i _ => x.length - (intOf i).toNat)
      case atStart => exact ⟨0, Nat.zero_le _, rfl, fun j hj => absurd hj (Nat.not_lt_zero _), rfl⟩
      case round =>
        obtain ⟨k, hk, rfl, hall, rfl⟩ := hrel
        have HAl := Lib.hid hall
        clear hall
        by_cases hlt : k < x.length
        · have hbg := bget x k (by rw [hxl]; exact hlt)
          have hki : (k : Int) < (x.length : Int) := by omega
          have HIn := Lib.hid (inner_calls ((⟨x.toArray⟩ : ByteArray)[k]'(by rw [hxl]; exact hlt)) W)
          obtain ⟨bi, hbi⟩ : ∃ bi, inr ((⟨x.toArray⟩ : ByteArray)[k]'(by rw [hxl]; exact hlt)) = bi := ⟨_, rfl⟩
          rw [hbi] at HIn
          rw [hbg] at hbi
          have HBi := Lib.hid hbi
          clear hbi hbg
          cases bi with
          | true =>
            gi_wp2_with (refine ⟨trivial, (by intro _; omega), ?_⟩; refine (CallsIn.inRound l (callsIn_wide.2 HIn.out)).mono ?_; rintro e w' ⟨rfl, rfl⟩)
            go_roundw
            case rel =>
              refine ⟨k + 1, by omega, by go_num, fun j hj => ?_, by first | rfl | trivial⟩
              by_cases hjk : j = k
              · subst hjk; exact HBi.out
              · exact HAl.out j (by omega)
            case measure => simp [intOf]; omega
          | false =>
            have HF2 := Lib.hid (show partOk x = false by
              rw [HF.out, Bool.eq_false_iff]
              intro h
              have := List.all_eq_true.1 h (x.getD k 0) (by rw [List.getD_eq_getElem?_getD, List.getElem?_eq_getElem hlt]; exact List.getElem_mem hlt)
              rw [HBi.out] at this
              cases this)
            gi_wp2_with (refine ⟨trivial, (by intro _; omega), ?_⟩; refine (CallsIn.inRound l (callsIn_wide.2 HIn.out)).mono ?_; rintro e w' ⟨rfl, rfl⟩)
            exact ⟨(KeepsOthers.setCell _ _ _).from _, ⟨rfl, pre, ⟨x, hx⟩, rfl, HF2.out, HB1.out.set _⟩, HB.out.setCell (p := ⟨w.heap.size, 0, none⟩) (Nat.le_refl _) _⟩
        · obtain rfl : k = x.length := by omega
          have HOk := Lib.hid (show partOk x = true by
            rw [HF.out, List.all_eq_true]
            intro d hd
            obtain ⟨j, hj, rfl⟩ := List.getElem_of_mem hd
            have := HAl.out j hj
            rwa [List.getD_eq_getElem?_getD, List.getElem?_eq_getElem hj] at this)
          gi_wp2
          refine ⟨KeepsFrom.refl _ _, ⟨Below.refl _ _, rfl⟩, ⟨?_, HB1.out⟩, HB.out⟩
          intro p hp
          rcases List.mem_append.1 hp with h | h
          · exact HP.out p h
          · rw [List.mem_singleton.1 h]; exact HOk.out
  case done =>
    rintro D ys W hD hys ⟨⟨hp, hb1⟩, hB⟩ hK
    have hall : (partsL (c :: r)).all partOk = true := by
      rw [← hys, List.all_eq_true]
      intro p hp0
      obtain ⟨q, hq, rfl⟩ := List.mem_map.1 hp0
      exact hp q hq
    have c1 := hb1.cell
    have HA := Lib.hid hall
    have HB := Lib.hid hB
    have HK := Lib.hid hK
    clear hall hp hb1 hB hK b1 b2 hB0 hys
    gi_wp2
    simp only [Exit.noGoto]
    refine ⟨by simp, .inl ⟨_, _, rfl, run_takeDeferred HK.out, ?_⟩⟩
    simp only [World.size_alloc] at hD
    refine ⟨.bool true, ?_, ?_, HB.out.trans (belowK_b (w := w) (Nat.le_refl _) _ D _ _ (by omega) HK.out rfl rfl)⟩
    · simp [results, Try.f27, go_sem]
    · rw [HA.out]
  case stop =>
    rintro D cc pre W hD hpre ⟨⟨rfl, ini, last, rfl, hlast, hb1⟩, hB⟩ hK
    have hall : (partsL (c :: r)).all partOk = false := by
      obtain ⟨t, ht⟩ := hpre
      rw [← ht, List.all_eq_false]
      exact ⟨last.1, by simp, by rw [hlast]; decide⟩
    have c1 := hb1.cell
    have HA := Lib.hid hall
    have HB := Lib.hid hB
    have HK := Lib.hid hK
    clear hall hb1 hB hK b1 b2 hB0 hpre
    gi_wp2
    simp only [Exit.noGoto]
    refine ⟨by simp, .inl ⟨_, _, rfl, run_takeDeferred HK.out, ?_⟩⟩
    simp only [World.size_alloc] at hD
    refine ⟨.bool false, ?_, ?_, HB.out.trans (belowK_b (w := w) (Nat.le_refl _) _ D _ _ (by omega) HK.out rfl rfl)⟩
    · simp [results, Try.f27, go_sem]
    · rw [HA.out]

set_option maxRecDepth 100000 in
set_option maxHeartbeats 2000000 in
/-- name.Right, at any string. -/
theorem right_calls (l : List UInt8) (w : World) (hl : l.length ≤ 9223372036854775807) :
    Calls Try.prog 27 #[str l] w fun e w' => e = .returned (.bool (rightN l)) ∧ Below w.heap.size w w' := by
  cases l with
  | nil =>
    unfold str
    go_enter Try.func27, Try.ntmps27
    go_wp2_with fail
    go_step3
    go_wp2
    simp only [Exit.noGoto]
    go_ret
    exact ⟨rfl, Below.refl _ _⟩
  | cons c r =>
    simp only [List.length_cons] at hl
    have hgd : (c :: r).getD 0 0 = c := rfl
    by_cases h32 : r.length < 32
    · have HLt := letter_calls c w
      cases hc : ltr c with
      | true =>
        have he : rightN (c :: r) = (partsL (c :: r)).all partOk := by
          unfold rightN
          rw [hgd, hc, decide_eq_true (show 0 < (c :: r).length by simp), decide_eq_true (show (c :: r).length ≤ 32 by simp only [List.length_cons]; omega)]
          rfl
        rw [he]
        exact (callsIn_wide (n := 3)).1 (right_in 3 (by omega) c r w h32 hc)
      | false =>
        have he : rightN (c :: r) = false := by
          unfold rightN
          rw [hgd, hc]
          simp
        rw [he]
        rw [hc] at HLt
        have HL := Lib.hid HLt
        have hli : decide ((32 : Int) < (r.length : Int) + 1) = false := decide_eq_false (by omega)
        have hsz : (⟨(c :: r).toArray⟩ : ByteArray).size = r.length + 1 := by simp [ByteArray.size]
        have hg0 : ∀ h, (⟨(c :: r).toArray⟩ : ByteArray)[0]'h = c := fun _ => rfl
        have hl1 : (0 : Int) < (r.length : Int) + 1 := by omega
        clear he hc HLt h32 hl
        unfold str
        go_enter Try.func27, Try.ntmps27
        go_wp2_with fail
        go_step3
        go_wp2_with (go_at_call 56; refine HL.out.mono ?_; rintro e w' ⟨rfl, rfl⟩)
        simp only [Exit.noGoto]
        go_ret
        exact ⟨rfl, Below.refl _ _⟩
    · have he : rightN (c :: r) = false := by
        unfold rightN
        rw [decide_eq_false (show ¬ (c :: r).length ≤ 32 by simp only [List.length_cons]; omega)]
        simp
      rw [he]
      have hli : decide ((32 : Int) < (r.length : Int) + 1) = true := decide_eq_true (by omega)
      have hsz : (⟨(c :: r).toArray⟩ : ByteArray).size = r.length + 1 := by simp [ByteArray.size]
      clear he h32
      unfold str
      go_enter Try.func27, Try.ntmps27
      go_wp2_with fail
      go_step3
      go_wp2
      simp only [Exit.noGoto]
      go_ret
      exact ⟨rfl, Below.refl _ _⟩
end Go.Proofs.Ytdaalpiiagmdfaa
