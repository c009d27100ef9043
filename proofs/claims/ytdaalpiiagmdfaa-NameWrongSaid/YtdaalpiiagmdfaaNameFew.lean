/-
  CONTRACTS of fermatakit.CopyTexts and of the law's few.
-/
import Derived.Test.YtdaalpiiagmdfaaNameRefE
namespace Go.Proofs.Ytdaalpiiagmdfaa
open Go.RowKit Go.Shelf

/-- THE BUILT-IN append of strings: a slice of the call's own, and whatever lies as strings behind it. -/
theorem run_appendS (w : World) (ty : TypeId) (base : Nat) (hbase : base ≤ w.heap.size) (v : Value) (l : List (List UInt8)) (hown : OwnS w base v l) (x : Value) (m : List (List UInt8)) (hx : TRow w x m) (hl : l.length + m.length ≤ 1000000) :
    ∃ v' w', (Builtin.append_ #[22, 22] ty #[v, x]).run Try.prog w = .ok v' w' ∧ OwnS w' base v' (l ++ m) ∧ w.grownBy w' v.ownBlock := by
  obtain ⟨i0, hi, hz0, hz1, hz2⟩ := info_parts info_str
  have fin : ∀ (ad : Addr) (c : Nat), x = .slice (some ad) m.length c → (∀ j u, (m.map str)[j]? = some u → w.cell? (ad.add j) = some u) →
      ∃ v' w', (Builtin.append_ #[22, 22] ty #[v, x]).run Try.prog w = .ok v' w' ∧ OwnS w' base v' (l ++ m) ∧ w.grownBy w' v.ownBlock := by
    rintro ad c rfl hcells
    obtain ⟨v', w', hr, ho, hg, _⟩ := run_append_own (P := Try.prog) w base 22 ty 9 i0 (.string ⟨#[]⟩) 1 16 Try.underlying22 hi hz0 hz1 hz2 rfl (by decide) v l.length (l.map str) hown ad m.length c (m.map str) (by simp) hcells (strs_one m) (by unfold maxLen; omega) (by omega) hbase
    refine ⟨v', w', hr, ?_, hg⟩
    unfold OwnS
    rw [List.length_append, List.map_append]
    exact ho
  rcases hx with ⟨rfl, a, c, rfl⟩ | ⟨b, off, cap, rfl, h1, h2, h3⟩
  · cases a with
    | some ad => exact fin ad c rfl (fun j u hu => by simp at hu)
    | none =>
      refine ⟨v, w, ?_, by simpa using hown, ⟨rfl, rfl, rfl, Nat.le_refl _, fun _ _ _ => rfl⟩⟩
      rcases hown.2 with ⟨rfl, _⟩ | ⟨g, cap, cur, rfl, _, hg, hnc, _⟩
      · simp [Builtin.append_, run_underlying Try.underlying22, sizeOf, typeInfo, hi, Builtin.lenOf, Builtin.firstCells]
      · simp [Builtin.append_, run_underlying Try.underlying22, sizeOf, typeInfo, hi, Builtin.lenOf, Builtin.firstCells, hnc, storeCells]
  · refine fin ⟨b, off, none⟩ cap rfl (fun j u hu => ?_)
    have hadd : (⟨b, off, none⟩ : Addr).add j = ⟨b, off + j, none⟩ := by unfold Addr.add; split <;> simp_all
    rw [hadd]
    rw [List.getElem?_map] at hu
    cases hj : m[j]? with
    | none => rw [hj] at hu; cases hu
    | some y => rw [hj] at hu; cases hu; exact h3 j y hj
theorem wpList_appendS {ops : Array Oper} {rest : List Oper} {o : Oper} {a : Act} {w : World} {Q : Exit → Act → World → Prop} (hgd : o.guard = none) (s x : Operand)
    (ho : o.op = .call { callee := .builtin .append, args := #[s, x], argTypes := #[22, 22] })
    (base : Nat) (v : Value) (l : List (List UInt8)) (hs : a.eval s = v) (hown : OwnS w base v l) (xv : Value) (m : List (List UInt8)) (hx : a.eval x = xv) (hrow : TRow w xv m)
    (hl : l.length + m.length ≤ 1000000) (hbase : base ≤ w.heap.size)
    (h : ∀ v' w', OwnS w' base v' (l ++ m) → w.grownBy w' v.ownBlock → wpList Try.prog ops Q rest (a.put o.dst v') w') : wpList Try.prog ops Q (o :: rest) a w :=
  wpList_plain hgd fun K hK => by
    obtain ⟨v', w', hr, h2, h3⟩ := run_appendS w o.type base hbase v l hown xv m hrow hl
    unfold Oper.wp execOp
    simp only [ho, resolve, invoke, builtin, Sem.run_bind, Sem.run_pure, Result.andThen_ok, List.map_toArray, List.map_cons, List.map_nil, hs, hx, hr]
    exact hK _ _ (h v' w' h2 h3)

set_option maxRecDepth 100000 in
theorem copyTexts_calls (v : Value) (l : List (List UInt8)) (w : World) (h : TRow w v l) (hlen : l.length ≤ 100000) :
    Calls Try.prog 26 #[v] w fun e w' => ∃ v', e = .returned v' ∧ OwnS w' w.heap.size v' l ∧ Below w.heap.size w w' := by
  have HR := Lib.hid h
  clear h
  go_enter Try.func26, Try.ntmps26
  go_wp2_with (at_builtin; refine wpList_appendS rfl _ _ rfl w.heap.size _ [] rfl (World.ownsRow_nil _ _ _ _) _ l rfl HR.out (by simp; omega) (Nat.le_refl _) ?_; intro v2 w2 hown2 hgr2; have HO := Lib.hid hown2; have HB := Lib.hid ((Below.refl w.heap.size w).grown hgr2 (Nat.le_refl _) (fun k hk => by cases hk)); clear hown2 hgr2)
  go_ret
  exact ⟨_, rfl, HO.out, HB.out⟩

/-- What few asks. -/
def fewN (l : List (List UInt8)) : Bool := l.all (fun p => decide (p.length ≤ 200)) && decide (l.length ≤ 300)

set_option maxRecDepth 100000 in
set_option maxHeartbeats 2000000 in
theorem few_calls (v : Value) (l : List (List UInt8)) (w : World) (h : TRow w v l) (hsm : ∀ p ∈ l, p.length ≤ maxLen) (hln : l.length ≤ maxLen) :
    Calls Try.prog 28 #[v] w fun e w' => e = .returned (.bool (fewN l)) ∧ w = w' := by
  obtain ⟨a, c, rfl, hl⟩ := trow_shape h
  have HL := Lib.hid hl
  have HLn := Lib.hid hln
  have HSm := Lib.hid hsm
  obtain ⟨R, hR⟩ : ∃ R, fewN l = R := ⟨_, rfl⟩
  rw [hR]
  have HR := Lib.hid hR
  unfold maxLen at hln
  clear hl h hR hsm
  go_enter Try.func28, Try.ntmps28
  go_wp2
  go_loop [7] (fun iv => ∃ k : Nat, k ≤ l.length ∧ iv = .int .i64 (k : Int) ∧ ∀ p ∈ l.take k, p.length ≤ 200) (fun iv => l.length - (intOf iv).toNat)
  case atStart => exact ⟨0, by omega, rfl, by simp⟩
  case round =>
    obtain ⟨k, hk, rfl, hall⟩ := hrel
    have HA := Lib.hid hall
    clear hall
    by_cases hlt : k < l.length
    · obtain ⟨hc, b, o, rfl, _, hcell⟩ := HL.out (by omega)
      have c1 := hcell k l[k] (List.getElem?_eq_getElem hlt)
      have HTk := Lib.hid (List.take_succ_eq_append_getElem hlt)
      have HMem := Lib.hid (List.getElem_mem hlt)
      have hsz : (⟨l[k].toArray⟩ : ByteArray).size = l[k].length := by simp [ByteArray.size]
      have hlt' : (k : Int) < (l.length : Int) := by omega
      clear hcell
      generalize l[k] = p at *
      by_cases hp : 200 < p.length
      · have hp' : (200 : Int) < (p.length : Int) := by omega
        have HF := Lib.hid (show R = false by
          rw [← HR.out, Bool.eq_false_iff]
          intro hh
          unfold fewN at hh
          rw [Bool.and_eq_true] at hh
          have := List.all_eq_true.1 hh.1 p HMem.out
          have := of_decide_eq_true this
          omega)
        clear hp
        go_wp2
        go_ret
        exact ⟨by rw [HF.out]; rfl, rfl⟩
      · have hp' : ¬ (200 : Int) < (p.length : Int) := by omega
        have HN := Lib.hid (show ∀ q ∈ l.take (k + 1), q.length ≤ 200 from fun q hq => by
          rw [HTk.out] at hq
          rcases List.mem_append.1 hq with h | h
          · exact HA.out q h
          · rw [List.mem_singleton.1 h]; omega)
        go_wp2
        go_round
        case rel => exact ⟨k + 1, by omega, by go_num, HN.out⟩
        case measure => simp [intOf]; omega
    · obtain rfl : k = l.length := by omega
      have HT := Lib.hid (show R = decide (l.length ≤ 300) by
        rw [← HR.out]
        unfold fewN
        rw [List.all_eq_true.2 (fun p hp => decide_eq_true (HA.out p (by rwa [List.take_length]))), Bool.true_and])
      have hnl : ¬ (l.length : Int) < (l.length : Int) := by omega
      by_cases h3 : l.length ≤ 300
      · have h3' : (l.length : Int) ≤ 300 := by omega
        go_wp2
        go_ret
        exact ⟨by rw [HT.out]; simp; omega, rfl⟩
      · have h3' : ¬ (l.length : Int) ≤ 300 := by omega
        go_wp2
        go_ret
        exact ⟨by rw [HT.out]; simp; omega, rfl⟩
end Go.Proofs.Ytdaalpiiagmdfaa
