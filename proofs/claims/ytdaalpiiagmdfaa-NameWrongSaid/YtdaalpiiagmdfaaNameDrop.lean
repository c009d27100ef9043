/-
  CONTRACT of name.Drop.
-/
import Derived.Test.YtdaalpiiagmdfaaNameAdd
namespace Go.Proofs.Ytdaalpiiagmdfaa
open Go.RowKit Go.Shelf

/-- What Drop answers. -/
def dropE (l : List (List UInt8)) (s : List UInt8) : Int := if lookE l s = 0 then if lookH l s = true then 0 else 6 else lookE l s
def dropV (l : List (List UInt8)) (s : List UInt8) : List (List UInt8) := if lookE l s = 0 then if lookH l s = true then l.take (lookI l s) ++ l.drop (lookI l s + 1) else [] else []

theorem lookI_lt {l : List (List UInt8)} {s : List UInt8} (h : lookH l s = true) : lookI l s < l.length ∧ l.getD (lookI l s) [] = s := by
  unfold lookH at h
  unfold lookI
  split at h
  · split at h
    · rename_i h1 h2
      rw [if_pos h1, if_pos h2]
      simpa using h
    · cases h
  · cases h

set_option maxRecDepth 100000 in
set_option maxHeartbeats 2000000 in
theorem drop_calls (v : Value) (l : List (List UInt8)) (s : List UInt8) (w : World) (hrow : TRow w v l) (hlen : l.length ≤ 1000000) (hl : ∀ x ∈ l, x.length ≤ 1000000) (hs : s.length ≤ 1000000) :
    Calls Try.prog 24 #[v, str s] w fun e w' => ∃ v', e = .returned (.tuple #[v', .int .i64 (dropE l s)]) ∧ OwnS w' w.heap.size v' (dropV l s) ∧ Below w.heap.size w w' := by
  have HLk := Lib.hid (look_calls v l s w hrow hlen hl hs)
  have HRow := Lib.hid hrow
  have h256 : lookE l s = 0 → l.length ≤ 256 := by
    intro h
    unfold lookE at h
    split at h
    · rename_i hset
      unfold setN at hset
      simp at hset
      exact hset.1
    · cases h
  unfold dropE dropV
  obtain ⟨a, c, rfl, hsh⟩ := trow_shape hrow
  by_cases hE : lookE l s = 0
  · rw [if_pos hE, if_pos hE]
    have hll := h256 hE
    rw [hE] at HLk
    by_cases hH : lookH l s = true
    · rw [if_pos hH, if_pos hH]
      obtain ⟨hIlt, -⟩ := lookI_lt hH
      rw [hH] at HLk
      generalize hi : lookI l s = i at *
      have hnc2 : l.length ≤ c := (hsh (by omega)).1
      have q1 : (0 : Int) ≤ (i : Int) := by omega
      have q3 : (i : Int) ≤ (l.length : Int) := by omega
      have q4 : (l.length : Int) ≤ (c : Int) := by omega
      have q5 : (i : Int) ≤ (c : Int) := by omega
      have hlen1 : (l.take i).length + (l.drop (i + 1)).length ≤ 1000 := by
        rw [List.length_take, List.length_drop]; omega
      have HLen := Lib.hid hlen1
      obtain ⟨j, hj⟩ : ∃ j, i + 1 = j := ⟨_, rfl⟩
      have hj1 : j ≤ l.length := by omega
      have hj2 : (i : Int) + 1 = (j : Int) := by omega
      have q6 : (j : Int) ≤ (l.length : Int) := by omega
      have q7 : (j : Int) ≤ (c : Int) := by omega
      have q8 : (j : Int).toNat = j := by omega
      have q9 : (0 : Int) ≤ (j : Int) := by omega
      have HIle := Lib.hid (Nat.le_of_lt hIlt)
      have HJle := Lib.hid hj1
      have hj0 : ¬ j = 0 := by omega
      have hjw : IntKind.i64.wrap (j : Int) = (j : Int) := IntWalk.i64_in _ ⟨by omega, by omega⟩
      rw [hj] at HLen ⊢
      have q2 : (i : Int).toNat = i := by omega
      clear hrow hl hs hH hE h256 hsh hlen hi hlen1 hll hIlt hj
      simp only [str] at *
      go_enter Try.func24, Try.ntmps24
      go_wp2_with fail
      refine HLk.out.mono ?_
      rintro e w1 ⟨rfl, hb⟩
      have HB1 := Lib.hid hb
      clear hb
      have hT := Lib.hid ((HRow.out.below HB1.out).take i HIle.out)
      go_upto_region 6 with fail
      by_cases hca : c = j
      · have hil : j = l.length := by omega
        have hD := Lib.hid (show ∀ a', TRow w1 (.slice a' 0 0) (l.drop j) from fun a' => .inl ⟨by rw [hil]; simp, a', 0, rfl⟩)
        clear hj1 hnc2
        subst hil
        subst hca
        go_region_law (first
          | (go_simp; go_at_call 53; (refine (concat2' w1 _ _ _ _ _ hT.out (hD.out _) HLen.out).mono ?_); rintro e w2 ⟨v2, rfl, ho, hb⟩; have HO2 := Lib.hid (own_lower ho HB1.out.size); have HB2 := Lib.hid (HB1.out.trans (hb.mono HB1.out.size)); clear ho hb)
          | fail)
        all_goals
          go_wp2
          go_ret2
          exact ⟨_, rfl, HO2.out, HB2.out⟩
      · have hD := Lib.hid ((HRow.out.below HB1.out).drop j HJle.out (Option.map (fun x => x.add j) a) (fun _ b o e => by rw [e]; simp [Addr.add, hj0]))
        clear hj1 hnc2
        go_region_law (first
          | (go_simp; go_at_call 53; (refine (concat2' w1 _ _ _ _ _ hT.out hD.out HLen.out).mono ?_); rintro e w2 ⟨v2, rfl, ho, hb⟩; have HO2 := Lib.hid (own_lower ho HB1.out.size); have HB2 := Lib.hid (HB1.out.trans (hb.mono HB1.out.size)); clear ho hb)
          | fail)
        all_goals
          go_wp2
          go_ret2
          exact ⟨_, rfl, HO2.out, HB2.out⟩
    · rw [if_neg hH, if_neg hH]
      have hH2 : lookH l s = false := by simpa using hH
      rw [hH2] at HLk
      generalize lookI l s = i at *
      clear hrow hl hs hH hE h256 hsh hll hlen
      unfold str at *
      go_enter Try.func24, Try.ntmps24
      go_wp2_with fail
      refine HLk.out.mono ?_
      rintro e w1 ⟨rfl, hb⟩
      have HB1 := Lib.hid hb
      clear hb
      go_wp2
      go_ret2
      exact ⟨_, rfl, World.ownsRow_nil _ _ _ _, HB1.out⟩
  · rw [if_neg hE, if_neg hE]
    generalize lookE l s = k at *
    generalize lookI l s = i at *
    generalize lookH l s = h at *
    have hk : (k == 0) = false := by rw [beq_eq_false_iff_ne]; exact hE
    clear hrow hl hs h256 hsh hlen hE
    unfold str at *
    go_enter Try.func24, Try.ntmps24
    go_wp2_with fail
    refine HLk.out.mono ?_
    rintro e w1 ⟨rfl, hb⟩
    have HB1 := Lib.hid hb
    clear hb
    go_wp2
    go_ret2
    exact ⟨_, rfl, World.ownsRow_nil _ _ _ _, HB1.out⟩
end Go.Proofs.Ytdaalpiiagmdfaa
