/-
  CONTRACT of field.within: the fields in bytes, and where each of them begins, whatever the loop's body is.
-/
import Derived.Test.YteaeedhhdnkldaaFieldOwn
import Derived.Test.YteaeedhhdnkldaaNumSplit
namespace Go.Proofs.Yteaeedhhdnkldaa
open Go.RowKit Go.Shelf Pl

attribute [local go_sem] Oper.semAt_some

/-- What is yielded: where a field begins, its tag, its bytes; 0 and no bytes where there is none. -/
abbrev Yl := Nat × Nat × List Nat
def fsqF : Nat → Nat → List Nat → List Yl
  | 0, _, _ => []
  | n + 1, at0, l => if l.length = 0 then [] else if (firstN l).2.2 = 0 then [(at0, 0, [])] else (at0, (firstN l).1, (firstN l).2.1) :: fsqF n (at0 + (firstN l).2.2) (l.drop (firstN l).2.2)
def fsqA (at0 : Nat) (l : List Nat) : List Yl := fsqF l.length at0 l
def fsq (l : List Nat) : List Yl := fsqA 0 l

theorem firstN_cases (l : List Nat) : firstN l = (0, [], 0) ∨ ∃ x n, rd (l.drop 1) = (x, n, 0) ∧ x ≤ 16384 ∧ 1 + n + x ≤ l.length ∧ firstN l = (gt l 0, (l.drop (1 + n)).take x, 1 + n + x) := by
  obtain ⟨x, n, er, hr⟩ : ∃ x n er, rd (l.drop 1) = (x, n, er) := ⟨_, _, _, rfl⟩
  unfold firstN
  rw [hr]
  dsimp only
  by_cases h : er ≠ 0 ∨ 16384 < x ∨ l.length < 1 + n + x
  · exact .inl (if_pos h)
  · rw [if_neg h]
    have he : er = 0 := by omega
    subst he
    exact .inr ⟨x, n, rfl, by omega, by omega, rfl⟩
theorem firstN_size (l : List Nat) : (firstN l).2.2 ≤ l.length := by
  rcases firstN_cases l with h | ⟨x, n, _, _, h1, h⟩
  · rw [h]; exact Nat.zero_le _
  · rw [h]; exact h1
theorem firstN_zero {l : List Nat} (h : (firstN l).2.2 = 0) : firstN l = (0, [], 0) := by
  rcases firstN_cases l with h1 | ⟨x, n, _, _, h1, h2⟩
  · exact h1
  · rw [h2] at h; simp only at h; omega
theorem fsqF_more (n : Nat) : ∀ (a : Nat) (l : List Nat) (m : Nat), l.length ≤ n → l.length ≤ m → fsqF n a l = fsqF m a l := by
  induction n with
  | zero => intro a l m h1 _; have : l = [] := List.eq_nil_of_length_eq_zero (by omega); subst this; cases m <;> simp [fsqF]
  | succ n ih =>
    intro a l m h1 h2
    cases m with
    | zero => have : l = [] := List.eq_nil_of_length_eq_zero (by omega); subst this; simp [fsqF]
    | succ m =>
      unfold fsqF
      by_cases h0 : l.length = 0
      · rw [if_pos h0, if_pos h0]
      rw [if_neg h0, if_neg h0]
      by_cases hz : (firstN l).2.2 = 0
      · rw [if_pos hz, if_pos hz]
      rw [if_neg hz, if_neg hz, ih _ _ m (by rw [List.length_drop]; omega) (by rw [List.length_drop]; omega)]
theorem fsqA_nil (a : Nat) : fsqA a [] = [] := rfl
theorem fsqA_zero (a : Nat) {l : List Nat} (h0 : 0 < l.length) (h : (firstN l).2.2 = 0) : fsqA a l = [(a, 0, [])] := by
  unfold fsqA
  obtain ⟨n, hn⟩ : ∃ n, l.length = n + 1 := ⟨l.length - 1, by omega⟩
  rw [hn]
  unfold fsqF
  rw [if_neg (by omega), if_pos h]
theorem fsqA_step (a : Nat) {l : List Nat} (h0 : 0 < l.length) (h : (firstN l).2.2 ≠ 0) : fsqA a l = (a, (firstN l).1, (firstN l).2.1) :: fsqA (a + (firstN l).2.2) (l.drop (firstN l).2.2) := by
  obtain ⟨n, hn⟩ : ∃ n, l.length = n + 1 := ⟨l.length - 1, by omega⟩
  have e : fsqA a l = fsqF (n + 1) a l := by unfold fsqA; rw [hn]
  rw [e]
  unfold fsqF
  rw [if_neg (by omega), if_neg h]
  congr 1
  exact fsqF_more _ _ _ _ (by rw [List.length_drop]; omega) (Nat.le_refl _)

/-- What the loop's body is handed: where, the tag, the bytes as a value, and what they read as. -/
def Yv (w0 : World) : Type := { x : Nat × Nat × Value × List Nat // x.1 ≤ 16768 ∧ x.2.1 < 256 ∧ x.2.2.2.length ≤ 16768 ∧ BRow w0 x.2.2.1 x.2.2.2 }
def Yv.yl {w0 : World} (x : Yv w0) : Yl := (x.1.1, x.1.2.1, x.1.2.2.2)
def encY {w0 : World} (x : Yv w0) : Array Value := #[.int .i64 (x.1.1 : Int), .agg #[.int .i64 (x.1.2.1 : Int), x.1.2.2.1]]

theorem firstN_tag {l : List Nat} (hb : AllB l) : (firstN l).1 < 256 := by
  rcases firstN_cases l with h | ⟨x, n, _, _, _, h⟩
  · rw [h]; exact Nat.zero_lt_succ _
  · rw [h]; exact gt_lt hb 0
theorem firstN_len (l : List Nat) : (firstN l).2.1.length ≤ 16768 := by
  rcases firstN_cases l with h | ⟨x, n, _, h1, _, h⟩
  · rw [h]; exact Nat.zero_le _
  · rw [h]; simp; omega

set_option maxRecDepth 100000 in
set_option maxHeartbeats 1000000 in
theorem within_in (n : Nat) (a : Option Addr) (len cap : Nat) (w : World) :
    CallsIn Fence.wide n Try.prog 128 #[.slice a len cap] w fun e w' => e = .returned (.func (.func 144) #[] #[.pointer (some ⟨w.heap.size, 0, none⟩)]) ∧ w' = w.alloc (.cells #[.slice a len cap] 22) := by
  refine callsIn_of_wp Try.func128 rfl trivial ?_ rfl
  simp only [Try.ntmps128, List.size_toArray, List.length_cons, List.length_nil, Nat.reduceAdd, Nat.reduceSub, Array.replicate_succ, Array.replicate_zero, List.push_toArray, List.append_toArray, List.nil_append, List.cons_append]
  gi_wp2
  go_ret
  exact ⟨rfl, rfl⟩

set_option maxRecDepth 100000 in
set_option maxHeartbeats 2000000 in
theorem within1_in (n : Nat) (hn : 1 ≤ n) (l Bs : Nat) (sv : Value) (bs : List Nat) (w0 : World) (hrow : BRow w0 sv bs) (hlen : bs.length ≤ 16768) (J Jx : List (Yv w0) → World → Prop) (W : World) (hJA : AbidesFrom W.heap.size J)
    (hY : ∀ pre x W, J pre W → pre.length < (fsq bs).length → YieldAt Fence.wide (n - 1) Try.prog l (encY x) W fun e W' =>
      (e = .returned (.bool true) ∧ J (pre ++ [x]) W' ∧ KpB w0.heap.size Bs W W') ∨ (e = .returned (.bool false) ∧ Jx (pre ++ [x]) W'))
    (hB : Below w0.heap.size w0 W) (hbox : Boxed W Bs 22 sv) (h0 : J [] W) :
    CallsIn Fence.wide n Try.prog 144 #[.func (.yield l) #[] #[], .pointer (some ⟨Bs, 0, none⟩)] W fun e W' => (∃ v, e = .returned v) ∧
      ((∃ ys : List (Yv w0), ys.map Yv.yl = fsq bs ∧ J ys W') ∨ (∃ pre : List (Yv w0), pre.map Yv.yl <+: fsq bs ∧ Jx pre W')) := by
  obtain ⟨sa, sc, hsv⟩ := hrow.shape
  have hR0 := Lib.hid hrow
  have hY0 := Lib.hid hY
  have hSV := Lib.hid hsv
  have hJ0 := Lib.hid (fun s A B (h : J s A) (hg : A.grownBy B none) => hJA s A B none h hg (fun r e => by cases e))
  clear hrow hY hsv hJA
  refine callsIn_of_wp Try.func144 rfl trivial ?_ rfl
  simp only [Try.ntmps144, List.size_toArray, List.length_cons, List.length_nil, Nat.reduceAdd, Nat.reduceSub, Array.replicate_succ, Array.replicate_zero, List.push_toArray, List.append_toArray, List.nil_append, List.cons_append]
  gi_wp2
  gi_loopw [3] (fun i wr => ∃ (pre : List (Yv w0)) (k : Nat), k ≤ bs.length ∧ i = .int .i64 k ∧ fsq bs = pre.map Yv.yl ++ fsqA k (bs.drop k) ∧ J pre wr ∧ Below w0.heap.size w0 wr ∧ Boxed wr Bs 22 sv) (fun i _ => bs.length - (intOf i).toNat)
  case atStart => exact ⟨[], 0, by omega, rfl, rfl, h0, hB, hbox⟩
  case round =>
    obtain ⟨pre, k, hk, rfl, hsq, hJs, hbel, hbx⟩ := hrel
    have hS := Lib.hid hsq
    have hBX := Lib.hid hbx
    have hBEL := Lib.hid hbel
    have hJS := Lib.hid hJs
    have hcell := hbx.cell
    rw [hSV.out] at hcell
    clear hsq hbx hbel hJs hbox hB
    by_cases hlt : k < bs.length
    · obtain ⟨hall, ⟨_, _, _, e, _⟩ | ⟨b, off, cap, hsv2, hc, hm, -⟩⟩ := hR0.out
      · rw [e] at hlt; simp at hlt
      rw [hSV.out] at hsv2
      simp only [Value.slice.injEq, true_and] at hsv2
      obtain ⟨rfl, rfl⟩ := hsv2
      unfold maxLen at hm
      have hrow2 : ∀ W0, BRow W0 sv bs → BRow W0 (.slice (some ⟨b, off + k, none⟩) (bs.length - k) (sc - k)) (bs.drop k) := fun W0 h => by
        rw [hSV.out] at h
        exact h.drop k _ _ _ (by omega) rfl rfl (by omega) (by unfold maxLen; omega)
      have HRow2 := Lib.hid hrow2
      have hfc := fun W' (hb : Below w0.heap.size w0 W') => first_calls _ _ W' (hrow2 W' (hR0.out.below hb)) (by simp; omega) (by simp; omega)
      have HFC := Lib.hid hfc
      have hsz := firstN_size (bs.drop k)
      rw [List.length_drop] at hsz
      have htag := firstN_tag (hall.drop k)
      have hfl := firstN_len (bs.drop k)
      have hz := Lib.hid (firstN_zero (l := bs.drop k))
      have hok := Lib.hid (fsqA_step k (l := bs.drop k) (by simp; omega))
      have herr := Lib.hid (fsqA_zero k (l := bs.drop k) (by simp; omega))
      obtain ⟨tg, fbs, fsz, hr⟩ : ∃ tg fbs fsz, firstN (bs.drop k) = (tg, fbs, fsz) := ⟨_, _, _, rfl⟩
      rw [hr] at HFC hsz hz hok herr htag hfl
      dsimp only at HFC hsz hz hok herr htag hfl
      clear hr hfc hrow2 hall
      have hck : ¬ sc = k := by omega
      have hpl : pre.length < (fsq bs).length := by
        rw [hS.out, List.length_append, List.length_map]
        by_cases h0 : fsz = 0
        · rw [herr.out h0]; simp
        · rw [hok.out h0]; simp
      have hpl := Lib.hid hpl
      have htg := Lib.hid htag
      have hfl2 := Lib.hid hfl
      clear hfl htag
      have hbk : (k : Int) + (fsz : Int) ≤ 9223372036854775807 := by omega
      gi_wp2_with (refine ⟨trivial, ?_⟩; gi_at_call 145; refine (callsIn_wide.2 (HFC.out _ hBEL.out)).mono ?_; rintro e w2 ⟨v2, rfl, hrow2, hb2⟩; have hb0 := hrow2 w0 (HRow2.out w0 hR0.out); obtain ⟨a2, c2, rfl⟩ := hb0.shape; have HWy := Lib.hid (hBEL.out.trans ((hb2.alloc hb2.size (.cells #[.int .i64 (((tg : Nat) : Int)), .slice a2 fbs.length c2] 33)).mono hBEL.out.size)); have HBy := Lib.hid ((hb2.block Bs hBX.out.lt).trans hBX.out); have HBy2 := Lib.hid (Boxed.alloc HBy.out (.cells #[.int .i64 (((tg : Nat) : Int)), .slice a2 fbs.length c2] 33)); have HJy := Lib.hid (hJ0.out pre wr _ hJS.out ((grownBy_of_below hb2 none).trans (World.grownBy_alloc w2 (.cells #[.int .i64 (((tg : Nat) : Int)), .slice a2 fbs.length c2] 33) none))); obtain ⟨x, hx⟩ : ∃ x : Yv w0, x.1 = (k, tg, .slice a2 fbs.length c2, fbs) := ⟨⟨(k, tg, .slice a2 fbs.length c2, fbs), by omega, htg.out, hfl2.out, hb0⟩, rfl⟩; obtain ⟨fn, tmps, assign, body, hy, hR⟩ := hY0.out pre x _ HJy.out hpl.out; simp only [encY, hx] at hy; have HR := Lib.hid hR; have HX := Lib.hid hx; clear hR hx hb2 hrow2 hb0)
      have hyl : Yv.yl x = (k, tg, fbs) := by unfold Yv.yl; rw [HX.out]
      have HYl := Lib.hid hyl
      clear hyl
      by_cases hf0 : fsz = 0
      · have hne : ((fsz : Int) == 0) = true := by rw [beq_iff_eq]; omega
        have hall2 : (pre ++ [x]).map Yv.yl = fsq bs := by
          have e := hz.out hf0
          simp only [Prod.mk.injEq] at e
          rw [List.map_append, List.map_cons, List.map_nil, HYl.out, hS.out, herr.out hf0, e.1, e.2.1]
        have HAll := Lib.hid hall2
        clear hall2 hf0
        refine HR.out.mono ?_
        rintro e W3 (⟨rfl, hJ3, -⟩ | ⟨rfl, hJx3⟩)
        · gi_wp2
          refine bodyPost_ret (results_none rfl _ _ _) rfl ?_
          exact ⟨⟨_, rfl⟩, .inl ⟨pre ++ [x], HAll.out, hJ3⟩⟩
        · gi_wp2
          refine bodyPost_ret (results_none rfl _ _ _) rfl ?_
          exact ⟨⟨_, rfl⟩, .inr ⟨pre ++ [x], by rw [HAll.out]; exact List.prefix_rfl, hJx3⟩⟩
      · have hne : ((fsz : Int) == 0) = false := by rw [beq_eq_false_iff_ne]; omega
        have hsq2 : fsq bs = (pre ++ [x]).map Yv.yl ++ fsqA (k + fsz) (bs.drop (k + fsz)) := by
          rw [List.map_append, List.map_cons, List.map_nil, HYl.out, hS.out, hok.out hf0, List.drop_drop, List.append_assoc]
          rfl
        have HS2 := Lib.hid hsq2
        clear hsq2
        refine HR.out.mono ?_
        rintro e W3 (⟨rfl, hJ3, hk3⟩ | ⟨rfl, hJx3⟩)
        · have HJ3 := Lib.hid hJ3
          have HK3 := Lib.hid (And.intro (HWy.out.trans hk3.1) (hk3.2.trans HBy2.out))
          clear hJ3 hk3
          gi_wp2
          go_roundw
          case rel => exact ⟨pre ++ [x], k + fsz, by omega, by go_num, HS2.out, HJ3.out, HK3.out.1, HK3.out.2⟩
          case measure => simp [intOf]; omega
        · gi_wp2
          refine bodyPost_ret (results_none rfl _ _ _) rfl ?_
          exact ⟨⟨_, rfl⟩, .inr ⟨pre ++ [x], ⟨_, HS2.out.symm⟩, hJx3⟩⟩
    · obtain rfl : k = bs.length := by omega
      have hfin : fsq bs = pre.map Yv.yl := by have := hS.out; rw [List.drop_length, fsqA_nil, List.append_nil] at this; exact this
      have hF := Lib.hid hfin; clear hfin
      gi_wp2
      go_end0
      exact ⟨⟨_, rfl⟩, .inl ⟨pre, hF.out.symm, hJS.out⟩⟩
end Go.Proofs.Yteaeedhhdnkldaa
