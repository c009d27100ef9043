/-
  CONTRACT of slices.SortFunc with name.order, at a slice of the call's own.
-/
import Derived.Test.YtdaalpiiagmdfaaNameFew
import Derived.Test.YtdaalpiiagmdfaaNameOfP
import Derived.Test.YtdaalpiiagmdfaaDrawn3
import Derived.Lib.OwnBridge
import Derived.Sort.OwnSorted
import Derived.Test.YtdaalpiiagmdfaaShelfS
namespace Go.Proofs.Ytdaalpiiagmdfaa
open Go.RowKit Go.Shelf Go.Sort

/-- A right name. -/
abbrev RName := {s : List UInt8 // rightN s = true}
instance : Inhabited RName := ⟨⟨[97], by decide +kernel⟩⟩
def encR (x : RName) : Value := str x.1
def cfR (x y : RName) : Int := orderN x.1 y.1
theorem encR_one : OneCell encR := fun _ => rfl
theorem cfR_nm (x y : RName) : cfR x y = nmC x.1 y.1 := order_nmC x.1 y.2
theorem cfR_swo : SWO (ltOf cfR) where
  irrefl x := by
    unfold ltOf
    rw [cfR_nm, nmC_good.refl]
    rfl
  trans x y z h1 h2 := by
    unfold ltOf at h1 h2 ⊢
    rw [cfR_nm] at h1 h2 ⊢
    have h1 := of_decide_eq_true h1
    have h2 := of_decide_eq_true h2
    exact decide_eq_true (nmC_good.lt_le h1 (by omega))
  ntrans x y z h1 h2 := by
    unfold ltOf at h1 h2 ⊢
    rw [cfR_nm] at h1 h2 ⊢
    have h1 := of_decide_eq_false h1
    have h2 := of_decide_eq_false h2
    refine decide_eq_false ?_
    have a1 := nmC_good.anti x.1 y.1
    have a2 := nmC_good.anti y.1 z.1
    have a3 := nmC_good.anti x.1 z.1
    have := nmC_good.tr z.1 y.1 x.1 (by omega) (by omega)
    omega
theorem right_len {s : List UInt8} (h : rightN s = true) : s.length ≤ 32 := (right_parts h).2.1
theorem order_lays (blk off size : Nat) (w : World) : CmpLays1 Try.prog 43 #[] encR cfR blk off size w := fun m os dk _ x y =>
  Drawn.calls_grow (order_calls x.1 y.1 _ (by have := right_len x.2; omega) (by have := right_len y.2; omega))
/-- The right names of a list. -/
def rnames (l : List (List UInt8)) (h : ∀ p ∈ l, rightN p = true) : List RName := l.pmap (fun p hp => ⟨p, hp⟩) h
theorem rnames_val (l : List (List UInt8)) (h : ∀ p ∈ l, rightN p = true) : (rnames l h).map (·.1) = l := by
  unfold rnames
  rw [List.map_pmap]
  simp
theorem rnames_enc (zs : List RName) : zs.map encR = (zs.map (·.1)).map str := by rw [List.map_map]; rfl
theorem cells_enc (off : Nat) (d : Array RName) (c : Array Value) : putCells encR off d c = putCells encStr off (d.map (·.1)) c := by
  unfold putCells
  congr 1
  funext k x
  simp only [Array.size_map]
  by_cases hk : off ≤ k ∧ k < off + d.size
  · rw [if_pos hk, if_pos hk]
    have h1 : k - off < d.size := by omega
    simp [h1, encR, encStr, str]
  · rw [if_neg hk, if_neg hk]
theorem putRow_enc (w : World) (blk off : Nat) (d : Array RName) : putRow encR w blk off d = putRow encStr w blk off (d.map (·.1)) := by
  unfold putRow
  rw [show putCells encR off d = putCells encStr off (d.map (·.1)) from funext fun c => cells_enc off d c]
theorem str_enc (l : List (List UInt8)) : l.map str = l.map encStr := rfl
set_option maxRecDepth 100000 in
theorem cloneS_calls (v : Value) (l : List (List UInt8)) (w : World) (h : TRow w v l) (hlen : l.length ≤ 1000000) :
    Calls Try.prog 49 #[v] w fun e w' => ∃ v', e = .returned v' ∧ OwnS w' w.heap.size v' l ∧ Below w.heap.size w w' := by
  rcases h with ⟨rfl, a, c, rfl⟩ | ⟨b, o, c, rfl, hb, hc, hcell⟩
  · cases a with
    | none => exact (Try.slices_Clone_string_nil 0 c w).mono fun e w' ⟨he, hw⟩ => ⟨_, he, World.ownsRow_nil _ _ _ _, by rw [hw]; exact Below.refl _ _⟩
    | some a => exact (Try.slices_Clone_string_zero a c w).mono fun e w' ⟨v', he, ho, _, hb⟩ => ⟨v', he, ho, hb⟩
  · have h := Try.slices_Clone_string b o l.length c (l.map fun x => ⟨x.toArray⟩) w (by simp) (by omega) (fun j hj => by
      rw [List.length_map] at hj
      have := hcell j l[j] (List.getElem?_eq_getElem hj)
      rw [this]
      simp [str, hj])
    refine h.mono fun e w' ⟨v', he, ho, _, hb⟩ => ⟨v', he, ?_, hb⟩
    have e1 : ((l.map fun x => (⟨x.toArray⟩ : ByteArray)).take l.length).map Value.string = l.map str := by
      rw [List.take_of_length_le (by simp), List.map_map]; rfl
    rw [e1] at ho
    exact ho
theorem sort_calls (v : Value) (l : List (List UInt8)) (w : World) (base : Nat) (hown : OwnS w base v l) (hr : ∀ p ∈ l, rightN p = true) (hlen : l.length ≤ 1000000) (hv : v ≠ .slice none 0 0) :
    Calls Try.prog 50 #[v, .func (.func 43) #[] #[]] w fun e w' => e = .returned (.tuple #[]) ∧ ∃ ts : List (List UInt8), ts.Perm l ∧ (∀ i j, i < j → j < ts.length → nmC (ts.toArray[i]!) (ts.toArray[j]!) ≤ 0) ∧ OwnS w' base v ts ∧ w.grownBy w' v.ownBlock := by
  have hz : (rnames l hr).toArray.size = l.length := by
    have := congrArg List.length (rnames_val l hr)
    rw [List.length_map] at this
    simpa using this
  obtain ⟨g, cap, rfl, hbase, hlt, hnc, hcm, hlz, hH⟩ := Lib.holds_of_ownsRow (enc := encR) (zs := rnames l hr) (by rw [rnames_enc, rnames_val]; exact hown) hv
  have h := Try.slices_SortFunc encR encR_one cfR cfR_swo 43 #[] g 0 cap (rnames l hr).toArray w (enters_of Try.func43 (by kernel_rfl) rfl) (order_lays g 0 _ w) hH hlt (by rw [hz]; omega)
  rw [hz] at h
  refine h.mono ?_
  rintro e w' ⟨he, d', n, os, hp, hs, hw⟩
  obtain ⟨p1, _, p3⟩ := hp
  rw [hz] at p1
  have e1 : d'.extract 0 l.length = d' := by rw [← p1]; simp
  have e2 : (rnames l hr).toArray.extract 0 l.length = (rnames l hr).toArray := by rw [← hz]; simp
  rw [e1, e2] at p3
  have hperm : (d'.map (·.1)).toList.Perm l := by
    have := p3.map (fun x : RName => x.1)
    rw [List.toList_toArray, rnames_val] at this
    simpa using this
  refine ⟨he, (d'.map (·.1)).toList, hperm, ?_, ?_, ?_⟩
  · intro i j hij hj
    have hjd : j < d'.size := by simpa using hj
    have := hs i j (Nat.zero_le _) hij (by omega)
    unfold ltOf at this
    have := of_decide_eq_false this
    rw [cfR_nm] at this
    have h1 : (d'.map (·.1)).toList.toArray[i]! = d'[i]!.1 := by simp [show i < d'.size by omega]
    have h2 : (d'.map (·.1)).toList.toArray[j]! = d'[j]!.1 := by simp [hjd]
    rw [h1, h2]
    have := nmC_good.anti d'[i]!.1 d'[j]!.1
    omega
  · rw [hw]
    unfold sortWorld
    rw [putRow_enc]
    obtain ⟨_, ⟨e0, _⟩ | ⟨g', cap', cur, e0, q1, q2, q3, q4, q5, q6⟩⟩ := hown
    · cases e0
    · simp only [Value.slice.injEq, Option.some.injEq, Addr.mk.injEq] at e0
      obtain ⟨⟨rfl, _⟩, _, rfl⟩ := e0
      have hl := hperm.length_eq
      have := ownsRow_sorted (base := base) (n := n) (os := os) (ss := l) (ts := (d'.map (·.1)).toList) hl hbase q2 q3 q4 q5
      rw [← hl] at this
      rw [show d'.map (·.1) = (d'.map (·.1)).toList.toArray from rfl]
      unfold OwnS
      rw [← hl]
      exact this
  · rw [hw]
    unfold sortWorld
    rw [putRow_enc]
    exact grownBy_sorted _
end Go.Proofs.Ytdaalpiiagmdfaa
