/-
  CONTRACT of key.Order, at fewer than twenty keys: what the stable sort of so few does, to the element.
-/
import Derived.Test.YtapaccbffhcjdaaDoorKeySearch
import Derived.Shelf.SlSortCmp.Insertion1
import Derived.Lib.OwnBridge
namespace Go.Proofs.YtapaccbffhcjdaaDoor
open Go.RowKit Go.Shelf Go.Sort

def encX (n : Nat) (x : Fin n) : Value := .int .i64 ((x.1 : Nat) : Int)
theorem encX_one (n : Nat) : OneCell (encX n) := fun _ => rfl
def cfX (l : List Ky) (x y : Fin l.length) : Int := cfK (kq l x.1) (kq l y.1)
def idX (n : Nat) : List (Fin n) := List.finRange n
theorem KRow.keep {w w' : World} {B : Nat} {v : Value} {l : List Ky} (h : KRow w v l) (hB : B = w.heap.size) (hb : ∀ k, k < B → w'.heap[k]? = w.heap[k]?) (hs : B ≤ w'.heap.size) : KRow w' v l := by
  subst hB
  rcases h with h | ⟨b, o, c, rfl, h1, h2, h3, h4⟩
  · exact .inl h
  · exact .inr ⟨b, o, c, rfl, Nat.lt_of_lt_of_le h1 hs, h2, h3, fun t u ht => by rw [← h4 t u ht]; simp only [World.cell?, hb b h1]⟩

set_option maxRecDepth 100000 in
set_option maxHeartbeats 1000000 in
theorem order1_calls (B0 : Nat) (v : Value) (l : List Ky) (w : World) (hbox : Boxed w B0 28 v) (h : KRow w v l) (i j : Nat) (hi : i < l.length) (hj : j < l.length) (hn : l.length ≤ 1000000) :
    Calls Tryd.prog 61 #[.int .i64 (i : Int), .int .i64 (j : Int), .pointer (some ⟨B0, 0, none⟩)] w fun e w' => e = .returned (.int .i64 (cfK (kq l i) (kq l j))) ∧ Below w.heap.size w w' := by
  have mixed : Tryd.prog.follows .mixedOrders = true := by kernel_rfl
  rcases h with ⟨rfl, _⟩ | ⟨b, o, c, rfl, q1, q2, q3, q4⟩
  · cases hi
  · have hr : KRow w (.slice (some ⟨b, o, none⟩) l.length c) l := .inr ⟨b, o, c, rfl, q1, q2, q3, q4⟩
    obtain ⟨-, a1, a2, a3⟩ := hr.cells i hi
    obtain ⟨-, b1, b2, b3⟩ := hr.cells j hj
    have hc := hbox.cell
    have hB0 : B0 < w.heap.size := (Array.getElem?_eq_some_iff.1 hbox).1
    obtain ⟨x, hx⟩ : ∃ x, kq l i = x := ⟨_, rfl⟩
    obtain ⟨y, hy⟩ : ∃ y, kq l j = y := ⟨_, rfl⟩
    obtain ⟨n, hln⟩ : ∃ n, l.length = n := ⟨_, rfl⟩
    rw [hx] at a1 a2 a3
    rw [hy] at b1 b2 b3
    rw [hx, hy]
    rw [hln] at hi hj hn hc
    have l1 := fun n os => Go.cell_grown (n := n) (os := os) (w := w) (a := ⟨b, o + i * 3, none⟩) q1 a1
    have l2 := fun n os => Go.cell_grown (n := n) (os := os) (w := w) (a := ⟨b, o + i * 3 + 1, none⟩) q1 a2
    have l3 := fun n os => Go.cell_grown (n := n) (os := os) (w := w) (a := ⟨b, o + i * 3 + 2, none⟩) q1 a3
    have k1 := fun n os => Go.cell_grown (n := n) (os := os) (w := w) (a := ⟨b, o + j * 3, none⟩) q1 b1
    have k2 := fun n os => Go.cell_grown (n := n) (os := os) (w := w) (a := ⟨b, o + j * 3 + 1, none⟩) q1 b2
    have k3 := fun n os => Go.cell_grown (n := n) (os := os) (w := w) (a := ⟨b, o + j * 3 + 2, none⟩) q1 b3
    have c1 := fun n os => Go.cell_grown (n := n) (os := os) (w := w) (a := ⟨B0, 0, none⟩) hB0 hc
    have i0 := Lib.hid (fun n os => Drawn.calls_grow (orderK_calls x y (Go.Sort.grow (w.drewN n) os)))
    obtain ⟨z, hz⟩ : ∃ z, cfK x y = z := ⟨_, rfl⟩
    rw [hz] at i0
    rw [hz]
    have hin : (i : Int) < (n : Int) := by omega
    have hjn : (j : Int) < (n : Int) := by omega
    clear hx hy hz a1 a2 a3 b1 b2 b3 hr q4 hbox hc hln
    go_enter Tryd.func61, Tryd.ntmps61
    go_wp2_with fail
    go_quiet_grown (first | exact Calls.grown_of (i0.out _ _))
    go_wp2
    go_ret
    exact ⟨rfl, below_grow w _ _⟩
set_option maxRecDepth 100000 in
/-- What the sort asks of it. -/
theorem order1_lays (B0 : Nat) (v : Value) (l : List Ky) [Inhabited (Fin l.length)] (w0 w : World) (hbox : Boxed w0 B0 28 v) (h : KRow w0 v l) (hn : l.length ≤ 1000000) (hb : Below w0.heap.size w0 w) (blk : Nat) (hblk : w0.heap.size ≤ blk) :
    CmpLays1 Tryd.prog 61 #[.pointer (some ⟨B0, 0, none⟩)] (encX l.length) (cfX l) blk 0 l.length w := fun m os dk hdk x y => by
  have hbW : Below w0.heap.size w0 (sortWorld (encX l.length) w blk 0 m dk os) := by
    unfold sortWorld
    have h1 : Below w0.heap.size w0 (putRow (encX l.length) (Sort.ahead w m) blk 0 dk) := Lib.below_putRow hb hblk
    have h2 := below_grow (putRow (encX l.length) (Sort.ahead w m) blk 0 dk) 0 os
    exact h1.trans (h2.mono h1.size)
  exact Drawn.calls_grow (order1_calls B0 v l _ ((hbW.block _ (Array.getElem?_eq_some_iff.1 hbox).1).trans hbox) (h.below hbW) x.1 y.1 x.2 y.2 hn)
theorem Tryd.info_int : (Tryd.prog.info? 3).map (fun i => (i.zero, i.size, i.bytes)) = some (some (.int .i64 0), 1, 8) := by kernel_rfl
theorem irow_own {w : World} {base b n cap : Nat} {xs : List Value} {f : Nat → Nat} (h : w.ownsRow base 3 1 (.slice (some ⟨b, 0, none⟩) n cap) n xs) (hx : ∀ p, p < n → xs[p]? = some (.int .i64 (f p : Int))) : IRow w b n f ∧ base ≤ b := by
  obtain ⟨hl, ⟨e, _⟩ | ⟨g, c, cur, e, hb, hg, hn, hm, hs, ht⟩⟩ := h
  · cases e
  · cases e
    refine ⟨⟨(Array.getElem?_eq_some_iff.1 hg).1, fun p hp => ?_, fun p hp => by simp [World.frozen?, hg]⟩, hb⟩
    have := hx p hp
    rw [← ht, List.getElem?_take_of_lt (by omega), Array.getElem?_toList] at this
    simp [World.cell?, hg, this]

set_option maxRecDepth 100000 in
set_option maxHeartbeats 1000000 in
/-- The stable sort of fewer than twenty indexes. -/
theorem stable_few (l : List Ky) [Inhabited (Fin l.length)] (g : Nat) (cb : Array Value) (eg : ∀ args w, (callFunc g args).run Tryd.prog w = .ok (.enter g args) w) (blk : Nat) (d : Array (Fin l.length)) (w : World) (hlay : CmpLays1 Tryd.prog g cb (encX l.length) (cfX l) blk 0 l.length w) (hH : Holds (encX l.length) w blk 0 d) (hblk : blk < w.heap.size) (hd : d.size = l.length) (hn : l.length < 20) :
    Calls Tryd.prog 83 #[.slice (some ⟨blk, 0, none⟩) l.length l.length, .int .i64 (l.length : Int), .func (.func g) #[] cb] w fun e w' => e = .returned (.tuple #[]) ∧ SW (encX l.length) w blk 0 (Sort.insertionSort (ltOf (cfX l)) d 0 l.length) w' := by
  have HC := Lib.hid (Any.insertionSortCmpFunc_s Tryd.laysSlF20_f95 (encX l.length) (cfX l) g cb blk 0 l.length 0 l.length d d w w eg (by rw [hd]; exact hlay) ⟨encX_one _, hH, hblk⟩ rfl (SW.start hH) (Nat.zero_le _) (by omega) (by omega))
  rw [hd] at HC
  obtain ⟨n, hln⟩ : ∃ n, l.length = n := ⟨_, rfl⟩
  have HN := Lib.hid hln
  rw [hln] at hn
  generalize hS : SW (encX l.length) w blk 0 (Sort.insertionSort (ltOf (cfX l)) d 0 l.length) = S at *
  rw [hln] at HC ⊢
  clear hS hlay hH eg hln hd
  have n1 : ¬ (20 : Int) ≤ (n : Int) := by omega
  have n2 : ¬ (20 : Int) < (n : Int) := by omega
  go_enter Tryd.func83, Tryd.ntmps83
  go_wp2_with fail
  go_loopw [7, 8] (fun s7 s8 wr => s7 = .int .i64 0 ∧ s8 = .int .i64 20 ∧ wr = w) (fun _ _ _ => 0)
  case atStart => exact ⟨rfl, rfl, rfl⟩
  case round =>
    obtain ⟨rfl, rfl, rfl⟩ := hrel
    go_wp2_with fail
    refine HC.out.mono ?_
    rintro e w1 ⟨rfl, hs⟩
    have HS := Lib.hid hs
    clear hs
    go_wp2_with fail
    go_loopw [6] (fun s6 wr => s6 = .int .i64 20 ∧ wr = w1) (fun _ _ => 0)
    case atStart => exact ⟨rfl, rfl⟩
    case round =>
      obtain ⟨rfl, rfl⟩ := hrel
      go_wp2
      go_end0
      exact ⟨rfl, HS.out⟩

set_option maxRecDepth 100000 in
theorem stableF_few (l : List Ky) [Inhabited (Fin l.length)] (g : Nat) (cb : Array Value) (eg : ∀ args w, (callFunc g args).run Tryd.prog w = .ok (.enter g args) w) (blk : Nat) (d : Array (Fin l.length)) (w : World) (hlay : CmpLays1 Tryd.prog g cb (encX l.length) (cfX l) blk 0 l.length w) (hH : Holds (encX l.length) w blk 0 d) (hblk : blk < w.heap.size) (hd : d.size = l.length) (hn : l.length < 20) :
    Calls Tryd.prog 60 #[.slice (some ⟨blk, 0, none⟩) l.length l.length, .func (.func g) #[] cb] w fun e w' => e = .returned (.tuple #[]) ∧ SW (encX l.length) w blk 0 (Sort.insertionSort (ltOf (cfX l)) d 0 l.length) w' := by
  have HC := Lib.hid (stable_few l g cb eg blk d w hlay hH hblk hd hn)
  generalize hS : SW (encX l.length) w blk 0 (Sort.insertionSort (ltOf (cfX l)) d 0 l.length) = S at *
  obtain ⟨n, hln⟩ : ∃ n, l.length = n := ⟨_, rfl⟩
  rw [hln] at HC ⊢
  clear hS hlay hH eg hln hd
  go_enter Tryd.func60, Tryd.ntmps60
  go_wp2_with fail
  refine HC.out.mono ?_
  rintro e w1 ⟨rfl, hs⟩
  have HS := Lib.hid hs
  clear hs
  go_wp2
  go_end0
  exact ⟨rfl, HS.out⟩
theorem sw_below (l : List Ky) [Inhabited (Fin l.length)] {w0 w W : World} {blk : Nat} {dk : Array (Fin l.length)} (hs : SW (encX l.length) w blk 0 dk W) (hb : Below w0.heap.size w0 w) (hblk : w0.heap.size ≤ blk) : Below w0.heap.size w0 W := by
  obtain ⟨m, os, rfl⟩ := hs
  unfold sortWorld
  have h1 : Below w0.heap.size w0 (putRow (encX l.length) (Sort.ahead w m) blk 0 dk) := Lib.below_putRow hb hblk
  have h2 := below_grow (putRow (encX l.length) (Sort.ahead w m) blk 0 dk) 0 os
  exact h1.trans (h2.mono h1.size)
theorem sw_irow (l : List Ky) [Inhabited (Fin l.length)] {w W : World} {blk : Nat} {d dk : Array (Fin l.length)} (hs : SW (encX l.length) w blk 0 dk W) (R : Row1 (encX l.length) w blk 0 d) (he : dk.size = d.size) (hn : d.size = l.length) : IRow W blk l.length (fun p => (dk[p]!).1) := by
  have hz : w.heap.size ≤ W.heap.size := by
    obtain ⟨n, os, rfl⟩ := hs
    unfold sortWorld
    have := (below_grow (putRow (encX l.length) (Sort.ahead w n) blk 0 dk) 0 os).size
    have h2 : (putRow (encX l.length) (Sort.ahead w n) blk 0 dk).heap.size = w.heap.size := by simp [putRow, mapBlock, Sort.ahead]
    rw [← h2]
    exact this
  refine ⟨Nat.lt_of_lt_of_le R.hblk hz, fun p hp => ?_, fun p hp => ?_⟩
  · have := hs.c1 R he p (by omega); rwa [Nat.zero_add] at this
  · have := hs.f1 R he p (by omega); rwa [Nat.zero_add] at this
/-- The order of fewer than twenty keys, as the sort leaves it. -/
def fewI (l : List Ky) [Inhabited (Fin l.length)] (p : Nat) : Nat := (Sort.insertionSort (ltOf (cfX l)) (idX l.length).toArray 0 l.length)[p]?.elim 0 (fun x => x.1)

set_option maxRecDepth 100000 in
set_option maxHeartbeats 1000000 in
/-- key.Order, at fewer than twenty keys. -/
theorem Order_few (v : Value) (l : List Ky) [Inhabited (Fin l.length)] (w : World) (h : KRow w v l) (hn : l.length < 20) :
    Calls Tryd.prog 30 #[v] w fun e w' => ∃ b, e = .returned (.slice (some ⟨b, 0, none⟩) l.length l.length) ∧ (IRow w' b l.length (fewI l) ∧ w.heap.size ≤ b) ∧ Below w.heap.size w w' := by
  obtain ⟨i0, hi0, hz0, hz1, hz2⟩ := info_parts Tryd.info_int
  have HI := Lib.hid hi0; have HZ0 := Lib.hid hz0; have HZ1 := Lib.hid hz1; have HZ2 := Lib.hid hz2
  have HR := Lib.hid h
  have HB0 := Lib.hid ((Below.refl w.heap.size w).alloc (Nat.le_refl _) (.cells #[v] 28))
  have HBx := Lib.hid (show Boxed (w.alloc (.cells #[v] 28)) w.heap.size 28 v from Boxed.new w _ _)
  obtain ⟨a, c, rfl, -, -⟩ := h.shape
  obtain ⟨n, hln⟩ : ∃ n, l.length = n := ⟨_, rfl⟩
  have HN := Lib.hid hln
  have hb := HBx.out.cell
  rw [hln] at hb hn HB0 HBx HR
  clear h hi0 hz0 hz1 hz2
  rw [hln]
  go_enter Tryd.func30, Tryd.ntmps30
  clear hln
  go_wp2_with (at_make; go_must (refine wpList_make_full _ rfl _ _ 54 rfl (w.heap.size + 1) 3 i0 (.int .i64 0) 1 Tryd.underlying54 HI.out HZ0.out HZ1.out .i64 .i64 (n : Int) (n : Int) n rfl rfl rfl rfl (by rw [HZ2.out]; omega) (by unfold maxLen; omega) (by simp) ?_; intro w1 ho1 hg1; have HO1 := Lib.hid ho1; have HG1 := Lib.hid hg1; clear ho1 hg1))
  have HW0 := Lib.hid (show (w.alloc (.cells #[.slice a n c] 28)).heap.size = w.heap.size + 1 by simp)
  go_loopw [4, 10] (fun s4 s10 wr => ∃ k : Nat, k ≤ n ∧ s10 = .int .i64 (k : Int) ∧ IRow wr (w.heap.size + 1) n (fun p => if p < k then p else 0) ∧ Below (w.heap.size + 1) (w.alloc (.cells #[.slice a n c] 28)) wr) (fun _ s10 _ => n - (intOf s10).toNat)
  case atStart =>
    have hB1 := HG1.out
    refine ⟨0, Nat.zero_le _, rfl, ?_, (Below.refl _ _).grown hB1 (Nat.le_of_eq HW0.out.symm) (fun j hj => by cases hj)⟩
    have ho := HO1.out
    rw [World.size_alloc] at ho
    refine (irow_own ho (fun p hp => ?_)).1
    rw [show (Value.int IntKind.i64 0).cells = #[Value.int IntKind.i64 0] from rfl, toList_madeCells_one]
    simp [hp]
  case round =>
    obtain ⟨k, hk, rfl, hR, hB⟩ := hrel
    have HRow := Lib.hid hR; have HB := Lib.hid hB
    clear hB
    by_cases hlt : k < n
    · have hlt' : (k : Int) < (n : Int) := by omega
      have c1 := hR.cell k hlt
      have f1 := hR.frozen k hlt
      clear hR
      go_wp2
      go_roundw
      case rel =>
        refine ⟨k + 1, hlt, by go_num, ?_, HB.out.setCell (p := ⟨w.heap.size + 1, k, none⟩) (Nat.le_refl _) _⟩
        have h1 := HRow.out.set hlt k
        have e : (fun p => if p = k then k else if p < k then p else 0) = fun p => if p < k + 1 then p else 0 := by
          funext p
          by_cases e1 : p = k
          · subst e1; simp
          · by_cases e2 : p < k
            · rw [if_neg e1, if_pos e2, if_pos (by omega)]
            · rw [if_neg e1, if_neg e2, if_neg (by omega)]
        rw [e] at h1
        exact h1
      case measure => simp [intOf]; omega
    · have hkn : k = n := by omega
      have hnl : ¬ (n : Int) < (n : Int) := by omega
      subst hkn
      have hbel : Below (w.alloc (.cells #[.slice a k c] 28)).heap.size (w.alloc (.cells #[.slice a k c] 28)) wr := by rw [HW0.out]; exact HB.out
      have hlay := order1_lays w.heap.size (.slice a k c) l _ wr HBx.out (HR.out.below HB0.out) (by have := HN.out; omega) hbel (w.heap.size + 1) (Nat.le_of_eq HW0.out)
      have hsz : (idX l.length).toArray.size = l.length := by simp [idX]
      have hH : Holds (encX l.length) wr (w.heap.size + 1) 0 (idX l.length).toArray := by
        intro j hj
        rw [hsz] at hj
        have hjk : j < k := by rw [← HN.out]; exact hj
        have e : encX l.length ((idX l.length).toArray[j]!) = .int .i64 (j : Int) := by
          rw [getElem!_pos _ _ (by rw [hsz]; exact hj)]
          simp [encX, idX]
        rw [Nat.zero_add, e]
        have h1 := HRow.out.cell j hjk
        rw [if_pos hjk] at h1
        exact ⟨h1, HRow.out.frozen j hjk⟩
      have hC := stableF_few l 61 #[.pointer (some ⟨w.heap.size, 0, none⟩)] (enters_of Tryd.func61 (by kernel_rfl) rfl) (w.heap.size + 1) (idX l.length).toArray wr hlay hH HRow.out.lt hsz (by rw [HN.out]; exact hn)
      have HEnd := Lib.hid (fun (W : World) (hs : SW (encX l.length) wr (w.heap.size + 1) 0 (Sort.insertionSort (ltOf (cfX l)) (idX l.length).toArray 0 l.length) W) => show (IRow W (w.heap.size + 1) l.length (fewI l) ∧ w.heap.size ≤ w.heap.size + 1) ∧ Below w.heap.size w W from by
        have hsw : SWO (ltOf (cfX l)) := ⟨fun x => cfK_swo.irrefl _, fun x y z h1 h2 => cfK_swo.trans _ _ _ h1 h2, fun x y z h1 h2 => cfK_swo.ntrans _ _ _ h1 h2⟩
        have hsz2 : (Sort.insertionSort (ltOf (cfX l)) (idX l.length).toArray 0 l.length).size = (idX l.length).toArray.size := (insertionSort_holds hsw (idX l.length).toArray 0 l.length (Nat.zero_le _) (by rw [hsz]; exact Nat.le_refl _)).1.1
        have hr := sw_irow l hs ⟨encX_one _, hH, HRow.out.lt⟩ hsz2 hsz
        refine ⟨⟨⟨hr.lt, fun p hp => ?_, hr.frozen⟩, Nat.le_succ _⟩, HB0.out.trans ((sw_below l hs hbel (Nat.le_of_eq HW0.out)).mono (by rw [HW0.out]; exact Nat.le_succ _))⟩
        have hp2 : p < (Sort.insertionSort (ltOf (cfX l)) (idX l.length).toArray 0 l.length).size := by rw [hsz2, hsz]; exact hp
        have e1 : fewI l p = ((Sort.insertionSort (ltOf (cfX l)) (idX l.length).toArray 0 l.length)[p]?).elim 0 (fun x => x.1) := rfl
        have e2 : ((Sort.insertionSort (ltOf (cfX l)) (idX l.length).toArray 0 l.length)[p]!) = (Sort.insertionSort (ltOf (cfX l)) (idX l.length).toArray 0 l.length)[p] := getElem!_pos _ p hp2
        rw [hr.cell p hp, e1, Array.getElem?_eq_getElem hp2, e2]
        rfl)
      generalize SW (encX l.length) wr (w.heap.size + 1) 0 (Sort.insertionSort (ltOf (cfX l)) (idX l.length).toArray 0 l.length) = S at *
      rw [HN.out] at hC HEnd
      have HC := Lib.hid hC
      clear hC hH hlay hbel hR
      go_wp2_with fail
      refine HC.out.mono ?_
      rintro e w5 ⟨rfl, hs⟩
      have HS := Lib.hid hs
      clear hs
      go_wp2
      go_ret
      exact ⟨_, rfl, HEnd.out _ HS.out⟩
end Go.Proofs.YtapaccbffhcjdaaDoor
