/-
  CONTRACTS of field.rightWants and field.wanted; nothing that was there is written.
-/
import Derived.Test.YtlohggdabpfkhaaFieldPlace
import Derived.Laws.StructEq
namespace Go.Proofs.Ytlohggdabpfkhaa
open Go.RowKit Pl

/-- A want: its tag, whether it must be there, its limits. -/
structure Wnt where
  tag : Int
  must : Bool
  least : Int
  most : Int
deriving DecidableEq
def wz : Wnt := ⟨0, false, 0, 0⟩
def wg (L : List Wnt) (i : Nat) : Wnt := L.getD i wz
def wcell (p : Wnt) (j : Nat) : Option Value := #[Value.int .i64 p.tag, .bool p.must, .int .i64 p.least, .int .i64 p.most][j]?
/-- THE VALUE v READS AS THE WANTS L. -/
def WRow (w : World) (v : Value) (L : List Wnt) : Prop :=
  (∃ a c, v = .slice a 0 c ∧ L = [] ∧ c ≤ maxLen) ∨ ∃ (b off cap : Nat), v = .slice (some ⟨b, off, none⟩) L.length cap ∧ L.length ≤ cap ∧ cap ≤ maxLen ∧
    ∀ i, i < L.length → w.cell? ⟨b, off + i * 4, none⟩ = some (.int .i64 (wg L i).tag) ∧ w.cell? ⟨b, off + i * 4 + 1, none⟩ = some (.bool (wg L i).must) ∧ w.cell? ⟨b, off + i * 4 + 2, none⟩ = some (.int .i64 (wg L i).least) ∧ w.cell? ⟨b, off + i * 4 + 3, none⟩ = some (.int .i64 (wg L i).most)
theorem WRow.below {w w' : World} {v : Value} {L : List Wnt} (h : WRow w v L) (hb : Below w.heap.size w w') : WRow w' v L := by
  obtain hn | ⟨b, off, cap, hv, h1, h2, h3⟩ := h
  · exact .inl hn
  · refine .inr ⟨b, off, cap, hv, h1, h2, fun i hi => ?_⟩
    obtain ⟨c0, c1, c2, c3⟩ := h3 i hi
    exact ⟨(hb.cell (p := ⟨b, _, none⟩) (block_lt_of_cell c0)).trans c0, (hb.cell (p := ⟨b, _, none⟩) (block_lt_of_cell c1)).trans c1, (hb.cell (p := ⟨b, _, none⟩) (block_lt_of_cell c2)).trans c2, (hb.cell (p := ⟨b, _, none⟩) (block_lt_of_cell c3)).trans c3⟩

def limOk (p : Wnt) : Bool := decide (0 ≤ p.least ∧ p.least ≤ p.most ∧ p.most ≤ 16384)
/-- Whether wants are right, from a room on. -/
def wfits : Nat → Int → List Wnt → Bool
  | _, _, [] => true
  | n, a, p :: L => takeOk n 16384 a p.tag 0 && (limOk p && wfits (n - 1) p.tag L)
def rightW (L : List Wnt) : Bool := wfits 64 0 L
theorem wfits_step (n : Nat) (a : Int) (L : List Wnt) (k : Nat) (hk : k < L.length) : wfits n a (L.drop k) = (takeOk n 16384 a (wg L k).tag 0 && (limOk (wg L k) && wfits (n - 1) (wg L k).tag (L.drop (k + 1)))) := by
  rw [List.drop_eq_getElem_cons hk]
  simp [wfits, wg, List.getD_eq_getElem?_getD, hk]

set_option maxRecDepth 100000 in
set_option maxHeartbeats 2000000 in
theorem rightWants_calls (v : Value) (L : List Wnt) (w : World) (h : WRow w v L) :
    Calls Try.prog 73 #[v] w fun e w' => e = .returned (.bool (rightW L)) ∧ Below w.heap.size w w' := by
  obtain ⟨a, c, rfl, rfl, -⟩ | ⟨b, off, cap, rfl, hc, hm, hcell⟩ := h
  · go_enter Try.func73, Try.ntmps73
    go_wp2_with (first
      | (go_at_call 102; refine (wholeRoom_calls w).mono ?_; rintro e w1 ⟨rfl, hb1⟩))
    go_loopw [9] (fun i wr => i = .int .i64 0 ∧ Below w.heap.size w wr) (fun i _ => 0)
    case atStart => exact ⟨rfl, hb1.alloc hb1.size _⟩
    case round =>
      obtain ⟨rfl, hbel⟩ := hrel
      go_wp2
      go_ret
      exact ⟨rfl, hbel⟩
  · have HC := Lib.hid hcell
    have hcs : (L.length : Int) ≤ 9223372036854775807 := by unfold maxLen at hm; omega
    clear hcell hm
    go_enter Try.func73, Try.ntmps73
    go_wp2_with (first
      | (go_at_call 102; refine (wholeRoom_calls w).mono ?_; rintro e w1 ⟨rfl, hb1⟩))
    have hb2 := hb1.alloc hb1.size (.cells #[.int .i64 64, .int .i64 16384, .int .i64 0] 150)
    have hr2 : RoomAt (w1.alloc (.cells #[.int .i64 64, .int .i64 16384, .int .i64 0] 150)) w1.heap.size 64 16384 0 := World.alloc_heap_new _ _
    have hg : w.heap.size ≤ w1.heap.size := hb1.size
    generalize w1.alloc (.cells #[.int .i64 64, .int .i64 16384, .int .i64 0] 150) = w2 at *
    generalize w1.heap.size = g at *
    clear hb1
    have HB2 := Lib.hid hb2
    have HR2 := Lib.hid hr2
    clear hb2 hr2
    go_loopw [9] (fun i wr => ∃ k n a, k ≤ L.length ∧ i = .int .i64 (k : Nat) ∧ n ≤ 64 ∧ RoomAt wr g n 16384 a ∧ wfits n a (L.drop k) = rightW L ∧ Below w.heap.size w wr) (fun i _ => L.length - (intOf i).toNat)
    case atStart => exact ⟨0, 64, 0, Nat.zero_le _, rfl, by omega, HR2.out, rfl, HB2.out⟩
    case round =>
      obtain ⟨k, n, a, hk, rfl, hn, hroom, hfit, hbel⟩ := hrel
      by_cases hlt : k < L.length
      · obtain ⟨c0, c1, c2, c3⟩ := HC.out k hlt
        have c0' := (hbel.cell (p := ⟨b, _, none⟩) (block_lt_of_cell c0)).trans c0
        have c1' := (hbel.cell (p := ⟨b, _, none⟩) (block_lt_of_cell c1)).trans c1
        have c2' := (hbel.cell (p := ⟨b, _, none⟩) (block_lt_of_cell c2)).trans c2
        have c3' := (hbel.cell (p := ⟨b, _, none⟩) (block_lt_of_cell c3)).trans c3
        have hst := wfits_step n a L k hlt
        have HF := Lib.hid hfit
        have HS := Lib.hid hst
        have HB := Lib.hid hbel
        have HRm := Lib.hid hroom
        clear hfit hst hbel hroom c0 c1 c2 c3
        generalize wg L k = p at *
        obtain ⟨tg, mu, le, mo⟩ := p
        dsimp only at c0' c1' c2' c3' HS
        have dk : decide ((k : Int) < (L.length : Int)) = true := by simp; omega
        obtain ⟨Fo, hFo⟩ : ∃ o : Obj, o = .cells #[.int .i64 tg, .bool mu, .int .i64 le, .int .i64 mo] 32 := ⟨_, rfl⟩
        have hA := HB.out.alloc HB.out.size (.cells #[.int .i64 tg, .bool mu, .int .i64 le, .int .i64 mo] 32)
        have hR := room_below HRm.out ((Below.refl _ wr).alloc (Nat.le_refl _) (.cells #[.int .i64 tg, .bool mu, .int .i64 le, .int .i64 mo] 32))
        have hN : (wr.alloc (.cells #[.int .i64 tg, .bool mu, .int .i64 le, .int .i64 mo] 32)).heap[wr.heap.size]? = some (.cells #[.int .i64 tg, .bool mu, .int .i64 le, .int .i64 mo] 32 (0, 0)) := World.alloc_heap_new _ _
        have hT := take_calls g n 16384 a tg 0 _ hR hn (Nat.le_refl _)
        have hgne : wr.heap.size ≠ g := by have := room_lt HRm.out; omega
        have HT := Lib.hid hT
        have HA := Lib.hid hA
        have HN := Lib.hid hN
        have HGN := Lib.hid hgne
        clear hT hA hR hN HB hFo Fo hgne
        obtain ⟨tk, htk⟩ : ∃ tk, takeOk n 16384 a tg 0 = tk := ⟨_, rfl⟩
        rw [htk] at HS HT
        cases tk with
        | false =>
          go_wp2_with (go_at_call 103; refine HT.out.mono ?_; rintro e w3 ⟨rfl, -, hgr⟩; have HB3 := Lib.hid (HA.out.grown hgr HA.out.size (fun j e => by cases e; exact hg)); clear hgr)
          go_ret
          exact ⟨ret_bool (by rw [← HF.out, HS.out]; rfl), HB3.out⟩
        | true =>
          have hlim : limOk ⟨tg, mu, le, mo⟩ = decide (0 ≤ le ∧ le ≤ mo ∧ mo ≤ 16384) := rfl
          have HLim := Lib.hid hlim
          clear hlim
          go_wp2_with (go_at_call 103; refine HT.out.mono ?_; rintro e w3 ⟨rfl, hok, hgr⟩; have hN3 := (hgr.block wr.heap.size (by simp) (by simpa using HGN.out)).trans HN.out; have e2 : w3.cell? ⟨wr.heap.size, 2, none⟩ = some (.int .i64 le) := (by simp [World.cell?, hN3]); have e3 : w3.cell? ⟨wr.heap.size, 3, none⟩ = some (.int .i64 mo) := (by simp [World.cell?, hN3]); have HB3 := Lib.hid (HA.out.grown hgr HA.out.size (fun j e => by cases e; exact hg)); have HOK := Lib.hid (hok rfl); clear hgr hok hN3)
          case roundEnd =>
            go_roundw
            case rel => exact ⟨k + 1, n - 1, tg, by omega, by go_num, by omega, HOK.out, by rw [← HF.out, HS.out, HLim.out, show decide (0 ≤ le ∧ le ≤ mo ∧ mo ≤ 16384) = true from decide_eq_true (by omega)]; rfl, HB3.out⟩
            case measure => simp [intOf]; omega
          all_goals
            go_ret
            exact ⟨ret_bool (by rw [← HF.out, HS.out, HLim.out, show decide (0 ≤ le ∧ le ≤ mo ∧ mo ≤ 16384) = false from decide_eq_false (by omega)]; rfl), HB3.out⟩
      · obtain rfl : k = L.length := by omega
        have HF := Lib.hid hfit
        have HB := Lib.hid hbel
        clear hfit hbel hroom
        go_wp2
        go_ret
        refine ⟨ret_bool ?_, HB.out⟩
        rw [← HF.out, List.drop_length]
        rfl

/-- The want with a tag, zero if there is none. -/
def findW (t : Int) : List Wnt → Wnt
  | [] => wz
  | p :: L => if p.tag = t then p else findW t L
def encW (p : Wnt) : Value := .agg #[.int .i64 p.tag, .bool p.must, .int .i64 p.least, .int .i64 p.most]
theorem findW_step (t : Int) (L : List Wnt) (k : Nat) (hk : k < L.length) : findW t (L.drop k) = if (wg L k).tag = t then wg L k else findW t (L.drop (k + 1)) := by
  rw [List.drop_eq_getElem_cons hk]
  simp [findW, wg, List.getD_eq_getElem?_getD, hk]

theorem want_end {w w5 : World} {F base : Nat} {x0 x1 x2 x3 a b c d : Value} (hL : w5.heap[F]? = some (.cells #[x0, x1, x2, x3] 32 (0, 0))) (hB : Below base w w5) (hF : base ≤ F) :
    ((((w5.setCell ⟨F, 0, none⟩ a).setCell ⟨F, 1, none⟩ b).setCell ⟨F, 2, none⟩ c).setCell ⟨F, 3, none⟩ d).heap[F]? = some (.cells #[a, b, c, d] 32 (0, 0)) ∧ Below base w ((((w5.setCell ⟨F, 0, none⟩ a).setCell ⟨F, 1, none⟩ b).setCell ⟨F, 2, none⟩ c).setCell ⟨F, 3, none⟩ d) := by
  have hW := setCell_cells (setCell_cells (setCell_cells (setCell_cells hL 0 a) 1 b) 2 c) 3 d
  exact ⟨hW, (((hB.setCell (p := ⟨F, 0, none⟩) hF _).setCell (p := ⟨F, 1, none⟩) hF _).setCell (p := ⟨F, 2, none⟩) hF _).setCell (p := ⟨F, 3, none⟩) hF _⟩

set_option maxRecDepth 100000 in
set_option maxHeartbeats 2000000 in
theorem wanted_calls (v : Value) (L : List Wnt) (t : Int) (w : World) (h : WRow w v L) :
    Calls Try.prog 113 #[v, .int .i64 t] w fun e w' => e = .returned (encW (findW t L)) ∧ Below w.heap.size w w' := by
  obtain ⟨a, c, rfl, rfl, -⟩ | ⟨b, off, cap, rfl, hc, hm, hcell⟩ := h
  · go_enter Try.func113, Try.ntmps113
    go_wp2
    go_loopw [9] (fun i wr => i = .int .i64 0 ∧ wr = w.alloc (.cells #[.int .i64 0, .bool false, .int .i64 0, .int .i64 0] 32)) (fun i _ => 0)
    case atStart => exact ⟨rfl, rfl⟩
    case round =>
      obtain ⟨rfl, rfl⟩ := hrel
      go_wp2
      exact bodyPost_ret (v := encW wz) (by simp [results, Try.results113, go_sem, encW, wz]) rfl ⟨rfl, (Below.refl _ _).alloc (Nat.le_refl _) _⟩
  · have HC := Lib.hid hcell
    have hcs : (L.length : Int) ≤ 9223372036854775807 := by unfold maxLen at hm; omega
    clear hcell hm
    go_enter Try.func113, Try.ntmps113
    go_wp2
    have hN0 : (w.alloc (.cells #[.int .i64 0, .bool false, .int .i64 0, .int .i64 0] 32)).heap[w.heap.size]? = some (.cells #[.int .i64 0, .bool false, .int .i64 0, .int .i64 0] 32 (0, 0)) := World.alloc_heap_new _ _
    have hA0 := (Below.refl w.heap.size w).alloc (Nat.le_refl _) (.cells #[.int .i64 0, .bool false, .int .i64 0, .int .i64 0] 32)
    go_loopw [9] (fun i wr => ∃ k, k ≤ L.length ∧ i = .int .i64 (k : Nat) ∧ findW t (L.drop k) = findW t L ∧ wr.heap[w.heap.size]? = some (.cells #[.int .i64 0, .bool false, .int .i64 0, .int .i64 0] 32 (0, 0)) ∧ Below w.heap.size w wr) (fun i _ => L.length - (intOf i).toNat)
    case atStart => exact ⟨0, Nat.zero_le _, rfl, rfl, hN0, hA0⟩
    case round =>
      obtain ⟨k, hk, rfl, hfd, hN, hbel⟩ := hrel
      by_cases hlt : k < L.length
      · obtain ⟨c0, c1, c2, c3⟩ := HC.out k hlt
        have c0' := (hbel.cell (p := ⟨b, _, none⟩) (block_lt_of_cell c0)).trans c0
        have c1' := (hbel.cell (p := ⟨b, _, none⟩) (block_lt_of_cell c1)).trans c1
        have c2' := (hbel.cell (p := ⟨b, _, none⟩) (block_lt_of_cell c2)).trans c2
        have c3' := (hbel.cell (p := ⟨b, _, none⟩) (block_lt_of_cell c3)).trans c3
        have hst := findW_step t L k hlt
        have hlt0 : w.heap.size < wr.heap.size := (Array.getElem?_eq_some_iff.1 hN).1
        have hA := hbel.alloc hbel.size (.cells #[.int .i64 (wg L k).tag, .bool (wg L k).must, .int .i64 (wg L k).least, .int .i64 (wg L k).most] 32)
        have hN2 := (heap_alloc_old wr (.cells #[.int .i64 (wg L k).tag, .bool (wg L k).must, .int .i64 (wg L k).least, .int .i64 (wg L k).most] 32) hlt0).trans hN
        have HFd := Lib.hid hfd
        have HS := Lib.hid hst
        generalize wg L k = p at *
        obtain ⟨tg, mu, le, mo⟩ := p
        dsimp only at c0' c1' c2' c3' HS hA hN2
        have f0 : wr.frozen? ⟨w.heap.size, 0, none⟩ = false := by simp [World.frozen?, hN]
        have f1 : wr.frozen? ⟨w.heap.size, 1, none⟩ = false := by simp [World.frozen?, hN]
        have f2 : wr.frozen? ⟨w.heap.size, 2, none⟩ = false := by simp [World.frozen?, hN]
        have f3 : wr.frozen? ⟨w.heap.size, 3, none⟩ = false := by simp [World.frozen?, hN]
        have g0 : wr.cell? ⟨w.heap.size, 0, none⟩ = some (.int .i64 0) := by simp [World.cell?, hN]
        have g1 : wr.cell? ⟨w.heap.size, 1, none⟩ = some (.bool false) := by simp [World.cell?, hN]
        have g2 : wr.cell? ⟨w.heap.size, 2, none⟩ = some (.int .i64 0) := by simp [World.cell?, hN]
        have g3 : wr.cell? ⟨w.heap.size, 3, none⟩ = some (.int .i64 0) := by simp [World.cell?, hN]
        have HN := Lib.hid hN
        have HB := Lib.hid hbel
        have HN2 := Lib.hid hN2
        have HA := Lib.hid hA
        clear c0 c1 c2 c3 hN hN2 hA hfd hst hbel
        go_wp2
        case roundEnd =>
          rename_i hq
          have hq2 : ¬ tg = t := by simpa using hq
          go_roundw
          case rel => exact ⟨k + 1, by omega, by go_num, by rw [← HFd.out, HS.out, if_neg hq2], HN2.out, HA.out⟩
          case measure => simp [intOf]; omega
        rename_i hq
        have hq2 : tg = t := by simpa using hq
        obtain ⟨e1, e2⟩ := want_end (a := .int .i64 tg) (b := .bool mu) (c := .int .i64 le) (d := .int .i64 mo) HN.out HB.out (Nat.le_refl _)
        clear g0 g1 g2 g3 f0 f1 f2 f3
        generalize ((((wr.setCell ⟨w.heap.size, 0, none⟩ (.int .i64 tg)).setCell ⟨w.heap.size, 1, none⟩ (.bool mu)).setCell ⟨w.heap.size, 2, none⟩ (.int .i64 le)).setCell ⟨w.heap.size, 3, none⟩ (.int .i64 mo)) = W at *
        have e3 := (heap_alloc_old W (.cells #[.int .i64 tg, .bool mu, .int .i64 le, .int .i64 mo] 32) (Array.getElem?_eq_some_iff.1 e1).1).trans e1
        have e4 := e2.alloc e2.size (.cells #[.int .i64 tg, .bool mu, .int .i64 le, .int .i64 mo] 32)
        generalize W.alloc (.cells #[.int .i64 tg, .bool mu, .int .i64 le, .int .i64 mo] 32) = W2 at *
        have g0 : W2.cell? ⟨w.heap.size, 0, none⟩ = some (.int .i64 tg) := by simp [World.cell?, e3]
        have g1 : W2.cell? ⟨w.heap.size, 1, none⟩ = some (.bool mu) := by simp [World.cell?, e3]
        have g2 : W2.cell? ⟨w.heap.size, 2, none⟩ = some (.int .i64 le) := by simp [World.cell?, e3]
        have g3 : W2.cell? ⟨w.heap.size, 3, none⟩ = some (.int .i64 mo) := by simp [World.cell?, e3]
        exact bodyPost_ret (v := .agg #[.int .i64 tg, .bool mu, .int .i64 le, .int .i64 mo]) (by simp [results, Try.results113, go_sem, g0, g1, g2, g3]) rfl ⟨by rw [← HFd.out, HS.out, if_pos hq2]; rfl, e4⟩
      · obtain rfl : k = L.length := by omega
        have HFd := Lib.hid hfd
        have HB := Lib.hid hbel
        have HN := Lib.hid hN
        have f0 : wr.frozen? ⟨w.heap.size, 0, none⟩ = false := by simp [World.frozen?, hN]
        have f1 : wr.frozen? ⟨w.heap.size, 1, none⟩ = false := by simp [World.frozen?, hN]
        have f2 : wr.frozen? ⟨w.heap.size, 2, none⟩ = false := by simp [World.frozen?, hN]
        have f3 : wr.frozen? ⟨w.heap.size, 3, none⟩ = false := by simp [World.frozen?, hN]
        have g0 : wr.cell? ⟨w.heap.size, 0, none⟩ = some (.int .i64 0) := by simp [World.cell?, hN]
        have g1 : wr.cell? ⟨w.heap.size, 1, none⟩ = some (.bool false) := by simp [World.cell?, hN]
        have g2 : wr.cell? ⟨w.heap.size, 2, none⟩ = some (.int .i64 0) := by simp [World.cell?, hN]
        have g3 : wr.cell? ⟨w.heap.size, 3, none⟩ = some (.int .i64 0) := by simp [World.cell?, hN]
        clear hfd hbel hN
        go_wp2
        obtain ⟨e1, e2⟩ := want_end (a := .int .i64 0) (b := .bool false) (c := .int .i64 0) (d := .int .i64 0) HN.out HB.out (Nat.le_refl _)
        clear g0 g1 g2 g3 f0 f1 f2 f3
        generalize ((((wr.setCell ⟨w.heap.size, 0, none⟩ (.int .i64 0)).setCell ⟨w.heap.size, 1, none⟩ (.bool false)).setCell ⟨w.heap.size, 2, none⟩ (.int .i64 0)).setCell ⟨w.heap.size, 3, none⟩ (.int .i64 0)) = W2 at *
        have g0 : W2.cell? ⟨w.heap.size, 0, none⟩ = some (.int .i64 0) := by simp [World.cell?, e1]
        have g1 : W2.cell? ⟨w.heap.size, 1, none⟩ = some (.bool false) := by simp [World.cell?, e1]
        have g2 : W2.cell? ⟨w.heap.size, 2, none⟩ = some (.int .i64 0) := by simp [World.cell?, e1]
        have g3 : W2.cell? ⟨w.heap.size, 3, none⟩ = some (.int .i64 0) := by simp [World.cell?, e1]
        exact bodyPost_ret (v := .agg #[.int .i64 0, .bool false, .int .i64 0, .int .i64 0]) (by simp [results, Try.results113, go_sem, g0, g1, g2, g3]) rfl ⟨by rw [← HFd.out, List.drop_length]; rfl, e2⟩
end Go.Proofs.Ytlohggdabpfkhaa
