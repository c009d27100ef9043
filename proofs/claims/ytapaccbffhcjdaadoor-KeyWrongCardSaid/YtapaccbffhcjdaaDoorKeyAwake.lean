/-
  CONTRACT of the law's awake: the chapter's examples come out as it says.
-/
import Derived.Test.YtapaccbffhcjdaaDoorKeyEqual
import Derived.Test.YtapaccbffhcjdaaDoorRegionInv
import Derived.Test.YtapaccbffhcjdaaDoorKeyParse
import Derived.Test.YtapaccbffhcjdaaDoorKeyBytes
import Derived.Test.YtapaccbffhcjdaaDoorKeyNext
import Derived.Laws.Externs
import Derived.Laws.BytesArg
import Derived.Laws.IdiomStrings
import Derived.Lib.AppendStr
import Derived.Lib.BufferRead
namespace Go.Proofs.YtapaccbffhcjdaaDoor
open Go.RowKit Go.Shelf Go.Sort

theorem br_text {w : World} {v : Value} {l : List UInt8} (h : BR w v l) : (convert 26 9 v).run Tryd.prog w = .ok (.string ⟨l.toArray⟩) w := by
  rcases h with ⟨rfl, a, c, rfl, hc⟩ | ⟨b, o, c, rfl, h1, h2, h3, h4⟩
  · cases a with
    | none => exact run_convert_bytes_nil w 26 5 Tryd.underlying26 Tryd.underlying5 0 c 9 Tryd.underlying9
    | some a =>
      rw [run_convert_bytes_string w 26 9 5 (some a) 0 c Tryd.underlying26 Tryd.underlying5 Tryd.underlying9, run_bytesToString w a 0 c [] (by simp [loadCells, loadCellsFrom])]
      rfl
  · refine run_convert_bytes_back w 26 9 5 ⟨b, o, none⟩ c l Tryd.underlying26 Tryd.underlying5 Tryd.underlying9 (fun j hj => ?_)
    rw [Addr.add_lit, h4 j hj]
    simp [List.getD_eq_getElem?_getD, hj]
theorem text_ex : textK (5, 2, 7) = [53, 64, 50, 35, 55] := by
  unfold textK
  rw [dec_small (by decide), dec_small (by decide), dec_small (by decide)]
  rfl
theorem bytes_ex : bytesK (5, 2, 7) = [0, 0, 0, 0, 0, 0, 5, 2, 0, 0, 0, 7] := by decide +kernel
def exL : List Ky := [(5, 1, 1), (3, 0, 0), (5, 1, 1)]
theorem set_ex : setK cfK exL = [(3, 0, 0), (5, 1, 1)] := by decide +kernel
instance exInh : Inhabited (Fin exL.length) := ⟨⟨0, by decide⟩⟩
theorem few_ex : fewI exL 0 = 1 ∧ fewI exL 1 = 0 ∧ fewI exL 2 = 2 := by
  have e : Sort.insertionSort (ltOf (cfX exL)) (idX exL.length).toArray 0 exL.length = #[⟨1, by decide⟩, ⟨0, by decide⟩, ⟨2, by decide⟩] := by
    show Sort.insOuter _ 0 3 1 _ = _
    rw [Sort.insOuter, if_pos (by decide), Sort.insOuter, if_pos (by decide), Sort.insOuter, if_neg (by decide)]
    decide +kernel
  unfold fewI
  rw [e]
  exact ⟨rfl, rfl, rfl⟩
theorem no_ex : ¬ textOk [48, 53, 64, 50, 35, 55] ∧ ¬ textOk [53, 64, 50] ∧ ¬ textOk [53, 64, 49, 55, 35, 48] ∧ ¬ textOk [53, 64, 50, 35, 43, 55] := by
  refine ⟨fun h => ?_, fun h => ?_, fun h => ?_, fun h => ?_⟩
  · exact absurd h.1.1 (by decide)
  · exact absurd h.2.2.1 (by decide)
  · exact absurd h.2.1.2.2 (by decide)
  · exact absurd (h.2.2.2.1 43 (by decide)) (by decide)

set_option maxRecDepth 100000 in
set_option maxHeartbeats 4000000 in
theorem awakeK_calls (w : World) :
    Calls Tryd.prog 13 #[] w fun e w' => e = .returned (.bool true) ∧ Below w.heap.size w w' := by
  have mixed : Tryd.prog.follows .mixedOrders = true := by kernel_rfl
  have HT := Lib.hid (fun W => textK_yes (5, 2, 7) W (by decide) (.inr (by decide)))
  rw [text_ex] at HT
  have HBy := Lib.hid (fun W => bytesK_yes (5, 2, 7) W (by decide))
  rw [bytes_ex] at HBy
  have HCm := Lib.hid (fun W => compareK_calls (5, 2, 7) (5, 3, 0) W)
  rw [show cfK (5, 2, 7) (5, 3, 0) = -1 by decide, show byK (5, 2, 7) (5, 3, 0) = 2 by decide] at HCm
  have HN1 := Lib.hid (fun W => nextK_calls (5, 2, 4294967295) W)
  rw [show nextK (5, 2, 4294967295) = ((5, 3, 0), 0) by decide] at HN1
  have HN2 := Lib.hid (fun W => nextK_calls (5, 16, 4294967295) W)
  rw [show nextK (5, 16, 4294967295) = ((6, 0, 0), 0) by decide] at HN2
  have HBk := Lib.hid (fun W => backK_calls (6, 0, 0) W)
  rw [show backK (6, 0, 0) = ((5, 16, 4294967295), 0) by decide] at HBk
  have HB0 := Lib.hid (Below.refl w.heap.size w)
  go_enter Tryd.func13, Tryd.ntmps13
  go_wp2_with fail
  have HB0 := Lib.hid (show Below w.heap.size w ((w.alloc (.cells #[.int .i64 5, .int .i64 2, .int .i64 7] 23)).alloc (.cells #[.int .i64 5, .int .i64 3, .int .i64 0] 23)) from ((Below.refl _ w).alloc (Nat.le_refl _) _).alloc (by simp) _)
  have HK1_0 := Lib.hid (show KAt ((w.alloc (.cells #[.int .i64 5, .int .i64 2, .int .i64 7] 23)).alloc (.cells #[.int .i64 5, .int .i64 3, .int .i64 0] 23)) w.heap.size (5, 2, 7) from (Below.heap_alloc _ _ _ (by simp)).trans (World.alloc_heap_new w _))
  have HK2_0 := Lib.hid (show KAt ((w.alloc (.cells #[.int .i64 5, .int .i64 2, .int .i64 7] 23)).alloc (.cells #[.int .i64 5, .int .i64 3, .int .i64 0] 23)) (w.heap.size + 1) (5, 3, 0) from by
    have := World.alloc_heap_new (w.alloc (.cells #[.int .i64 5, .int .i64 2, .int .i64 7] 23)) (.cells #[.int .i64 5, .int .i64 3, .int .i64 0] 23)
    rw [World.size_alloc] at this
    exact this)
  refine (HT.out _).mono ?_
  rintro e w1 ⟨rfl, hb1⟩
  have HB1 := Lib.hid (HB0.out.trans (hb1.mono HB0.out.size))
  have HK1_1 := Lib.hid (show KAt w1 w.heap.size (5, 2, 7) from (hb1.block _ HK1_0.out.lt).trans HK1_0.out)
  have HK2_1 := Lib.hid (show KAt w1 (w.heap.size + 1) (5, 3, 0) from (hb1.block _ HK2_0.out.lt).trans HK2_0.out)
  clear hb1
  have x1 := (HK1_1.out.cells 0 (by omega)).1
  have x2 := (HK1_1.out.cells 1 (by omega)).1
  have x3 := (HK1_1.out.cells 2 (by omega)).1
  have y1 := (HK2_1.out.cells 0 (by omega)).1
  have y2 := (HK2_1.out.cells 1 (by omega)).1
  have y3 := (HK2_1.out.cells 2 (by omega)).1
  simp only [fldK] at x1 x2 x3 y1 y2 y3
  go_wp2_with fail
  clear x1 x2 x3 y1 y2 y3
  refine (HBy.out _).mono ?_
  rintro e w2 ⟨⟨vb, rfl, hv⟩, hb2⟩
  have HB2 := Lib.hid (HB1.out.trans (hb2.mono HB1.out.size))
  have HK1_2 := Lib.hid (show KAt w2 w.heap.size (5, 2, 7) from (hb2.block _ HK1_1.out.lt).trans HK1_1.out)
  have HK2_2 := Lib.hid (show KAt w2 (w.heap.size + 1) (5, 3, 0) from (hb2.block _ HK2_1.out.lt).trans HK2_1.out)
  have HV_2 := Lib.hid hv
  clear hv
  clear hb2
  have x1 := (HK1_2.out.cells 0 (by omega)).1
  have x2 := (HK1_2.out.cells 1 (by omega)).1
  have x3 := (HK1_2.out.cells 2 (by omega)).1
  have y1 := (HK2_2.out.cells 0 (by omega)).1
  have y2 := (HK2_2.out.cells 1 (by omega)).1
  have y3 := (HK2_2.out.cells 2 (by omega)).1
  simp only [fldK] at x1 x2 x3 y1 y2 y3
  go_wp2_with fail
  clear x1 x2 x3 y1 y2 y3
  refine (HCm.out _).mono ?_
  rintro e w3 ⟨rfl, hb3⟩
  have HB3 := Lib.hid (HB2.out.trans (hb3.mono HB2.out.size))
  have HK1_3 := Lib.hid (show KAt w3 w.heap.size (5, 2, 7) from (hb3.block _ HK1_2.out.lt).trans HK1_2.out)
  have HK2_3 := Lib.hid (show KAt w3 (w.heap.size + 1) (5, 3, 0) from (hb3.block _ HK2_2.out.lt).trans HK2_2.out)
  have HV_3 := Lib.hid (HV_2.out.below hb3)
  clear hb3
  go_wp2_with fail
  refine (HN1.out _).mono ?_
  rintro e w4 ⟨rfl, hb4⟩
  have HB4 := Lib.hid (HB3.out.trans (hb4.mono HB3.out.size))
  have HK1_4 := Lib.hid (show KAt w4 w.heap.size (5, 2, 7) from (hb4.block _ HK1_3.out.lt).trans HK1_3.out)
  have HK2_4 := Lib.hid (show KAt w4 (w.heap.size + 1) (5, 3, 0) from (hb4.block _ HK2_3.out.lt).trans HK2_3.out)
  have HV_4 := Lib.hid (HV_3.out.below hb4)
  clear hb4
  have ha := (Below.refl w4.heap.size w4).alloc (Nat.le_refl _) (.cells #[.int .i64 5, .int .i64 3, .int .i64 0] 23)
  have HB4a := Lib.hid (HB4.out.trans (ha.mono HB4.out.size))
  have HK1_4a := Lib.hid (show KAt (w4.alloc (.cells #[.int .i64 5, .int .i64 3, .int .i64 0] 23)) w.heap.size (5, 2, 7) from (ha.block _ HK1_4.out.lt).trans HK1_4.out)
  have HK2_4a := Lib.hid (show KAt (w4.alloc (.cells #[.int .i64 5, .int .i64 3, .int .i64 0] 23)) (w.heap.size + 1) (5, 3, 0) from (ha.block _ HK2_4.out.lt).trans HK2_4.out)
  have HK3_4a := Lib.hid (show KAt (w4.alloc (.cells #[.int .i64 5, .int .i64 3, .int .i64 0] 23)) w4.heap.size (5, 3, 0) from World.alloc_heap_new w4 _)
  have HV_4a := Lib.hid (HV_4.out.below ha)
  clear ha
  go_wp2_with fail
  refine (HN2.out _).mono ?_
  rintro e w5 ⟨rfl, hb5⟩
  have HB5 := Lib.hid (HB4a.out.trans (hb5.mono HB4a.out.size))
  have HK1_5 := Lib.hid (show KAt w5 w.heap.size (5, 2, 7) from (hb5.block _ HK1_4a.out.lt).trans HK1_4a.out)
  have HK2_5 := Lib.hid (show KAt w5 (w.heap.size + 1) (5, 3, 0) from (hb5.block _ HK2_4a.out.lt).trans HK2_4a.out)
  have HK3_5 := Lib.hid (show KAt w5 w4.heap.size (5, 3, 0) from (hb5.block _ HK3_4a.out.lt).trans HK3_4a.out)
  have HV_5 := Lib.hid (HV_4a.out.below hb5)
  clear hb5
  have ha := (Below.refl w5.heap.size w5).alloc (Nat.le_refl _) (.cells #[.int .i64 6, .int .i64 0, .int .i64 0] 23)
  have HB5a := Lib.hid (HB5.out.trans (ha.mono HB5.out.size))
  have HK1_5a := Lib.hid (show KAt (w5.alloc (.cells #[.int .i64 6, .int .i64 0, .int .i64 0] 23)) w.heap.size (5, 2, 7) from (ha.block _ HK1_5.out.lt).trans HK1_5.out)
  have HK2_5a := Lib.hid (show KAt (w5.alloc (.cells #[.int .i64 6, .int .i64 0, .int .i64 0] 23)) (w.heap.size + 1) (5, 3, 0) from (ha.block _ HK2_5.out.lt).trans HK2_5.out)
  have HK3_5a := Lib.hid (show KAt (w5.alloc (.cells #[.int .i64 6, .int .i64 0, .int .i64 0] 23)) w4.heap.size (5, 3, 0) from (ha.block _ HK3_5.out.lt).trans HK3_5.out)
  have HK4_5a := Lib.hid (show KAt (w5.alloc (.cells #[.int .i64 6, .int .i64 0, .int .i64 0] 23)) w5.heap.size (6, 0, 0) from World.alloc_heap_new w5 _)
  have HV_5a := Lib.hid (HV_5.out.below ha)
  clear ha
  go_wp2_with fail
  refine (HBk.out _).mono ?_
  rintro e w6 ⟨rfl, hb6⟩
  have HB6 := Lib.hid (HB5a.out.trans (hb6.mono HB5a.out.size))
  have HK1_6 := Lib.hid (show KAt w6 w.heap.size (5, 2, 7) from (hb6.block _ HK1_5a.out.lt).trans HK1_5a.out)
  have HK2_6 := Lib.hid (show KAt w6 (w.heap.size + 1) (5, 3, 0) from (hb6.block _ HK2_5a.out.lt).trans HK2_5a.out)
  have HK3_6 := Lib.hid (show KAt w6 w4.heap.size (5, 3, 0) from (hb6.block _ HK3_5a.out.lt).trans HK3_5a.out)
  have HK4_6 := Lib.hid (show KAt w6 w5.heap.size (6, 0, 0) from (hb6.block _ HK4_5a.out.lt).trans HK4_5a.out)
  have HV_6 := Lib.hid (HV_5a.out.below hb6)
  clear hb6
  have ha := (Below.refl w6.heap.size w6).alloc (Nat.le_refl _) (.cells #[.int .i64 5, .int .i64 16, .int .i64 4294967295] 23)
  have HB6a := Lib.hid (HB6.out.trans (ha.mono HB6.out.size))
  have HK1_6a := Lib.hid (show KAt (w6.alloc (.cells #[.int .i64 5, .int .i64 16, .int .i64 4294967295] 23)) w.heap.size (5, 2, 7) from (ha.block _ HK1_6.out.lt).trans HK1_6.out)
  have HK2_6a := Lib.hid (show KAt (w6.alloc (.cells #[.int .i64 5, .int .i64 16, .int .i64 4294967295] 23)) (w.heap.size + 1) (5, 3, 0) from (ha.block _ HK2_6.out.lt).trans HK2_6.out)
  have HK3_6a := Lib.hid (show KAt (w6.alloc (.cells #[.int .i64 5, .int .i64 16, .int .i64 4294967295] 23)) w4.heap.size (5, 3, 0) from (ha.block _ HK3_6.out.lt).trans HK3_6.out)
  have HK4_6a := Lib.hid (show KAt (w6.alloc (.cells #[.int .i64 5, .int .i64 16, .int .i64 4294967295] 23)) w5.heap.size (6, 0, 0) from (ha.block _ HK4_6.out.lt).trans HK4_6.out)
  have HK5_6a := Lib.hid (show KAt (w6.alloc (.cells #[.int .i64 5, .int .i64 16, .int .i64 4294967295] 23)) w6.heap.size (5, 16, 4294967295) from World.alloc_heap_new w6 _)
  have HV_6a := Lib.hid (HV_6.out.below ha)
  clear ha
  go_wp2_with fail
  obtain ⟨W6, hW6⟩ : ∃ W6, W6 = ((w6.alloc (.cells #[.int .i64 5, .int .i64 16, .int .i64 4294967295] 23)).alloc (.cells #[.int .i64 5, .int .i64 1, .int .i64 1, .int .i64 3, .int .i64 0, .int .i64 0, .int .i64 5, .int .i64 1, .int .i64 1] 23)) := ⟨_, rfl⟩
  have hw : W6.heap[w6.heap.size + 1]? = some (.cells #[.int .i64 5, .int .i64 1, .int .i64 1, .int .i64 3, .int .i64 0, .int .i64 0, .int .i64 5, .int .i64 1, .int .i64 1] 23) := by
    have := World.alloc_heap_new (w6.alloc (.cells #[.int .i64 5, .int .i64 16, .int .i64 4294967295] 23)) (.cells #[.int .i64 5, .int .i64 1, .int .i64 1, .int .i64 3, .int .i64 0, .int .i64 0, .int .i64 5, .int .i64 1, .int .i64 1] 23)
    rw [World.size_alloc] at this
    rw [hW6]
    exact this
  have hrow : KRow W6 (.slice (some ⟨w6.heap.size + 1, 0, none⟩) 3 3) exL := by
    refine .inr ⟨w6.heap.size + 1, 0, 3, rfl, (Array.getElem?_eq_some_iff.1 hw).1, Nat.le_refl _, by unfold maxLen; omega, fun t u ht => ?_⟩
    have e : (#[Value.int .i64 5, .int .i64 1, .int .i64 1, .int .i64 3, .int .i64 0, .int .i64 0, .int .i64 5, .int .i64 1, .int .i64 1] : Array Value)[t]? = some u := by
      rw [← Array.getElem?_toList]
      exact ht
    rw [Nat.zero_add]
    simp only [World.cell?, hw]
    exact e
  have ha := (Below.refl (w6.alloc (.cells #[.int .i64 5, .int .i64 16, .int .i64 4294967295] 23)).heap.size (w6.alloc (.cells #[.int .i64 5, .int .i64 16, .int .i64 4294967295] 23))).alloc (Nat.le_refl _) (.cells #[.int .i64 5, .int .i64 1, .int .i64 1, .int .i64 3, .int .i64 0, .int .i64 0, .int .i64 5, .int .i64 1, .int .i64 1] 23)
  have HB6b := Lib.hid (show Below w.heap.size w W6 from by rw [hW6]; exact HB6a.out.trans (ha.mono HB6a.out.size))
  have HK2_6b := Lib.hid (show KAt W6 (w.heap.size + 1) (5, 3, 0) from by rw [hW6]; exact (ha.block _ HK2_6a.out.lt).trans HK2_6a.out)
  have HK3_6b := Lib.hid (show KAt W6 w4.heap.size (5, 3, 0) from by rw [hW6]; exact (ha.block _ HK3_6a.out.lt).trans HK3_6a.out)
  have HK4_6b := Lib.hid (show KAt W6 w5.heap.size (6, 0, 0) from by rw [hW6]; exact (ha.block _ HK4_6a.out.lt).trans HK4_6a.out)
  have HK5_6b := Lib.hid (show KAt W6 w6.heap.size (5, 16, 4294967295) from by rw [hW6]; exact (ha.block _ HK5_6a.out.lt).trans HK5_6a.out)
  have HV_6b := Lib.hid (show BR W6 vb [0, 0, 0, 0, 0, 0, 5, 2, 0, 0, 0, 7] from by rw [hW6]; exact HV_6a.out.below ha)
  have HR6b := Lib.hid (show KRow W6 (.slice (some ⟨w6.heap.size + 1, 0, none⟩) 3 3) exL from by exact hrow)
  rw [← hW6]
  clear hW6 ha hrow hw
  refine (Sort_calls _ exL W6 HR6b.out (by decide)).mono ?_
  rintro e w7 ⟨vs, rfl, ho7, hb7⟩
  rw [set_ex] at ho7
  have HB7 := Lib.hid (HB6b.out.trans (hb7.mono HB6b.out.size))
  have HK2_7 := Lib.hid (show KAt w7 (w.heap.size + 1) (5, 3, 0) from (hb7.block _ HK2_6b.out.lt).trans HK2_6b.out)
  have HK3_7 := Lib.hid (show KAt w7 w4.heap.size (5, 3, 0) from (hb7.block _ HK3_6b.out.lt).trans HK3_6b.out)
  have HK4_7 := Lib.hid (show KAt w7 w5.heap.size (6, 0, 0) from (hb7.block _ HK4_6b.out.lt).trans HK4_6b.out)
  have HK5_7 := Lib.hid (show KAt w7 w6.heap.size (5, 16, 4294967295) from (hb7.block _ HK5_6b.out.lt).trans HK5_6b.out)
  have HV_7 := Lib.hid (HV_6b.out.below hb7)
  have HR_7 := Lib.hid (HR6b.out.below hb7)
  have HS_7 := Lib.hid ho7.row
  clear hb7 ho7
  go_wp2_with fail
  refine (Search_calls vs [(3, 0, 0), (5, 1, 1)] (4, 0, 0) w7 HS_7.out (by decide)).mono ?_
  rintro e w8 ⟨he8, hb8⟩
  rw [if_pos (show IncK [(3, 0, 0), (5, 1, 1)] by decide), show findI [(3, 0, 0), (5, 1, 1)] (4, 0, 0) = 1 by decide, show decide ((4, 0, 0) ∈ ([(3, 0, 0), (5, 1, 1)] : List Ky)) = false by decide] at he8
  subst he8
  have HB8 := Lib.hid (HB7.out.trans (hb8.mono HB7.out.size))
  have HK2_8 := Lib.hid (show KAt w8 (w.heap.size + 1) (5, 3, 0) from (hb8.block _ HK2_7.out.lt).trans HK2_7.out)
  have HK3_8 := Lib.hid (show KAt w8 w4.heap.size (5, 3, 0) from (hb8.block _ HK3_7.out.lt).trans HK3_7.out)
  have HK4_8 := Lib.hid (show KAt w8 w5.heap.size (6, 0, 0) from (hb8.block _ HK4_7.out.lt).trans HK4_7.out)
  have HK5_8 := Lib.hid (show KAt w8 w6.heap.size (5, 16, 4294967295) from (hb8.block _ HK5_7.out.lt).trans HK5_7.out)
  have HV_8 := Lib.hid (HV_7.out.below hb8)
  have HR_8 := Lib.hid (HR_7.out.below hb8)
  have HS_8 := Lib.hid (HS_7.out.below hb8)
  have hcv := br_text HV_8.out
  have a0 := (HK2_8.out.cells 0 (by omega)).1
  have a1 := (HK2_8.out.cells 1 (by omega)).1
  have a2 := (HK2_8.out.cells 2 (by omega)).1
  have b0 := (HK3_8.out.cells 0 (by omega)).1
  have b1 := (HK3_8.out.cells 1 (by omega)).1
  have b2 := (HK3_8.out.cells 2 (by omega)).1
  have c0 := (HK4_8.out.cells 0 (by omega)).1
  have c1 := (HK4_8.out.cells 1 (by omega)).1
  have c2 := (HK4_8.out.cells 2 (by omega)).1
  have d0 := (HK5_8.out.cells 0 (by omega)).1
  have d1 := (HK5_8.out.cells 1 (by omega)).1
  have d2 := (HK5_8.out.cells 2 (by omega)).1
  simp only [fldK] at a0 a1 a2 b0 b1 b2 c0 c1 c2 d0 d1 d2
  have q1 := fun W => neqK 5 3 0 5 3 0 W
  have q2 := fun W => neqK 6 0 0 6 0 0 W
  have q3 := fun W => neqK 5 16 4294967295 5 16 4294967295 W
  clear hb8
  go_wp2_with fail
  have HC8 := Lib.hid (And.intro no_ex.1 (And.intro no_ex.2.1 (And.intro no_ex.2.2.1 no_ex.2.2.2)))
  obtain ⟨W9, hW9⟩ : ∃ W9, W9 = w8.alloc (.cells #[.string ⟨#[48, 53, 64, 50, 35, 55]⟩, .string ⟨#[53, 64, 50]⟩, .string ⟨#[53, 64, 49, 55, 35, 48]⟩, .string ⟨#[53, 64, 50, 35, 43, 55]⟩] 9) := ⟨_, rfl⟩
  have hw9 : W9.heap[w8.heap.size]? = some (.cells #[.string ⟨#[48, 53, 64, 50, 35, 55]⟩, .string ⟨#[53, 64, 50]⟩, .string ⟨#[53, 64, 49, 55, 35, 48]⟩, .string ⟨#[53, 64, 50, 35, 43, 55]⟩] 9) := by
    rw [hW9]
    exact World.alloc_heap_new w8 _
  have ha := (Below.refl w8.heap.size w8).alloc (Nat.le_refl _) (.cells #[.string ⟨#[48, 53, 64, 50, 35, 55]⟩, .string ⟨#[53, 64, 50]⟩, .string ⟨#[53, 64, 49, 55, 35, 48]⟩, .string ⟨#[53, 64, 50, 35, 43, 55]⟩] 9)
  rw [← hW9] at ha
  have HB9 := Lib.hid (HB8.out.trans (ha.mono HB8.out.size))
  have HR_9 := Lib.hid (HR_8.out.below ha)
  have HS_9 := Lib.hid (HS_8.out.below ha)
  have HStr := Lib.hid (show ∀ (W : World) (k : Nat), Below W9.heap.size W9 W → k < 4 → ∃ s : List UInt8, W.cell? ⟨w8.heap.size, k, none⟩ = some (.string ⟨s.toArray⟩) ∧ ¬ textOk s ∧ s.length ≤ 1000000 from fun W k hb hk => by
    have h9 := (hb.block _ (Array.getElem?_eq_some_iff.1 hw9).1).trans hw9
    obtain rfl | rfl | rfl | rfl : k = 0 ∨ k = 1 ∨ k = 2 ∨ k = 3 := by omega
    · exact ⟨[48, 53, 64, 50, 35, 55], by simp only [World.cell?, h9]; rfl, no_ex.1, by decide⟩
    · exact ⟨[53, 64, 50], by simp only [World.cell?, h9]; rfl, no_ex.2.1, by decide⟩
    · exact ⟨[53, 64, 49, 55, 35, 48], by simp only [World.cell?, h9]; rfl, no_ex.2.2.1, by decide⟩
    · exact ⟨[53, 64, 50, 35, 43, 55], by simp only [World.cell?, h9]; rfl, no_ex.2.2.2, by decide⟩)
  rw [← hW9]
  clear hW9 hw9 ha hcv a0 a1 a2 b0 b1 b2 c0 c1 c2 d0 d1 d2 q1 q2 q3
  go_loopw [21, 22, 23, 116] (fun _ _ _ s116 wr => ∃ k : Nat, k ≤ 4 ∧ s116 = .int .i64 (k : Int) ∧ Below W9.heap.size W9 wr) (fun _ _ _ s116 _ => 4 - (intOf s116).toNat)
  case atStart => exact ⟨0, by omega, rfl, Below.refl _ _⟩
  case round =>
    obtain ⟨k, hk, rfl, hB⟩ := hrel
    have HB := Lib.hid hB
    clear hB
    by_cases hlt : k < 4
    · have hlt' : (k : Int) < 4 := by omega
      obtain ⟨str, hstr, hno, hlen⟩ := HStr.out wr k HB.out hlt
      have HP := Lib.hid (parseK_calls str wr hlen)
      have HNo := Lib.hid hno
      clear hno hlen
      go_wp2_with fail
      refine HP.out.mono ?_
      rintro e wp ⟨he, hbp⟩
      rcases he with ⟨hy, -⟩ | ⟨-, rfl⟩
      · exact absurd hy HNo.out
      have HBP := Lib.hid (HB.out.trans ((hbp.mono HB.out.size)))
      clear hbp hstr
      go_wp2
      go_roundw
      case rel => exact ⟨k + 1, hlt, by go_num, HBP.out.alloc HBP.out.size _⟩
      case measure => simp [intOf]; omega
    · obtain rfl : k = 4 := by omega
      have HBW := Lib.hid (HB9.out.trans (HB.out.mono HB9.out.size))
      have HRW := Lib.hid (HR_9.out.below HB.out)
      have HSW := Lib.hid (HS_9.out.below HB.out)
      go_wp2_with fail
      have hKr := HRW.out
      obtain ⟨-, e0, e1, e2⟩ := hKr.cells 0 (by decide)
      obtain ⟨-, f0, f1, f2⟩ := hKr.cells 1 (by decide)
      clear hKr
      refine (wpIn_wide (n := 5)).1 ?_
      refine wpIn_region_inv (by kernel_rfl) (by kernel_rfl) (fun B a wc => ∃ p1 p2 p3 : Nat, a = { tmps := #[bif B 23 then Value.bool true else u0, Value.pointer (some { block := w.heap.size, off := 0 }), Value.pointer (some { block := w.heap.size + 1, off := 0 }), Value.string { data := #[53, 64, 50, 35, 55] }, Value.int IntKind.i64 0, vb, Value.int IntKind.i64 0, Value.int IntKind.i64 (-1), Value.int IntKind.i64 2, Value.pointer (some { block := w4.heap.size, off := 0 }), Value.int IntKind.i64 0, Value.pointer (some { block := w5.heap.size, off := 0 }), Value.int IntKind.i64 0, Value.pointer (some { block := w6.heap.size, off := 0 }), Value.int IntKind.i64 0, Value.slice (some { block := w6.heap.size + 1, off := 0 }) 3 3, vs, Value.int IntKind.i64 1, Value.bool false, Value.int IntKind.i64 0, undef, u21, u22, u23, Value.agg #[Value.int IntKind.i64 5, Value.int IntKind.i64 2, Value.int IntKind.i64 7], Value.agg #[Value.int IntKind.i64 5, Value.int IntKind.i64 3, Value.int IntKind.i64 0], Value.tuple #[Value.string { data := #[53, 64, 50, 35, 55] }, Value.int IntKind.i64 0], Value.agg #[Value.int IntKind.i64 5, Value.int IntKind.i64 2, Value.int IntKind.i64 7], Value.tuple #[Value.string { data := #[53, 64, 50, 35, 55] }, Value.int IntKind.i64 0], Value.string { data := #[53, 64, 50, 35, 55] }, Value.int IntKind.i64 0, Value.tuple #[vb, Value.int IntKind.i64 0], Value.agg #[Value.int IntKind.i64 5, Value.int IntKind.i64 2, Value.int IntKind.i64 7], Value.tuple #[vb, Value.int IntKind.i64 0], vb, Value.int IntKind.i64 0, Value.tuple #[Value.int IntKind.i64 (-1), Value.int IntKind.i64 2], Value.agg #[Value.int IntKind.i64 5, Value.int IntKind.i64 2, Value.int IntKind.i64 7], Value.agg #[Value.int IntKind.i64 5, Value.int IntKind.i64 3, Value.int IntKind.i64 0], Value.tuple #[Value.int IntKind.i64 (-1), Value.int IntKind.i64 2], Value.int IntKind.i64 (-1), Value.int IntKind.i64 2, Value.tuple #[Value.agg #[Value.int IntKind.i64 5, Value.int IntKind.i64 3, Value.int IntKind.i64 0], Value.int IntKind.i64 0], Value.agg #[Value.int IntKind.i64 5, Value.int IntKind.i64 2, Value.int IntKind.i64 4294967295], Value.tuple #[Value.agg #[Value.int IntKind.i64 5, Value.int IntKind.i64 3, Value.int IntKind.i64 0], Value.int IntKind.i64 0], Value.agg #[Value.int IntKind.i64 5, Value.int IntKind.i64 3, Value.int IntKind.i64 0], Value.int IntKind.i64 0, Value.tuple #[Value.agg #[Value.int IntKind.i64 6, Value.int IntKind.i64 0, Value.int IntKind.i64 0], Value.int IntKind.i64 0], Value.agg #[Value.int IntKind.i64 5, Value.int IntKind.i64 16, Value.int IntKind.i64 4294967295], Value.tuple #[Value.agg #[Value.int IntKind.i64 6, Value.int IntKind.i64 0, Value.int IntKind.i64 0], Value.int IntKind.i64 0], Value.agg #[Value.int IntKind.i64 6, Value.int IntKind.i64 0, Value.int IntKind.i64 0], Value.int IntKind.i64 0, Value.tuple #[Value.agg #[Value.int IntKind.i64 5, Value.int IntKind.i64 16, Value.int IntKind.i64 4294967295], Value.int IntKind.i64 0], Value.agg #[Value.int IntKind.i64 6, Value.int IntKind.i64 0, Value.int IntKind.i64 0], Value.tuple #[Value.agg #[Value.int IntKind.i64 5, Value.int IntKind.i64 16, Value.int IntKind.i64 4294967295], Value.int IntKind.i64 0], Value.agg #[Value.int IntKind.i64 5, Value.int IntKind.i64 16, Value.int IntKind.i64 4294967295], Value.int IntKind.i64 0, Value.agg #[Value.int IntKind.i64 5, Value.int IntKind.i64 1, Value.int IntKind.i64 1], Value.agg #[Value.int IntKind.i64 3, Value.int IntKind.i64 0, Value.int IntKind.i64 0], Value.agg #[Value.int IntKind.i64 5, Value.int IntKind.i64 1, Value.int IntKind.i64 1], Value.slice (some { block := w6.heap.size + 1, off := 0 }) 3 3, Value.slice (some { block := w6.heap.size + 1, off := 0 }) 3 3, vs, Value.tuple #[Value.int IntKind.i64 1, Value.bool false, Value.int IntKind.i64 0], vs, Value.agg #[Value.int IntKind.i64 4, Value.int IntKind.i64 0, Value.int IntKind.i64 0], Value.tuple #[Value.int IntKind.i64 1, Value.bool false, Value.int IntKind.i64 0], Value.int IntKind.i64 1, Value.bool false, Value.int IntKind.i64 0, Value.int IntKind.i64 0, Value.int IntKind.i64 0, Value.int IntKind.i64 0, Value.int IntKind.i64 0, Value.int IntKind.i64 0, Value.int IntKind.i64 0, Value.int IntKind.i64 0, Value.int IntKind.i64 0, Value.int IntKind.i64 0, Value.int IntKind.i64 0, Value.int IntKind.i64 0, Value.bool false, Value.bool false, Value.string { data := #[53, 64, 50, 35, 55] }, Value.bool false, Value.bool false, Value.bool false, vb, Value.string { data := #[0, 0, 0, 0, 0, 0, 5, 2, 0, 0, 0, 7] }, Value.bool false, Value.bool false, Value.bool false, Value.int IntKind.i64 (-1), Value.bool false, Value.bool false, Value.bool false, Value.int IntKind.i64 2, Value.bool false, Value.bool false, Value.bool false, Value.agg #[Value.int IntKind.i64 5, Value.int IntKind.i64 3, Value.int IntKind.i64 0], Value.agg #[Value.int IntKind.i64 5, Value.int IntKind.i64 3, Value.int IntKind.i64 0], Value.bool false, Value.bool false, Value.bool false, Value.agg #[Value.int IntKind.i64 6, Value.int IntKind.i64 0, Value.int IntKind.i64 0], Value.agg #[Value.int IntKind.i64 6, Value.int IntKind.i64 0, Value.int IntKind.i64 0], Value.bool false, Value.bool false, Value.bool false, Value.agg #[Value.int IntKind.i64 5, Value.int IntKind.i64 16, Value.int IntKind.i64 4294967295], Value.agg #[Value.int IntKind.i64 5, Value.int IntKind.i64 16, Value.int IntKind.i64 4294967295], Value.bool false, Value.bool false, Value.slice (some { block := w8.heap.size, off := 0 }) 4 4, Value.int IntKind.i64 4, Value.int IntKind.i64 ((4 : Nat) : Int), Value.bool false, u118, u119, u120, u121, u122, u123, u124, u125, u126, u127, bif B 0 then Value.slice (some ⟨w6.heap.size + 1, 0, none⟩) 3 3 else undef, bif B 1 then Value.slice (some ⟨p1, 0, none⟩) 3 3 else undef, bif B 2 then Value.slice (some ⟨p2, 0, none⟩) 3 3 else undef, bif B 3 then Value.bool true else undef, bif B 4 then Value.bool true else undef, bif B 5 then vs else undef, bif B 6 then Value.slice (some ⟨w6.heap.size + 1, 0, none⟩) 3 3 else undef, bif B 7 then Value.pointer (some ⟨w6.heap.size + 1, 3, none⟩) else undef, bif B 8 then Value.agg #[.int .i64 3, .int .i64 0, .int .i64 0] else undef, bif B 9 then Value.slice (some ⟨w6.heap.size + 1, 0, none⟩) 3 3 else undef, bif B 10 then Value.pointer (some ⟨w6.heap.size + 1, 0, none⟩) else undef, bif B 11 then Value.agg #[.int .i64 5, .int .i64 1, .int .i64 1] else undef, bif B 12 then Value.slice (some ⟨p3, 0, none⟩) 2 2 else undef, bif B 13 then Value.bool true else undef, bif B 14 then Value.bool true else undef, bif B 15 then Value.bool true else undef, bif B 16 then Value.int .i64 1 else undef, bif B 17 then Value.bool true else undef, bif B 18 then Value.bool true else undef, bif B 19 then Value.bool true else undef, bif B 20 then Value.bool false else undef, bif B 21 then Value.bool true else undef, bif B 22 then Value.bool true else undef], defers := [] } ∧ Below wr.heap.size wr wc ∧ (B 1 = true → IRow wc p1 3 (fewI exL)) ∧ (B 2 = true → wc.heap[p2]? = some (.cells #[.int .i64 1, .int .i64 0, .int .i64 2] 3 (0, 0))) ∧ (B 12 = true → KRow wc (.slice (some ⟨p3, 0, none⟩) 2 2) [(3, 0, 0), (5, 1, 1)])) ?init ?step ?fin
      case init => exact ⟨0, 0, 0, rfl, (Below.refl _ _).drew, by simp, by simp, by simp⟩
      case step =>
        intro B j a wc hj hbj hcl hw hI K hK
        obtain ⟨p1, p2, p3, rfl, hB, hR1, hR2, hR3⟩ := hI
        have hj : j < 24 := hj
        obtain rfl | rfl | rfl | rfl | rfl | rfl | rfl | rfl | rfl | rfl | rfl | rfl | rfl | rfl | rfl | rfl | rfl | rfl | rfl | rfl | rfl | rfl | rfl | rfl : j = 0 ∨ j = 1 ∨ j = 2 ∨ j = 3 ∨ j = 4 ∨ j = 5 ∨ j = 6 ∨ j = 7 ∨ j = 8 ∨ j = 9 ∨ j = 10 ∨ j = 11 ∨ j = 12 ∨ j = 13 ∨ j = 14 ∨ j = 15 ∨ j = 16 ∨ j = 17 ∨ j = 18 ∨ j = 19 ∨ j = 20 ∨ j = 21 ∨ j = 22 ∨ j = 23 := by omega
        all_goals (simp [waits, Region.binds] at hw)
        · simp only [hbj, cond_false]
          refine wpOpIn_step rfl ?_
          intro K' hK'
          go_simp
          exact hK' _ _ (hK _ _ ⟨p1, p2, p3, by simp [upd], hB, by simpa [upd] using hR1, by simpa [upd] using hR2, by simpa [upd] using hR3⟩)
        · simp only [hbj, hw, cond_true, cond_false]
          refine wpOpIn_step rfl ?_
          intro K' hK'
          go_simp
          refine ⟨trivial, (callsIn_wide.2 (Order_few _ exL wc (HRW.out.below hB) (by decide))).mono ?_⟩
          rintro e w' ⟨b, rfl, ⟨hr, -⟩, hb⟩
          exact hK' _ _ (hK _ _ ⟨b, p2, p3, by simp [upd, hw]; rfl, hB.trans (hb.mono hB.size), fun _ => hr, fun h => (hb.block _ (Array.getElem?_eq_some_iff.1 (hR2 (by simpa [upd] using h))).1).trans (hR2 (by simpa [upd] using h)), fun h => (hR3 (by simpa [upd] using h)).below hb⟩)
        · simp only [hbj, cond_false]
          refine wpOpIn_step rfl ?_
          intro K' hK'
          go_simp
          have hb := (Below.refl wc.heap.size wc).alloc (Nat.le_refl _) (.cells #[.int .i64 1, .int .i64 0, .int .i64 2] 3)
          exact hK' _ _ (hK _ _ ⟨p1, wc.heap.size, p3, by simp [upd], hB.trans (hb.mono hB.size), fun h => (hR1 (by simpa [upd] using h)).below hb, fun _ => World.alloc_heap_new wc _, fun h => (hR3 (by simpa [upd] using h)).below hb⟩)
        · have hr1 := hR1 hw.1
          have hr2 := hR2 hw.2.1
          have hEq := Tryd.slices_Equal_int p1 0 3 3 p2 0 3 3 [1, 0, 2] [1, 0, 2] wc (by decide) (by decide) (by decide) (by decide) (fun j hj => by
            have hj : j < 3 := hj
            rw [Nat.zero_add, hr1.cell j hj]
            obtain rfl | rfl | rfl : j = 0 ∨ j = 1 ∨ j = 2 := by omega
            · rw [few_ex.1]; rfl
            · rw [few_ex.2.1]; rfl
            · rw [few_ex.2.2]; rfl) (fun j hj => by
            have hj : j < 3 := hj
            rw [Nat.zero_add]
            obtain rfl | rfl | rfl : j = 0 ∨ j = 1 ∨ j = 2 := by omega
            all_goals (simp only [World.cell?, hr2]; rfl))
          have HEq := Lib.hid hEq
          clear hr1 hr2 hEq
          simp only [hbj, hw, cond_true, cond_false]
          refine wpOpIn_step rfl ?_
          intro K' hK'
          go_simp
          refine ⟨trivial, (callsIn_wide.2 HEq.out).mono ?_⟩
          rintro e w' ⟨rfl, q, rfl⟩
          have hb := below_drewN wc q
          exact hK' _ _ (hK _ _ ⟨p1, p2, p3, by simp [upd, hw], hB.trans (hb.mono hB.size), fun h => (hR1 (by simpa [upd] using h)).below hb, fun h => (hb.block _ (Array.getElem?_eq_some_iff.1 (hR2 (by simpa [upd] using h))).1).trans (hR2 (by simpa [upd] using h)), fun h => (hR3 (by simpa [upd] using h)).below hb⟩)
        · simp only [hbj, hw, cond_true, cond_false]
          refine wpOpIn_step rfl ?_
          intro K' hK'
          go_simp
          exact hK' _ _ (hK _ _ ⟨p1, p2, p3, by simp [upd, hw], hB, by simpa [upd] using hR1, by simpa [upd] using hR2, by simpa [upd] using hR3⟩)
        · simp only [hbj, hw, cond_true, cond_false]
          refine wpOpIn_step rfl ?_
          intro K' hK'
          go_simp
          exact hK' _ _ (hK _ _ ⟨p1, p2, p3, by simp [upd, hw], hB, by simpa [upd] using hR1, by simpa [upd] using hR2, by simpa [upd] using hR3⟩)
        · simp only [hbj, hw, cond_true, cond_false]
          refine wpOpIn_step rfl ?_
          intro K' hK'
          go_simp
          exact hK' _ _ (hK _ _ ⟨p1, p2, p3, by simp [upd, hw], hB, by simpa [upd] using hR1, by simpa [upd] using hR2, by simpa [upd] using hR3⟩)
        · simp only [hbj, hw, cond_true, cond_false]
          refine wpOpIn_step rfl ?_
          intro K' hK'
          go_simp
          exact hK' _ _ (hK _ _ ⟨p1, p2, p3, by simp [upd, hw], hB, by simpa [upd] using hR1, by simpa [upd] using hR2, by simpa [upd] using hR3⟩)
        · have hk := HRW.out.below hB
          obtain ⟨-, h0, h1, h2⟩ := hk.cells 1 (by decide)
          have g0 : wc.cell? ⟨w6.heap.size + 1, 3, none⟩ = some (.int .i64 3) := h0
          have g1 : wc.cell? ⟨w6.heap.size + 1, 4, none⟩ = some (.int .i64 0) := h1
          have g2 : wc.cell? ⟨w6.heap.size + 1, 5, none⟩ = some (.int .i64 0) := h2
          clear h0 h1 h2 hk
          simp only [hbj, hw, cond_true, cond_false]
          refine wpOpIn_step rfl ?_
          intro K' hK'
          go_simp
          exact hK' _ _ (hK _ _ ⟨p1, p2, p3, by simp [upd, hw], hB, by simpa [upd] using hR1, by simpa [upd] using hR2, by simpa [upd] using hR3⟩)
        · simp only [hbj, hw, cond_true, cond_false]
          refine wpOpIn_step rfl ?_
          intro K' hK'
          go_simp
          exact hK' _ _ (hK _ _ ⟨p1, p2, p3, by simp [upd, hw], hB, by simpa [upd] using hR1, by simpa [upd] using hR2, by simpa [upd] using hR3⟩)
        · simp only [hbj, hw, cond_true, cond_false]
          refine wpOpIn_step rfl ?_
          intro K' hK'
          go_simp
          exact hK' _ _ (hK _ _ ⟨p1, p2, p3, by simp [upd, hw], hB, by simpa [upd] using hR1, by simpa [upd] using hR2, by simpa [upd] using hR3⟩)
        · have hk := HRW.out.below hB
          obtain ⟨-, h0, h1, h2⟩ := hk.cells 0 (by decide)
          have g0 : wc.cell? ⟨w6.heap.size + 1, 0, none⟩ = some (.int .i64 5) := h0
          have g1 : wc.cell? ⟨w6.heap.size + 1, 1, none⟩ = some (.int .i64 1) := h1
          have g2 : wc.cell? ⟨w6.heap.size + 1, 2, none⟩ = some (.int .i64 1) := h2
          clear h0 h1 h2 hk
          simp only [hbj, hw, cond_true, cond_false]
          refine wpOpIn_step rfl ?_
          intro K' hK'
          go_simp
          exact hK' _ _ (hK _ _ ⟨p1, p2, p3, by simp [upd, hw], hB, by simpa [upd] using hR1, by simpa [upd] using hR2, by simpa [upd] using hR3⟩)
        · simp only [hbj, hw, cond_true, cond_false]
          refine wpOpIn_step rfl ?_
          intro K' hK'
          go_simp
          have hb := (Below.refl wc.heap.size wc).alloc (Nat.le_refl _) (.cells #[.int .i64 3, .int .i64 0, .int .i64 0, .int .i64 5, .int .i64 1, .int .i64 1] 23)
          have hnew := World.alloc_heap_new wc (.cells #[.int .i64 3, .int .i64 0, .int .i64 0, .int .i64 5, .int .i64 1, .int .i64 1] 23)
          have hkr : KRow (wc.alloc (.cells #[.int .i64 3, .int .i64 0, .int .i64 0, .int .i64 5, .int .i64 1, .int .i64 1] 23)) (.slice (some ⟨wc.heap.size, 0, none⟩) 2 2) [(3, 0, 0), (5, 1, 1)] := by
            refine .inr ⟨wc.heap.size, 0, 2, rfl, (Array.getElem?_eq_some_iff.1 hnew).1, Nat.le_refl _, by unfold maxLen; omega, fun t u ht => ?_⟩
            have e : (#[Value.int .i64 3, .int .i64 0, .int .i64 0, .int .i64 5, .int .i64 1, .int .i64 1] : Array Value)[t]? = some u := by
              rw [← Array.getElem?_toList]
              exact ht
            rw [Nat.zero_add]
            simp only [World.cell?, hnew]
            exact e
          exact hK' _ _ (hK _ _ ⟨p1, p2, wc.heap.size, by simp [upd, hw], hB.trans (hb.mono hB.size), fun h => (hR1 (by simpa [upd] using h)).below hb, fun h => (hb.block _ (Array.getElem?_eq_some_iff.1 (hR2 (by simpa [upd] using h))).1).trans (hR2 (by simpa [upd] using h)), fun _ => hkr⟩)
        · have HEq := Lib.hid (equalKs_calls vs (.slice (some ⟨p3, 0, none⟩) 2 2) [(3, 0, 0), (5, 1, 1)] [(3, 0, 0), (5, 1, 1)] wc (HSW.out.below hB) (hR3 (by simp [hw])) (by decide) (by decide))
          simp only [hbj, hw, cond_true, cond_false]
          refine wpOpIn_step rfl ?_
          intro K' hK'
          go_simp
          refine ⟨trivial, (callsIn_wide.2 HEq.out).mono ?_⟩
          rintro e w' ⟨rfl, hb⟩
          exact hK' _ _ (hK _ _ ⟨p1, p2, p3, by simp [upd, hw], hB.trans (hb.mono hB.size), fun h => (hR1 (by simpa [upd] using h)).below hb, fun h => (hb.block _ (Array.getElem?_eq_some_iff.1 (hR2 (by simpa [upd] using h))).1).trans (hR2 (by simpa [upd] using h)), fun h => (hR3 (by simpa [upd] using h)).below hb⟩)
        · simp only [hbj, hw, cond_true, cond_false]
          refine wpOpIn_step rfl ?_
          intro K' hK'
          go_simp
          exact hK' _ _ (hK _ _ ⟨p1, p2, p3, by simp [upd, hw], hB, by simpa [upd] using hR1, by simpa [upd] using hR2, by simpa [upd] using hR3⟩)
        · simp only [hbj, hw, cond_true, cond_false]
          refine wpOpIn_step rfl ?_
          intro K' hK'
          go_simp
          exact hK' _ _ (hK _ _ ⟨p1, p2, p3, by simp [upd, hw], hB, by simpa [upd] using hR1, by simpa [upd] using hR2, by simpa [upd] using hR3⟩)
        · simp only [hbj, hw, cond_true, cond_false]
          refine wpOpIn_step rfl ?_
          intro K' hK'
          go_simp
          exact hK' _ _ (hK _ _ ⟨p1, p2, p3, by simp [upd, hw], hB, by simpa [upd] using hR1, by simpa [upd] using hR2, by simpa [upd] using hR3⟩)
        · simp only [hbj, hw, cond_true, cond_false]
          refine wpOpIn_step rfl ?_
          intro K' hK'
          go_simp
          exact hK' _ _ (hK _ _ ⟨p1, p2, p3, by simp [upd, hw], hB, by simpa [upd] using hR1, by simpa [upd] using hR2, by simpa [upd] using hR3⟩)
        · simp only [hbj, hw, cond_true, cond_false]
          refine wpOpIn_step rfl ?_
          intro K' hK'
          go_simp
          exact hK' _ _ (hK _ _ ⟨p1, p2, p3, by simp [upd, hw], hB, by simpa [upd] using hR1, by simpa [upd] using hR2, by simpa [upd] using hR3⟩)
        · simp only [hbj, hw, cond_true, cond_false]
          refine wpOpIn_step rfl ?_
          intro K' hK'
          go_simp
          exact hK' _ _ (hK _ _ ⟨p1, p2, p3, by simp [upd, hw], hB, by simpa [upd] using hR1, by simpa [upd] using hR2, by simpa [upd] using hR3⟩)
        · simp only [hbj, hw, cond_true, cond_false]
          refine wpOpIn_step rfl ?_
          intro K' hK'
          go_simp
          exact hK' _ _ (hK _ _ ⟨p1, p2, p3, by simp [upd, hw], hB, by simpa [upd] using hR1, by simpa [upd] using hR2, by simpa [upd] using hR3⟩)
        · simp only [hbj, hw, cond_true, cond_false]
          refine wpOpIn_step rfl ?_
          intro K' hK'
          go_simp
          exact hK' _ _ (hK _ _ ⟨p1, p2, p3, by simp [upd, hw], hB, by simpa [upd] using hR1, by simpa [upd] using hR2, by simpa [upd] using hR3⟩)
        · simp only [hbj, hw, cond_true, cond_false]
          refine wpOpIn_step rfl ?_
          intro K' hK'
          go_simp
          exact hK' _ _ (hK _ _ ⟨p1, p2, p3, by simp [upd, hw], hB, by simpa [upd] using hR1, by simpa [upd] using hR2, by simpa [upd] using hR3⟩)
        · simp only [hbj, hw, cond_true, cond_false]
          refine wpOpIn_step rfl ?_
          intro K' hK'
          go_simp
          exact hK' _ _ (hK _ _ ⟨p1, p2, p3, by simp [upd, hw], hB, by simpa [upd] using hR1, by simpa [upd] using hR2, by simpa [upd] using hR3⟩)
      case fin =>
        intro B a wc hall hI
        obtain ⟨p1, p2, p3, rfl, hB, -⟩ := hI
        have h23 : B 23 = true := hall 23 (by decide)
        simp only [h23, cond_true]
        clear hall
        go_wp2
        go_ret
        exact ⟨rfl, HBW.out.trans (hB.mono HBW.out.size)⟩
end Go.Proofs.YtapaccbffhcjdaaDoor
