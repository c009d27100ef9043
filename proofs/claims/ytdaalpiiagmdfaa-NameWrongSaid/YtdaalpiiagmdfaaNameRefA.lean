/-
  CONTRACTS of the document's own cut, Part and Right of layer 4.
-/
import Derived.Test.YtdaalpiiagmdfaaNameOrdP
import Derived.BigQuiet
namespace Go.Proofs.Ytdaalpiiagmdfaa
open Go.RowKit Go.Shelf

attribute [-go_sem] run_index_string

theorem sindex (s : List UInt8) (k : Nat) (hk : k < s.length) (W : World) : (Instr.index 9 (.string ⟨s.toArray⟩) (.int .i64 (k : Int))).run Try.prog W = .ok (.int .u8 ((s.getD k 0).toNat : Int)) W := by
  have h1 : (0 : Int) ≤ (k : Int) ∧ (k : Int) < ((⟨s.toArray⟩ : ByteArray).size : Int) := ⟨by omega, by simp [ByteArray.size]; exact hk⟩
  rw [run_index_string W 9 ⟨s.toArray⟩ .i64 (k : Int) Try.underlying9, dif_pos h1]
  congr 2
  rw [List.getD_eq_getElem?_getD, List.getElem?_eq_getElem hk]
  rfl
theorem sextract (s : List UInt8) (a b : Nat) : (⟨s.toArray⟩ : ByteArray).extract a b = ⟨((s.drop a).take (b - a)).toArray⟩ := by
  have h := Lib.extract_data ⟨s.toArray⟩ a b
  have e : ∀ x : ByteArray, x = ⟨x.data.toList.toArray⟩ := fun x => by obtain ⟨⟨l⟩⟩ := x; rfl
  rw [e ((⟨s.toArray⟩ : ByteArray).extract a b), h]
theorem partsL_none {a : List UInt8} (h : ∀ c ∈ a, c ≠ 46) : partsL a = [a] := by
  induction a with
  | nil => rfl
  | cons c a ih =>
    have e : partsL (c :: a) = if c == 46 then [] :: partsL a else match partsL a with
      | [] => [[c]]
      | p :: ps => (c :: p) :: ps := rfl
    have hc : (c == 46) = false := beq_eq_false_iff_ne.2 (h c (by simp))
    rw [e, hc, ih (fun d hd => h d (by simp [hd]))]
    rfl
theorem drop_piece (s : List UInt8) (f i : Nat) (hfi : f ≤ i) (hi : i < s.length) : s.drop f = (s.drop f).take (i - f) ++ s.getD i 0 :: s.drop (i + 1) := by
  have h := (List.take_append_drop (i - f) (s.drop f)).symm
  rw [List.drop_drop, show f + (i - f) = i by omega, List.drop_eq_getElem_cons hi] at h
  rw [List.getD_eq_getElem?_getD, List.getElem?_eq_getElem hi]
  exact h
/-- A call's own row of strings. -/
abbrev OwnS (w : World) (base : Nat) (v : Value) (l : List (List UInt8)) : Prop := w.ownsRow base 9 1 v l.length (l.map str)
theorem strs_one (l : List (List UInt8)) : ∀ u ∈ l.map str, u.oneCell' = true := by
  intro u hu; simp only [List.mem_map] at hu; obtain ⟨d, _, rfl⟩ := hu; rfl
/-- The state of the cut. -/
def CutSt (s : List UInt8) (O : List (List UInt8)) (f i : Nat) : Prop :=
  (i ≤ s.length ∧ f ≤ i ∧ partsL s = O ++ partsL (s.drop f) ∧ ∀ c ∈ (s.drop f).take (i - f), c ≠ 46) ∨ (i = s.length + 1 ∧ partsL s = O)
theorem cutSt_on {s : List UInt8} {O : List (List UInt8)} {f i : Nat} (h : CutSt s O f i) (hi : i < s.length) (hc : s.getD i 0 ≠ 46) : CutSt s O f (i + 1) := by
  rcases h with ⟨h1, h2, h3, h4⟩ | ⟨h1, _⟩
  · refine .inl ⟨by omega, by omega, h3, ?_⟩
    intro c hm
    rw [show i + 1 - f = (i - f) + 1 by omega] at hm
    have hlt : i - f < (s.drop f).length := by rw [List.length_drop]; omega
    rw [List.take_succ_eq_append_getElem hlt] at hm
    rcases List.mem_append.1 hm with hm | hm
    · exact h4 c hm
    · rw [List.mem_singleton.1 hm, List.getElem_drop]
      rw [List.getD_eq_getElem?_getD, List.getElem?_eq_getElem hi] at hc
      simpa [show f + (i - f) = i by omega] using hc
  · omega
theorem cutSt_dot {s : List UInt8} {O : List (List UInt8)} {f i : Nat} (h : CutSt s O f i) (hi : i < s.length) (hc : s.getD i 0 = 46) : CutSt s (O ++ [(s.drop f).take (i - f)]) (i + 1) (i + 1) := by
  rcases h with ⟨h1, h2, h3, h4⟩ | ⟨h1, _⟩
  · refine .inl ⟨by omega, Nat.le_refl _, ?_, by simp⟩
    have e := drop_piece s f i h2 hi
    rw [hc] at e
    rw [h3]
    conv => lhs; rw [e]
    rw [partsL_app, partsL_none h4, List.append_assoc]
  · omega
theorem cutSt_end {s : List UInt8} {O : List (List UInt8)} {f : Nat} (h : CutSt s O f s.length) : partsL s = O ++ [(s.drop f).take (s.length - f)] := by
  rcases h with ⟨h1, h2, h3, h4⟩ | ⟨h1, _⟩
  · have e : (s.drop f).take (s.length - f) = s.drop f := List.take_of_length_le (by rw [List.length_drop]; exact Nat.le_refl _)
    rw [e] at h4 ⊢
    rw [h3, partsL_none h4]
  · omega
theorem cutSt_len {s : List UInt8} {O : List (List UInt8)} {f i : Nat} (h : CutSt s O f i) : O.length ≤ s.length + 1 := by
  have hl := partsL_length s
  rcases h with ⟨_, _, h3, _⟩ | ⟨_, h3⟩
  · rw [h3, List.length_append] at hl; omega
  · rw [h3] at hl; exact hl

set_option maxRecDepth 100000 in
set_option maxHeartbeats 2000000 in
theorem rcut_calls (s : List UInt8) (hs : s.length ≤ 1000000) (w : World) :
    Calls Try.prog 59 #[.string ⟨s.toArray⟩] w fun e w' => ∃ v, e = .returned v ∧ OwnS w' w.heap.size v (partsL s) ∧ Below w.heap.size w w' := by
  obtain ⟨i0, hi0, hz0, hz1, hz2⟩ := info_parts info_str
  have hsz : (⟨s.toArray⟩ : ByteArray).size = s.length := by simp [ByteArray.size]
  have HI := Lib.hid hi0
  have HZ0 := Lib.hid hz0
  have HZ1 := Lib.hid hz1
  have HZ2 := Lib.hid hz2
  clear hi0 hz0 hz1 hz2
  go_enter Try.func59, Try.ntmps59
  go_wp2
  go_loopw [3, 4, 5] (fun v fv iv wr => ∃ (O : List (List UInt8)) (f i : Nat), fv = .int .i64 (f : Int) ∧ iv = .int .i64 (i : Int) ∧ f ≤ i ∧ i ≤ s.length + 1 ∧ CutSt s O f i ∧ OwnS wr w.heap.size v O ∧ Below w.heap.size w wr) (fun _ _ iv _ => s.length + 1 - (intOf iv).toNat)
  case atStart => exact ⟨[], 0, 0, rfl, rfl, Nat.le_refl _, by omega, .inl ⟨by omega, Nat.le_refl _, rfl, by simp⟩, World.ownsRow_nil _ _ _ _, Below.refl _ _⟩
  case round =>
    obtain ⟨O, f, i, rfl, rfl, hfi, hil, hst, hown, hbel⟩ := hrel
    have HST := Lib.hid hst
    have HO := Lib.hid hown
    have HB := Lib.hid hbel
    have hlen := cutSt_len hst
    have hsize := hbel.size
    clear hst hown hbel
    by_cases hle : i ≤ s.length
    · have hle' : (i : Int) ≤ (s.length : Int) := by omega
      have hfi' : (f : Int) ≤ (i : Int) := by omega
      have hex := sextract s f i
      by_cases hlt : i < s.length
      · have hne : ((i : Int) == (s.length : Int)) = false := beq_eq_false_iff_ne.2 (by omega)
        have hidx := fun W => sindex s i hlt W
        by_cases hc : s.getD i 0 = 46
        · have h46 : (((s.getD i 0).toNat : Int) == 46) = true := by rw [hc]; rfl
          have HD := Lib.hid (cutSt_dot HST.out hlt hc)
          clear hc
          generalize (s.getD i 0).toNat = cc at *
          generalize (s.drop f).take (i - f) = pc at *
          go_wp2_with (at_builtin; refine wpList_append_own _ rfl _ _ 22 rfl w.heap.size 9 i0 (.string ⟨#[]⟩) 1 16 Try.underlying22 HI.out HZ0.out HZ1.out HZ2.out rfl (by decide) _ _ _ rfl (HO.out.alloc _) ⟨wr.heap.size, 0, none⟩ 1 1 [str pc] rfl rfl (cell_one_new _ _ _) (strs_one [pc]) (by unfold maxLen; omega) (by omega) (by simp; omega) ?_; intro v2 w2 hown2 hgr2 _; have HO2 := Lib.hid (show OwnS w2 w.heap.size v2 (O ++ [pc]) by unfold OwnS; rw [List.length_append, List.map_append]; exact hown2); have HB2 := Lib.hid ((HB.out.alloc HB.out.size _).grown hgr2 (by simp; omega) (fun k hk => (HO.out.lt k hk).1)); clear hown2 hgr2)
          go_roundw
          case rel => exact ⟨O ++ [pc], i + 1, i + 1, by go_num, by go_num, by omega, by omega, HD.out, HO2.out, HB2.out⟩
          case measure => simp [intOf]; omega
        · have h46 : (((s.getD i 0).toNat : Int) == 46) = false := beq_eq_false_iff_ne.2 (fun e => hc (UInt8.toNat_inj.1 (by show (s.getD i 0).toNat = 46; omega)))
          have HD := Lib.hid (cutSt_on HST.out hlt hc)
          clear hc
          generalize (s.getD i 0).toNat = cc at *
          go_wp2
          go_roundw
          case rel => exact ⟨O, f, i + 1, rfl, by go_num, by omega, by omega, HD.out, HO.out, HB.out⟩
          case measure => simp [intOf]; omega
      · obtain rfl : i = s.length := by omega
        have hee : ((s.length : Int) == (s.length : Int)) = true := by simp
        have HD := Lib.hid (show CutSt s (O ++ [(s.drop f).take (s.length - f)]) (s.length + 1) (s.length + 1) from .inr ⟨rfl, cutSt_end HST.out⟩)
        generalize (s.drop f).take (s.length - f) = pc at *
        go_wp2_with (at_builtin; refine wpList_append_own _ rfl _ _ 22 rfl w.heap.size 9 i0 (.string ⟨#[]⟩) 1 16 Try.underlying22 HI.out HZ0.out HZ1.out HZ2.out rfl (by decide) _ _ _ rfl (HO.out.alloc _) ⟨wr.heap.size, 0, none⟩ 1 1 [str pc] rfl rfl (cell_one_new _ _ _) (strs_one [pc]) (by unfold maxLen; omega) (by omega) (by simp; omega) ?_; intro v2 w2 hown2 hgr2 _; have HO2 := Lib.hid (show OwnS w2 w.heap.size v2 (O ++ [pc]) by unfold OwnS; rw [List.length_append, List.map_append]; exact hown2); have HB2 := Lib.hid ((HB.out.alloc HB.out.size _).grown hgr2 (by simp; omega) (fun k hk => (HO.out.lt k hk).1)); clear hown2 hgr2)
        go_roundw
        case rel => exact ⟨O ++ [pc], s.length + 1, s.length + 1, by go_num, by go_num, by omega, by omega, HD.out, HO2.out, HB2.out⟩
        case measure => simp [intOf]
    · obtain rfl : i = s.length + 1 := by omega
      have hp : partsL s = O := by rcases HST.out with ⟨h, _⟩ | ⟨_, h⟩; omega; exact h
      have hnl : ¬ ((s.length : Int) + 1 ≤ (s.length : Int)) := by omega
      have ee : ((s.length + 1 : Nat) : Int) = (s.length : Int) + 1 := by omega
      rw [ee]
      have HP := Lib.hid hp
      clear hp
      go_wp2
      go_ret
      exact ⟨_, rfl, by rw [HP.out]; exact HO.out, HB.out⟩

/-- What Part asks of the byte at a place. -/
def okAt (s : List UInt8) (j : Nat) : Prop := ((s.getD j 0).toNat = 45 → j ≠ 0 ∧ j ≠ s.length - 1) ∧ inr (s.getD j 0) = true
theorem partOk_iff (s : List UInt8) : partOk s = true ↔ 0 < s.length ∧ ∀ j, j < s.length → okAt s j := by
  unfold partOk bnded okAt
  simp only [Bool.and_eq_true, decide_eq_true_eq, List.all_eq_true]
  constructor
  · rintro ⟨⟨⟨h1, h2⟩, h3⟩, h4⟩
    refine ⟨h1, fun j hj => ⟨fun e => ⟨?_, ?_⟩, ?_⟩⟩
    · rintro rfl; exact h2 e
    · rintro rfl; exact h3 e
    · exact h4 _ (by rw [List.getD_eq_getElem?_getD, List.getElem?_eq_getElem hj]; exact List.getElem_mem hj)
  · rintro ⟨h1, h2⟩
    refine ⟨⟨⟨h1, fun e => ((h2 0 h1).1 e).1 rfl⟩, fun e => ((h2 (s.length - 1) (by omega)).1 e).2 rfl⟩, fun c hc => ?_⟩
    obtain ⟨j, hj, rfl⟩ := List.getElem_of_mem hc
    have := (h2 j hj).2
    rwa [List.getD_eq_getElem?_getD, List.getElem?_eq_getElem hj] at this
theorem inr_iff (c : UInt8) : inr c = true ↔ (97 ≤ c.toNat ∧ c.toNat ≤ 122) ∨ (48 ≤ c.toNat ∧ c.toNat ≤ 57) ∨ c.toNat = 45 := by
  unfold inr ltr
  simp only [Bool.or_eq_true, decide_eq_true_eq]
  omega
theorem okAt_iff (s : List UInt8) (j b : Nat) (hb : b = (s.getD j 0).toNat) : okAt s j ↔ (b = 45 → j ≠ 0 ∧ j ≠ s.length - 1) ∧ ((97 ≤ b ∧ b ≤ 122) ∨ (48 ≤ b ∧ b ≤ 57) ∨ b = 45) := by
  unfold okAt
  rw [inr_iff, hb]

set_option maxRecDepth 100000 in
set_option maxHeartbeats 2000000 in
theorem rpart_calls (s : List UInt8) (hs : s.length ≤ 1000000) (w : World) :
    Calls Try.prog 60 #[.string ⟨s.toArray⟩] w fun e w' => e = .returned (.bool (partOk s)) ∧ w = w' := by
  have hsz : (⟨s.toArray⟩ : ByteArray).size = s.length := by simp [ByteArray.size]
  have hiff := Lib.hid (partOk_iff s)
  obtain ⟨r, hr⟩ : ∃ r, partOk s = r := ⟨_, rfl⟩
  rw [hr] at hiff ⊢
  clear hr
  go_enter Try.func60, Try.ntmps60
  go_wp2
  go_loop [3] (fun iv => ∃ k : Nat, k ≤ s.length ∧ iv = .int .i64 (k : Int) ∧ ∀ j, j < k → okAt s j) (fun iv => s.length - (intOf iv).toNat)
  case atStart => exact ⟨0, by omega, rfl, fun j hj => absurd hj (Nat.not_lt_zero _)⟩
  case round =>
    obtain ⟨k, hk, rfl, hall⟩ := hrel
    have HA := Lib.hid hall
    clear hall
    by_cases hlt : k < s.length
    · have hidx := fun W => sindex s k hlt W
      obtain ⟨b, hb⟩ : ∃ b : Nat, b = (s.getD k 0).toNat := ⟨_, rfl⟩
      have hok := Lib.hid (okAt_iff s k b hb)
      have hnext := Lib.hid (fun (h : okAt s k) => show ∀ j, j < k + 1 → okAt s j from fun j hj => by
        by_cases e : j = k
        · subst e; exact h
        · exact HA.out j (by omega))
      have hbad := Lib.hid (fun (h : ¬ okAt s k) => show r = false by
        cases r with
        | false => rfl
        | true => exact absurd ((hiff.out.1 rfl).2 k hlt) h)
      rw [← hb] at hidx
      clear hb
      have hcls : (b = 45 ∧ k = 0) ∨ (b = 45 ∧ k ≠ 0 ∧ k = s.length - 1) ∨ (b = 45 ∧ k ≠ 0 ∧ k ≠ s.length - 1) ∨ (b ≠ 45 ∧ b < 48) ∨ (48 ≤ b ∧ b ≤ 57) ∨ (57 < b ∧ b < 97) ∨ (97 ≤ b ∧ b ≤ 122) ∨ 122 < b := by omega
      have hcl := Lib.hid hcls
      clear hcls
      rcases hcl.out with ⟨h1, h2⟩ | ⟨h1, h2, h3⟩ | ⟨h1, h2, h3⟩ | ⟨h1, h2⟩ | ⟨h1, h2⟩ | ⟨h1, h2⟩ | ⟨h1, h2⟩ | h1
      · have e1 : ((b : Int) == 45) = true := by rw [h1]; rfl
        have e2 : ((k : Int) == 0) = true := by rw [h2]; rfl
        have hF := hbad.out (by rw [hok.out]; omega)
        subst hF
        clear h1 h2 hcl
        go_wp2
        go_ret
        exact ⟨rfl, rfl⟩
      · have e1 : ((b : Int) == 45) = true := by rw [h1]; rfl
        have e2 : ((k : Int) == 0) = false := beq_eq_false_iff_ne.2 (by omega)
        have e3 : ((k : Int) == (s.length : Int) - 1) = true := by rw [beq_iff_eq]; omega
        have hF := hbad.out (by rw [hok.out]; omega)
        subst hF
        clear h1 h2 h3 hcl
        go_wp2
        go_ret
        exact ⟨rfl, rfl⟩
      · have e1 : ((b : Int) == 45) = true := by rw [h1]; rfl
        have e1' : ((b : Int) != 45) = false := by rw [h1]; rfl
        have e2 : ((k : Int) == 0) = false := beq_eq_false_iff_ne.2 (by omega)
        have e3 : ((k : Int) == (s.length : Int) - 1) = false := beq_eq_false_iff_ne.2 (by omega)
        have HN := Lib.hid (hnext.out (by rw [hok.out]; omega))
        clear h1 h2 h3 hcl
        go_wp2
        go_round
        case rel => exact ⟨k + 1, by omega, by go_num, HN.out⟩
        case measure => simp [intOf]; omega
      · have e1 : ((b : Int) == 45) = false := beq_eq_false_iff_ne.2 (by omega)
        have e1' : ((b : Int) != 45) = true := by rw [bne_iff_ne]; omega
        have e4 : (b : Int) < 48 := by omega
        have e5 : (b : Int) < 97 := by omega
        have hF := hbad.out (by rw [hok.out]; omega)
        subst hF
        clear h1 h2 hcl
        go_wp2
        go_ret
        exact ⟨rfl, rfl⟩
      · have e1 : ((b : Int) == 45) = false := beq_eq_false_iff_ne.2 (by omega)
        have e1' : ((b : Int) != 45) = true := by rw [bne_iff_ne]; omega
        have e4 : ¬ (b : Int) < 48 := by omega
        have e5 : ¬ (57 : Int) < (b : Int) := by omega
        have HN := Lib.hid (hnext.out (by rw [hok.out]; omega))
        clear h1 h2 hcl
        go_wp2
        go_round
        case rel => exact ⟨k + 1, by omega, by go_num, HN.out⟩
        case measure => simp [intOf]; omega
      · have e1 : ((b : Int) == 45) = false := beq_eq_false_iff_ne.2 (by omega)
        have e1' : ((b : Int) != 45) = true := by rw [bne_iff_ne]; omega
        have e4 : ¬ (b : Int) < 48 := by omega
        have e5 : (57 : Int) < (b : Int) := by omega
        have e6 : (b : Int) < 97 := by omega
        have hF := hbad.out (by rw [hok.out]; omega)
        subst hF
        clear h1 h2 hcl
        go_wp2
        go_ret
        exact ⟨rfl, rfl⟩
      · have e1 : ((b : Int) == 45) = false := beq_eq_false_iff_ne.2 (by omega)
        have e1' : ((b : Int) != 45) = true := by rw [bne_iff_ne]; omega
        have e4 : ¬ (b : Int) < 48 := by omega
        have e5 : (57 : Int) < (b : Int) := by omega
        have e6 : ¬ (b : Int) < 97 := by omega
        have e7 : ¬ (122 : Int) < (b : Int) := by omega
        have HN := Lib.hid (hnext.out (by rw [hok.out]; omega))
        clear h1 h2 hcl
        go_wp2
        go_round
        case rel => exact ⟨k + 1, by omega, by go_num, HN.out⟩
        case measure => simp [intOf]; omega
      · have e1 : ((b : Int) == 45) = false := beq_eq_false_iff_ne.2 (by omega)
        have e1' : ((b : Int) != 45) = true := by rw [bne_iff_ne]; omega
        have e4 : ¬ (b : Int) < 48 := by omega
        have e5 : (57 : Int) < (b : Int) := by omega
        have e6 : ¬ (b : Int) < 97 := by omega
        have e7 : (122 : Int) < (b : Int) := by omega
        have hF := hbad.out (by rw [hok.out]; omega)
        subst hF
        clear h1 hcl
        go_wp2
        go_ret
        exact ⟨rfl, rfl⟩
    · obtain rfl : k = s.length := by omega
      have hfin : decide ((0 : Int) < (s.length : Int)) = r := by
        cases r with
        | true => exact decide_eq_true (by have := (hiff.out.1 rfl).1; omega)
        | false =>
          refine decide_eq_false (fun h => ?_)
          have := hiff.out.2 ⟨by omega, HA.out⟩
          cases this
      have HF := Lib.hid hfin
      clear hfin
      go_wp2
      go_ret
      exact ⟨by rw [← HF.out]; simp, rfl⟩
end Go.Proofs.Ytdaalpiiagmdfaa
