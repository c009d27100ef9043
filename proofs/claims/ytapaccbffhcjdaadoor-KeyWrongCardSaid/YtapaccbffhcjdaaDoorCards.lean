/-
  DERIVED. GIVEN WITH THE SEED: THE CARDS: each row of YtapaccbffhcjdaaDoorRows.lean that lists a variable, with what it lists TIED to the program's text (the seventh form; the later family's looks); each row that meets fmt, with fmt's text TOLD by the authors' own Lean function (tested against real Go, not proved from fmt's source: count such statements apart). THE CARD IS WHAT COUNTS. Prove the row's statement (the work); the ties are given (YtapaccbffhcjdaaDoorTie.lean); close each card by the builder's one call (the guide's Derived/Test/ToyasCard.lean, 'card_holds'). Laid BY PROGRAM, IN A SANDBOX (cutbox-door.mjs). By AI agents, Wed Nov 11 2026. No macro, syntax, notation, axiom, sorry.
-/
import Derived.Test.YtapaccbffhcjdaaDoorRows
import GoSem.ClaimSeven
namespace Go.Proofs.YtapaccbffhcjdaaDoor
namespace Rows

/-- THE TIED CARD OF 'fermatalaw07.KeyTells'. -/
def keyTellsCard : Claim7 := { stood := { row := keyTellsRow, standIns := [], harness := (true, "f52b3c02fbd736ac1b5f20386a7b2cf2958078954ccf3852b2ff9c42caccb01a"), looks := false }, kinds := [], alts := [], laidByText := true, laidKinds := [.data, .data, .data], laidTests := true, laidLooks := .later }
def KeyTellsCardSaid : Prop := Claim7.holds Tryd.pinned (.plain (OpenSpec.ofChange keyTellsSpec)) keyTellsCard

/-- THE TIED CARD OF 'fermatalaw07.KeyReads'. -/
def keyReadsCard : Claim7 := { stood := { row := keyReadsRow, standIns := [], harness := (true, "f52b3c02fbd736ac1b5f20386a7b2cf2958078954ccf3852b2ff9c42caccb01a"), looks := false }, kinds := [], alts := [], laidByText := true, laidKinds := [.data, .data, .data], laidTests := true, laidLooks := .later }
def KeyReadsCardSaid : Prop := Claim7.holds Tryd.pinned (.plain (OpenSpec.ofChange keyReadsSpec)) keyReadsCard

/-- THE TIED CARD OF 'fermatalaw07.KeyLists'. -/
def keyListsCard : Claim7 := { stood := { row := keyListsRow, standIns := [], harness := (true, "f52b3c02fbd736ac1b5f20386a7b2cf2958078954ccf3852b2ff9c42caccb01a"), looks := false }, kinds := [], alts := [], laidByText := true, laidKinds := [.data, .data, .data], laidTests := true, laidLooks := .later }
def KeyListsCardSaid : Prop := Claim7.holds Tryd.pinned (.plain (OpenSpec.ofChange keyListsSpec)) keyListsCard

/-- THE TIED CARD OF 'fermatalaw07.KeyBytes'. -/
def keyBytesCard : Claim7 := { stood := { row := keyBytesRow, standIns := [], harness := (true, "f52b3c02fbd736ac1b5f20386a7b2cf2958078954ccf3852b2ff9c42caccb01a"), looks := false }, kinds := [], alts := [], laidByText := true, laidKinds := [.data, .data, .data], laidTests := true, laidLooks := .later }
def KeyBytesCardSaid : Prop := Claim7.holds Tryd.pinned (.plain (OpenSpec.ofChange keyBytesSpec)) keyBytesCard

/-- THE TIED CARD OF 'fermatalaw07.KeyRead'. -/
def keyReadCard : Claim7 := { stood := { row := keyReadRow, standIns := [], harness := (true, "f52b3c02fbd736ac1b5f20386a7b2cf2958078954ccf3852b2ff9c42caccb01a"), looks := false }, kinds := [], alts := [], laidByText := true, laidKinds := [.data, .data, .data], laidTests := true, laidLooks := .later }
def KeyReadCardSaid : Prop := Claim7.holds Tryd.pinned (.plain (OpenSpec.ofChange keyReadSpec)) keyReadCard

/-- THE TIED CARD OF 'fermatalaw07.KeySteps'. -/
def keyStepsCard : Claim7 := { stood := { row := keyStepsRow, standIns := [], harness := (true, "f52b3c02fbd736ac1b5f20386a7b2cf2958078954ccf3852b2ff9c42caccb01a"), looks := false }, kinds := [], alts := [], laidByText := true, laidKinds := [.data, .data, .data], laidTests := true, laidLooks := .later }
def KeyStepsCardSaid : Prop := Claim7.holds Tryd.pinned (.plain (OpenSpec.ofChange keyStepsSpec)) keyStepsCard

/-- THE TIED CARD OF 'fermatalaw07.KeyOrder'. -/
def keyOrderCard : Claim7 := { stood := { row := keyOrderRow, standIns := [], harness := (true, "f52b3c02fbd736ac1b5f20386a7b2cf2958078954ccf3852b2ff9c42caccb01a"), looks := false }, kinds := [], alts := [], laidByText := true, laidKinds := [.data, .data, .data], laidTests := true, laidLooks := .later }
def KeyOrderCardSaid : Prop := Claim7.holds Tryd.pinned (.plain (OpenSpec.ofChange keyOrderSpec)) keyOrderCard

/-- THE TIED CARD OF 'fermatalaw07.KeyFinds'. -/
def keyFindsCard : Claim7 := { stood := { row := keyFindsRow, standIns := [], harness := (true, "f52b3c02fbd736ac1b5f20386a7b2cf2958078954ccf3852b2ff9c42caccb01a"), looks := false }, kinds := [], alts := [], laidByText := true, laidKinds := [.data, .data, .data], laidTests := true, laidLooks := .later }
def KeyFindsCardSaid : Prop := Claim7.holds Tryd.pinned (.plain (OpenSpec.ofChange keyFindsSpec)) keyFindsCard

/-- THE TIED CARD OF 'fermatalaw07.KeyWrong'. -/
def keyWrongCard : Claim7 := { stood := { row := keyWrongRow, standIns := [], harness := (true, "f52b3c02fbd736ac1b5f20386a7b2cf2958078954ccf3852b2ff9c42caccb01a"), looks := false }, kinds := [], alts := [], laidByText := true, laidKinds := [.data, .data, .data, .data, .pinned], laidTests := true, laidLooks := .later }
def KeyWrongCardSaid : Prop := Claim7.holds Tryd.pinned (.plain (OpenSpec.ofChange keyWrongSpec)) keyWrongCard

/-- THE SECOND FORM's CARD OF 'fermatalaw07.KeyTells'. -/
def keyTellsUptoCard : Claim7 := { stood := { row := keyTellsUptoRow, standIns := [], harness := (true, "f52b3c02fbd736ac1b5f20386a7b2cf2958078954ccf3852b2ff9c42caccb01a"), looks := false }, kinds := [], alts := [], laidByText := true, laidKinds := [.data, .data, .data], laidTests := true, laidLooks := .later }
def KeyTellsUptoCardSaid : Prop := Claim7.holds Tryd.pinned (.plain (OpenSpec.upto keyTellsSpec)) keyTellsUptoCard

/-- THE SECOND FORM's CARD OF 'fermatalaw07.KeyReads'. -/
def keyReadsUptoCard : Claim7 := { stood := { row := keyReadsUptoRow, standIns := [], harness := (true, "f52b3c02fbd736ac1b5f20386a7b2cf2958078954ccf3852b2ff9c42caccb01a"), looks := false }, kinds := [], alts := [], laidByText := true, laidKinds := [.data, .data, .data], laidTests := true, laidLooks := .later }
def KeyReadsUptoCardSaid : Prop := Claim7.holds Tryd.pinned (.plain (OpenSpec.upto keyReadsSpec)) keyReadsUptoCard

/-- THE SECOND FORM's CARD OF 'fermatalaw07.KeyLists'. -/
def keyListsUptoCard : Claim7 := { stood := { row := keyListsUptoRow, standIns := [], harness := (true, "f52b3c02fbd736ac1b5f20386a7b2cf2958078954ccf3852b2ff9c42caccb01a"), looks := false }, kinds := [], alts := [], laidByText := true, laidKinds := [.data, .data, .data], laidTests := true, laidLooks := .later }
def KeyListsUptoCardSaid : Prop := Claim7.holds Tryd.pinned (.plain (OpenSpec.upto keyListsSpec)) keyListsUptoCard

/-- THE SECOND FORM's CARD OF 'fermatalaw07.KeyBytes'. -/
def keyBytesUptoCard : Claim7 := { stood := { row := keyBytesUptoRow, standIns := [], harness := (true, "f52b3c02fbd736ac1b5f20386a7b2cf2958078954ccf3852b2ff9c42caccb01a"), looks := false }, kinds := [], alts := [], laidByText := true, laidKinds := [.data, .data, .data], laidTests := true, laidLooks := .later }
def KeyBytesUptoCardSaid : Prop := Claim7.holds Tryd.pinned (.plain (OpenSpec.upto keyBytesSpec)) keyBytesUptoCard

/-- THE SECOND FORM's CARD OF 'fermatalaw07.KeyRead'. -/
def keyReadUptoCard : Claim7 := { stood := { row := keyReadUptoRow, standIns := [], harness := (true, "f52b3c02fbd736ac1b5f20386a7b2cf2958078954ccf3852b2ff9c42caccb01a"), looks := false }, kinds := [], alts := [], laidByText := true, laidKinds := [.data, .data, .data], laidTests := true, laidLooks := .later }
def KeyReadUptoCardSaid : Prop := Claim7.holds Tryd.pinned (.plain (OpenSpec.upto keyReadSpec)) keyReadUptoCard

/-- THE SECOND FORM's CARD OF 'fermatalaw07.KeySteps'. -/
def keyStepsUptoCard : Claim7 := { stood := { row := keyStepsUptoRow, standIns := [], harness := (true, "f52b3c02fbd736ac1b5f20386a7b2cf2958078954ccf3852b2ff9c42caccb01a"), looks := false }, kinds := [], alts := [], laidByText := true, laidKinds := [.data, .data, .data], laidTests := true, laidLooks := .later }
def KeyStepsUptoCardSaid : Prop := Claim7.holds Tryd.pinned (.plain (OpenSpec.upto keyStepsSpec)) keyStepsUptoCard

/-- THE SECOND FORM's CARD OF 'fermatalaw07.KeyOrder'. -/
def keyOrderUptoCard : Claim7 := { stood := { row := keyOrderUptoRow, standIns := [], harness := (true, "f52b3c02fbd736ac1b5f20386a7b2cf2958078954ccf3852b2ff9c42caccb01a"), looks := false }, kinds := [], alts := [], laidByText := true, laidKinds := [.data, .data, .data], laidTests := true, laidLooks := .later }
def KeyOrderUptoCardSaid : Prop := Claim7.holds Tryd.pinned (.plain (OpenSpec.upto keyOrderSpec)) keyOrderUptoCard

/-- THE SECOND FORM's CARD OF 'fermatalaw07.KeyFinds'. -/
def keyFindsUptoCard : Claim7 := { stood := { row := keyFindsUptoRow, standIns := [], harness := (true, "f52b3c02fbd736ac1b5f20386a7b2cf2958078954ccf3852b2ff9c42caccb01a"), looks := false }, kinds := [], alts := [], laidByText := true, laidKinds := [.data, .data, .data], laidTests := true, laidLooks := .later }
def KeyFindsUptoCardSaid : Prop := Claim7.holds Tryd.pinned (.plain (OpenSpec.upto keyFindsSpec)) keyFindsUptoCard

/-- THE SECOND FORM's CARD OF 'fermatalaw07.KeyWrong'. -/
def keyWrongUptoCard : Claim7 := { stood := { row := keyWrongUptoRow, standIns := [], harness := (true, "f52b3c02fbd736ac1b5f20386a7b2cf2958078954ccf3852b2ff9c42caccb01a"), looks := false }, kinds := [], alts := [], laidByText := true, laidKinds := [.data, .data, .data, .data, .pinned], laidTests := true, laidLooks := .later }
def KeyWrongUptoCardSaid : Prop := Claim7.holds Tryd.pinned (.plain (OpenSpec.upto keyWrongSpec)) keyWrongUptoCard
end Rows
end Go.Proofs.YtapaccbffhcjdaaDoor
