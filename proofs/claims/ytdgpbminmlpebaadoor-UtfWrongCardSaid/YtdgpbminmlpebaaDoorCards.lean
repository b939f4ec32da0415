/-
  DERIVED. GIVEN WITH THE SEED: THE CARDS: each row of YtdgpbminmlpebaaDoorRows.lean that lists a variable, with what it lists TIED to the program's text (the seventh form; the later family's looks); each row that meets fmt, with fmt's text TOLD by the authors' own Lean function (tested against real Go, not proved from fmt's source: count such statements apart). THE CARD IS WHAT COUNTS. Prove the row's statement (the work); the ties are given (YtdgpbminmlpebaaDoorTie.lean); close each card by the builder's one call (the guide's Derived/Test/ToyasCard.lean, 'card_holds'). Laid BY PROGRAM, IN A SANDBOX (cutbox-door.mjs). By AI agents, Wed Nov 11 2026. No macro, syntax, notation, axiom, sorry.
-/
import Derived.Test.YtdgpbminmlpebaaDoorRows
import GoSem.ClaimSeven
namespace Go.Proofs.YtdgpbminmlpebaaDoor
namespace Rows

/-- THE TIED CARD OF 'gaugerlaw01.UtfTells'. -/
def utfTellsCard : Claim7 := { stood := { row := utfTellsRow, standIns := [], harness := (true, "60bb98d4927f15c8b30011266f2ff6de6ec839abfcfc0206ecdc28a13e521554"), looks := false }, kinds := [], alts := [], laidByText := true, laidKinds := [.data], laidTests := true, laidLooks := .later }
def UtfTellsCardSaid : Prop := Claim7.holds Tryd.pinned (.plain (OpenSpec.ofChange utfTellsSpec)) utfTellsCard

/-- THE TIED CARD OF 'gaugerlaw01.UtfReads'. -/
def utfReadsCard : Claim7 := { stood := { row := utfReadsRow, standIns := [], harness := (true, "60bb98d4927f15c8b30011266f2ff6de6ec839abfcfc0206ecdc28a13e521554"), looks := false }, kinds := [], alts := [], laidByText := true, laidKinds := [.data], laidTests := true, laidLooks := .later }
def UtfReadsCardSaid : Prop := Claim7.holds Tryd.pinned (.plain (OpenSpec.ofChange utfReadsSpec)) utfReadsCard

/-- THE TIED CARD OF 'gaugerlaw01.UtfTexts'. -/
def utfTextsCard : Claim7 := { stood := { row := utfTextsRow, standIns := [], harness := (true, "60bb98d4927f15c8b30011266f2ff6de6ec839abfcfc0206ecdc28a13e521554"), looks := false }, kinds := [], alts := [], laidByText := true, laidKinds := [.data], laidTests := true, laidLooks := .later }
def UtfTextsCardSaid : Prop := Claim7.holds Tryd.pinned (.plain (OpenSpec.ofChange utfTextsSpec)) utfTextsCard

/-- THE TIED CARD OF 'gaugerlaw01.UtfSmall'. -/
def utfSmallCard : Claim7 := { stood := { row := utfSmallRow, standIns := [], harness := (true, "60bb98d4927f15c8b30011266f2ff6de6ec839abfcfc0206ecdc28a13e521554"), looks := false }, kinds := [], alts := [], laidByText := true, laidKinds := [.data], laidTests := true, laidLooks := .later }
def UtfSmallCardSaid : Prop := Claim7.holds Tryd.pinned (.plain (OpenSpec.ofChange utfSmallSpec)) utfSmallCard

/-- THE TIED CARD OF 'gaugerlaw01.UtfBack'. -/
def utfBackCard : Claim7 := { stood := { row := utfBackRow, standIns := [], harness := (true, "60bb98d4927f15c8b30011266f2ff6de6ec839abfcfc0206ecdc28a13e521554"), looks := false }, kinds := [], alts := [], laidByText := true, laidKinds := [.data], laidTests := true, laidLooks := .later }
def UtfBackCardSaid : Prop := Claim7.holds Tryd.pinned (.plain (OpenSpec.ofChange utfBackSpec)) utfBackCard

/-- THE TIED CARD OF 'gaugerlaw01.UtfOrder'. -/
def utfOrderCard : Claim7 := { stood := { row := utfOrderRow, standIns := [], harness := (true, "60bb98d4927f15c8b30011266f2ff6de6ec839abfcfc0206ecdc28a13e521554"), looks := false }, kinds := [], alts := [], laidByText := true, laidKinds := [.data], laidTests := true, laidLooks := .later }
def UtfOrderCardSaid : Prop := Claim7.holds Tryd.pinned (.plain (OpenSpec.ofChange utfOrderSpec)) utfOrderCard

/-- THE TIED CARD OF 'gaugerlaw01.UtfCuts'. -/
def utfCutsCard : Claim7 := { stood := { row := utfCutsRow, standIns := [], harness := (true, "60bb98d4927f15c8b30011266f2ff6de6ec839abfcfc0206ecdc28a13e521554"), looks := false }, kinds := [], alts := [], laidByText := true, laidKinds := [.data], laidTests := true, laidLooks := .later }
def UtfCutsCardSaid : Prop := Claim7.holds Tryd.pinned (.plain (OpenSpec.ofChange utfCutsSpec)) utfCutsCard

/-- THE TIED CARD OF 'gaugerlaw01.UtfShort'. -/
def utfShortCard : Claim7 := { stood := { row := utfShortRow, standIns := [], harness := (true, "60bb98d4927f15c8b30011266f2ff6de6ec839abfcfc0206ecdc28a13e521554"), looks := false }, kinds := [], alts := [], laidByText := true, laidKinds := [.data], laidTests := true, laidLooks := .later }
def UtfShortCardSaid : Prop := Claim7.holds Tryd.pinned (.plain (OpenSpec.ofChange utfShortSpec)) utfShortCard

/-- THE TIED CARD OF 'gaugerlaw01.UtfPairs'. -/
def utfPairsCard : Claim7 := { stood := { row := utfPairsRow, standIns := [], harness := (true, "60bb98d4927f15c8b30011266f2ff6de6ec839abfcfc0206ecdc28a13e521554"), looks := false }, kinds := [], alts := [], laidByText := true, laidKinds := [.data], laidTests := true, laidLooks := .later }
def UtfPairsCardSaid : Prop := Claim7.holds Tryd.pinned (.plain (OpenSpec.ofChange utfPairsSpec)) utfPairsCard

/-- THE TIED CARD OF 'gaugerlaw01.UtfWrong'. -/
def utfWrongCard : Claim7 := { stood := { row := utfWrongRow, standIns := [], harness := (true, "60bb98d4927f15c8b30011266f2ff6de6ec839abfcfc0206ecdc28a13e521554"), looks := false }, kinds := [], alts := [], laidByText := true, laidKinds := [.data], laidTests := true, laidLooks := .later }
def UtfWrongCardSaid : Prop := Claim7.holds Tryd.pinned (.plain (OpenSpec.ofChange utfWrongSpec)) utfWrongCard

/-- THE SECOND FORM's CARD OF 'gaugerlaw01.UtfTells'. -/
def utfTellsUptoCard : Claim7 := { stood := { row := utfTellsUptoRow, standIns := [], harness := (true, "60bb98d4927f15c8b30011266f2ff6de6ec839abfcfc0206ecdc28a13e521554"), looks := false }, kinds := [], alts := [], laidByText := true, laidKinds := [.data], laidTests := true, laidLooks := .later }
def UtfTellsUptoCardSaid : Prop := Claim7.holds Tryd.pinned (.plain (OpenSpec.upto utfTellsSpec)) utfTellsUptoCard

/-- THE SECOND FORM's CARD OF 'gaugerlaw01.UtfReads'. -/
def utfReadsUptoCard : Claim7 := { stood := { row := utfReadsUptoRow, standIns := [], harness := (true, "60bb98d4927f15c8b30011266f2ff6de6ec839abfcfc0206ecdc28a13e521554"), looks := false }, kinds := [], alts := [], laidByText := true, laidKinds := [.data], laidTests := true, laidLooks := .later }
def UtfReadsUptoCardSaid : Prop := Claim7.holds Tryd.pinned (.plain (OpenSpec.upto utfReadsSpec)) utfReadsUptoCard

/-- THE SECOND FORM's CARD OF 'gaugerlaw01.UtfTexts'. -/
def utfTextsUptoCard : Claim7 := { stood := { row := utfTextsUptoRow, standIns := [], harness := (true, "60bb98d4927f15c8b30011266f2ff6de6ec839abfcfc0206ecdc28a13e521554"), looks := false }, kinds := [], alts := [], laidByText := true, laidKinds := [.data], laidTests := true, laidLooks := .later }
def UtfTextsUptoCardSaid : Prop := Claim7.holds Tryd.pinned (.plain (OpenSpec.upto utfTextsSpec)) utfTextsUptoCard

/-- THE SECOND FORM's CARD OF 'gaugerlaw01.UtfSmall'. -/
def utfSmallUptoCard : Claim7 := { stood := { row := utfSmallUptoRow, standIns := [], harness := (true, "60bb98d4927f15c8b30011266f2ff6de6ec839abfcfc0206ecdc28a13e521554"), looks := false }, kinds := [], alts := [], laidByText := true, laidKinds := [.data], laidTests := true, laidLooks := .later }
def UtfSmallUptoCardSaid : Prop := Claim7.holds Tryd.pinned (.plain (OpenSpec.upto utfSmallSpec)) utfSmallUptoCard

/-- THE SECOND FORM's CARD OF 'gaugerlaw01.UtfBack'. -/
def utfBackUptoCard : Claim7 := { stood := { row := utfBackUptoRow, standIns := [], harness := (true, "60bb98d4927f15c8b30011266f2ff6de6ec839abfcfc0206ecdc28a13e521554"), looks := false }, kinds := [], alts := [], laidByText := true, laidKinds := [.data], laidTests := true, laidLooks := .later }
def UtfBackUptoCardSaid : Prop := Claim7.holds Tryd.pinned (.plain (OpenSpec.upto utfBackSpec)) utfBackUptoCard

/-- THE SECOND FORM's CARD OF 'gaugerlaw01.UtfOrder'. -/
def utfOrderUptoCard : Claim7 := { stood := { row := utfOrderUptoRow, standIns := [], harness := (true, "60bb98d4927f15c8b30011266f2ff6de6ec839abfcfc0206ecdc28a13e521554"), looks := false }, kinds := [], alts := [], laidByText := true, laidKinds := [.data], laidTests := true, laidLooks := .later }
def UtfOrderUptoCardSaid : Prop := Claim7.holds Tryd.pinned (.plain (OpenSpec.upto utfOrderSpec)) utfOrderUptoCard

/-- THE SECOND FORM's CARD OF 'gaugerlaw01.UtfCuts'. -/
def utfCutsUptoCard : Claim7 := { stood := { row := utfCutsUptoRow, standIns := [], harness := (true, "60bb98d4927f15c8b30011266f2ff6de6ec839abfcfc0206ecdc28a13e521554"), looks := false }, kinds := [], alts := [], laidByText := true, laidKinds := [.data], laidTests := true, laidLooks := .later }
def UtfCutsUptoCardSaid : Prop := Claim7.holds Tryd.pinned (.plain (OpenSpec.upto utfCutsSpec)) utfCutsUptoCard

/-- THE SECOND FORM's CARD OF 'gaugerlaw01.UtfShort'. -/
def utfShortUptoCard : Claim7 := { stood := { row := utfShortUptoRow, standIns := [], harness := (true, "60bb98d4927f15c8b30011266f2ff6de6ec839abfcfc0206ecdc28a13e521554"), looks := false }, kinds := [], alts := [], laidByText := true, laidKinds := [.data], laidTests := true, laidLooks := .later }
def UtfShortUptoCardSaid : Prop := Claim7.holds Tryd.pinned (.plain (OpenSpec.upto utfShortSpec)) utfShortUptoCard

/-- THE SECOND FORM's CARD OF 'gaugerlaw01.UtfPairs'. -/
def utfPairsUptoCard : Claim7 := { stood := { row := utfPairsUptoRow, standIns := [], harness := (true, "60bb98d4927f15c8b30011266f2ff6de6ec839abfcfc0206ecdc28a13e521554"), looks := false }, kinds := [], alts := [], laidByText := true, laidKinds := [.data], laidTests := true, laidLooks := .later }
def UtfPairsUptoCardSaid : Prop := Claim7.holds Tryd.pinned (.plain (OpenSpec.upto utfPairsSpec)) utfPairsUptoCard

/-- THE SECOND FORM's CARD OF 'gaugerlaw01.UtfWrong'. -/
def utfWrongUptoCard : Claim7 := { stood := { row := utfWrongUptoRow, standIns := [], harness := (true, "60bb98d4927f15c8b30011266f2ff6de6ec839abfcfc0206ecdc28a13e521554"), looks := false }, kinds := [], alts := [], laidByText := true, laidKinds := [.data], laidTests := true, laidLooks := .later }
def UtfWrongUptoCardSaid : Prop := Claim7.holds Tryd.pinned (.plain (OpenSpec.upto utfWrongSpec)) utfWrongUptoCard
end Rows
end Go.Proofs.YtdgpbminmlpebaaDoor
