/-
  DERIVED. GIVEN WITH THE SEED: THE CARDS: each row of YtlhekeokognhmaaDoorRows.lean that lists a variable, with what it lists TIED to the program's text (the seventh form; the later family's looks); each row that meets fmt, with fmt's text TOLD by the authors' own Lean function (tested against real Go, not proved from fmt's source: count such statements apart). THE CARD IS WHAT COUNTS. Prove the row's statement (the work); the ties are given (YtlhekeokognhmaaDoorTie.lean); close each card by the builder's one call (the guide's Derived/Test/ToyasCard.lean, 'card_holds'). Laid BY PROGRAM, IN A SANDBOX (cutbox-door.mjs). By AI agents, Wed Nov 11 2026. No macro, syntax, notation, axiom, sorry.
-/
import Derived.Test.YtlhekeokognhmaaDoorRows
import GoSem.ClaimSeven
namespace Go.Proofs.YtlhekeokognhmaaDoor
namespace Rows

/-- THE TIED CARD OF 'gaugerlaw04.LabelTells'. -/
def labelTellsCard : Claim7 := { stood := { row := labelTellsRow, standIns := [], harness := (true, "162b60bb538a5a8fc54648c749bdf3361ce03e3029765383b7cc4433e45b7a50"), looks := false }, kinds := [], alts := [], laidByText := true, laidKinds := [.data], laidTests := true, laidLooks := .later }
def LabelTellsCardSaid : Prop := Claim7.holds Tryd.pinned (.plain (OpenSpec.ofChange labelTellsSpec)) labelTellsCard

/-- THE TIED CARD OF 'gaugerlaw04.LabelOrder'. -/
def labelOrderCard : Claim7 := { stood := { row := labelOrderRow, standIns := [], harness := (true, "162b60bb538a5a8fc54648c749bdf3361ce03e3029765383b7cc4433e45b7a50"), looks := false }, kinds := [], alts := [], laidByText := true, laidKinds := [.data], laidTests := true, laidLooks := .later }
def LabelOrderCardSaid : Prop := Claim7.holds Tryd.pinned (.plain (OpenSpec.ofChange labelOrderSpec)) labelOrderCard

/-- THE TIED CARD OF 'gaugerlaw04.LabelSets'. -/
def labelSetsCard : Claim7 := { stood := { row := labelSetsRow, standIns := [], harness := (true, "162b60bb538a5a8fc54648c749bdf3361ce03e3029765383b7cc4433e45b7a50"), looks := false }, kinds := [], alts := [], laidByText := true, laidKinds := [.data], laidTests := true, laidLooks := .later }
def LabelSetsCardSaid : Prop := Claim7.holds Tryd.pinned (.plain (OpenSpec.ofChange labelSetsSpec)) labelSetsCard

/-- THE TIED CARD OF 'gaugerlaw04.LabelMerges'. -/
def labelMergesCard : Claim7 := { stood := { row := labelMergesRow, standIns := [], harness := (true, "162b60bb538a5a8fc54648c749bdf3361ce03e3029765383b7cc4433e45b7a50"), looks := false }, kinds := [], alts := [], laidByText := true, laidKinds := [.data], laidTests := true, laidLooks := .later }
def LabelMergesCardSaid : Prop := Claim7.holds Tryd.pinned (.plain (OpenSpec.ofChange labelMergesSpec)) labelMergesCard

/-- THE TIED CARD OF 'gaugerlaw04.LabelExports'. -/
def labelExportsCard : Claim7 := { stood := { row := labelExportsRow, standIns := [], harness := (true, "162b60bb538a5a8fc54648c749bdf3361ce03e3029765383b7cc4433e45b7a50"), looks := false }, kinds := [], alts := [], laidByText := true, laidKinds := [.data], laidTests := true, laidLooks := .later }
def LabelExportsCardSaid : Prop := Claim7.holds Tryd.pinned (.plain (OpenSpec.ofChange labelExportsSpec)) labelExportsCard

/-- THE TIED CARD OF 'gaugerlaw04.LabelParts'. -/
def labelPartsCard : Claim7 := { stood := { row := labelPartsRow, standIns := [], harness := (true, "162b60bb538a5a8fc54648c749bdf3361ce03e3029765383b7cc4433e45b7a50"), looks := false }, kinds := [], alts := [], laidByText := true, laidKinds := [.data], laidTests := true, laidLooks := .later }
def LabelPartsCardSaid : Prop := Claim7.holds Tryd.pinned (.plain (OpenSpec.ofChange labelPartsSpec)) labelPartsCard

/-- THE TIED CARD OF 'gaugerlaw04.LabelCompares'. -/
def labelComparesCard : Claim7 := { stood := { row := labelComparesRow, standIns := [], harness := (true, "162b60bb538a5a8fc54648c749bdf3361ce03e3029765383b7cc4433e45b7a50"), looks := false }, kinds := [], alts := [], laidByText := true, laidKinds := [.data], laidTests := true, laidLooks := .later }
def LabelComparesCardSaid : Prop := Claim7.holds Tryd.pinned (.plain (OpenSpec.ofChange labelComparesSpec)) labelComparesCard

/-- THE SECOND FORM's CARD OF 'gaugerlaw04.LabelTells'. -/
def labelTellsUptoCard : Claim7 := { stood := { row := labelTellsUptoRow, standIns := [], harness := (true, "162b60bb538a5a8fc54648c749bdf3361ce03e3029765383b7cc4433e45b7a50"), looks := false }, kinds := [], alts := [], laidByText := true, laidKinds := [.data], laidTests := true, laidLooks := .later }
def LabelTellsUptoCardSaid : Prop := Claim7.holds Tryd.pinned (.plain (OpenSpec.upto labelTellsSpec)) labelTellsUptoCard

/-- THE SECOND FORM's CARD OF 'gaugerlaw04.LabelOrder'. -/
def labelOrderUptoCard : Claim7 := { stood := { row := labelOrderUptoRow, standIns := [], harness := (true, "162b60bb538a5a8fc54648c749bdf3361ce03e3029765383b7cc4433e45b7a50"), looks := false }, kinds := [], alts := [], laidByText := true, laidKinds := [.data], laidTests := true, laidLooks := .later }
def LabelOrderUptoCardSaid : Prop := Claim7.holds Tryd.pinned (.plain (OpenSpec.upto labelOrderSpec)) labelOrderUptoCard

/-- THE SECOND FORM's CARD OF 'gaugerlaw04.LabelSets'. -/
def labelSetsUptoCard : Claim7 := { stood := { row := labelSetsUptoRow, standIns := [], harness := (true, "162b60bb538a5a8fc54648c749bdf3361ce03e3029765383b7cc4433e45b7a50"), looks := false }, kinds := [], alts := [], laidByText := true, laidKinds := [.data], laidTests := true, laidLooks := .later }
def LabelSetsUptoCardSaid : Prop := Claim7.holds Tryd.pinned (.plain (OpenSpec.upto labelSetsSpec)) labelSetsUptoCard

/-- THE SECOND FORM's CARD OF 'gaugerlaw04.LabelMerges'. -/
def labelMergesUptoCard : Claim7 := { stood := { row := labelMergesUptoRow, standIns := [], harness := (true, "162b60bb538a5a8fc54648c749bdf3361ce03e3029765383b7cc4433e45b7a50"), looks := false }, kinds := [], alts := [], laidByText := true, laidKinds := [.data], laidTests := true, laidLooks := .later }
def LabelMergesUptoCardSaid : Prop := Claim7.holds Tryd.pinned (.plain (OpenSpec.upto labelMergesSpec)) labelMergesUptoCard

/-- THE SECOND FORM's CARD OF 'gaugerlaw04.LabelExports'. -/
def labelExportsUptoCard : Claim7 := { stood := { row := labelExportsUptoRow, standIns := [], harness := (true, "162b60bb538a5a8fc54648c749bdf3361ce03e3029765383b7cc4433e45b7a50"), looks := false }, kinds := [], alts := [], laidByText := true, laidKinds := [.data], laidTests := true, laidLooks := .later }
def LabelExportsUptoCardSaid : Prop := Claim7.holds Tryd.pinned (.plain (OpenSpec.upto labelExportsSpec)) labelExportsUptoCard

/-- THE SECOND FORM's CARD OF 'gaugerlaw04.LabelParts'. -/
def labelPartsUptoCard : Claim7 := { stood := { row := labelPartsUptoRow, standIns := [], harness := (true, "162b60bb538a5a8fc54648c749bdf3361ce03e3029765383b7cc4433e45b7a50"), looks := false }, kinds := [], alts := [], laidByText := true, laidKinds := [.data], laidTests := true, laidLooks := .later }
def LabelPartsUptoCardSaid : Prop := Claim7.holds Tryd.pinned (.plain (OpenSpec.upto labelPartsSpec)) labelPartsUptoCard

/-- THE SECOND FORM's CARD OF 'gaugerlaw04.LabelCompares'. -/
def labelComparesUptoCard : Claim7 := { stood := { row := labelComparesUptoRow, standIns := [], harness := (true, "162b60bb538a5a8fc54648c749bdf3361ce03e3029765383b7cc4433e45b7a50"), looks := false }, kinds := [], alts := [], laidByText := true, laidKinds := [.data], laidTests := true, laidLooks := .later }
def LabelComparesUptoCardSaid : Prop := Claim7.holds Tryd.pinned (.plain (OpenSpec.upto labelComparesSpec)) labelComparesUptoCard
end Rows
end Go.Proofs.YtlhekeokognhmaaDoor
