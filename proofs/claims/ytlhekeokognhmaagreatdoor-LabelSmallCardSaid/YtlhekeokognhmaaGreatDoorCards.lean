/-
  DERIVED. GIVEN WITH THE SEED: THE CARDS: each row of YtlhekeokognhmaaGreatDoorRows.lean that lists a variable, with what it lists TIED to the program's text (the seventh form; the later family's looks); each row that meets fmt, with fmt's text TOLD by the authors' own Lean function (tested against real Go, not proved from fmt's source: count such statements apart). THE CARD IS WHAT COUNTS. Prove the row's statement (the work); the ties are given (YtlhekeokognhmaaGreatDoorTie.lean); close each card by the builder's one call (the guide's Derived/Test/ToyasCard.lean, 'card_holds'). Laid BY PROGRAM, IN A SANDBOX (cutbox-door.mjs). By AI agents, Wed Nov 11 2026. No macro, syntax, notation, axiom, sorry.
-/
import Derived.Test.YtlhekeokognhmaaGreatDoorRows
import GoSem.ClaimSeven
namespace Go.Proofs.YtlhekeokognhmaaGreatDoor
namespace Rows

/-- THE TIED CARD OF 'gaugerlaw04.LabelChanges'. -/
def labelChangesCard : Claim7 := { stood := { row := labelChangesRow, standIns := [], harness := (true, "353c138a3bedadfbeed40530d6048a66595f9b8886b52911bfb25facfb032b5e"), looks := false }, kinds := [], alts := [], laidByText := true, laidKinds := [.data], laidTests := true, laidLooks := .later }
def LabelChangesCardSaid : Prop := Claim7.holds Tryz.pinned (.plain (OpenSpec.ofChange labelChangesSpec)) labelChangesCard

/-- THE TIED CARD OF 'gaugerlaw04.LabelSmall'. -/
def labelSmallCard : Claim7 := { stood := { row := labelSmallRow, standIns := [], harness := (true, "353c138a3bedadfbeed40530d6048a66595f9b8886b52911bfb25facfb032b5e"), looks := false }, kinds := [], alts := [], laidByText := true, laidKinds := [.data], laidTests := true, laidLooks := .later }
def LabelSmallCardSaid : Prop := Claim7.holds Tryz.pinned (.plain (OpenSpec.ofChange labelSmallSpec)) labelSmallCard

/-- THE TIED CARD OF 'gaugerlaw04.LabelWrong'. -/
def labelWrongCard : Claim7 := { stood := { row := labelWrongRow, standIns := [], harness := (true, "353c138a3bedadfbeed40530d6048a66595f9b8886b52911bfb25facfb032b5e"), looks := false }, kinds := [], alts := [], laidByText := true, laidKinds := [.data], laidTests := true, laidLooks := .later }
def LabelWrongCardSaid : Prop := Claim7.holds Tryz.pinned (.plain (OpenSpec.ofChange labelWrongSpec)) labelWrongCard

/-- THE SECOND FORM's CARD OF 'gaugerlaw04.LabelChanges'. -/
def labelChangesUptoCard : Claim7 := { stood := { row := labelChangesUptoRow, standIns := [], harness := (true, "353c138a3bedadfbeed40530d6048a66595f9b8886b52911bfb25facfb032b5e"), looks := false }, kinds := [], alts := [], laidByText := true, laidKinds := [.data], laidTests := true, laidLooks := .later }
def LabelChangesUptoCardSaid : Prop := Claim7.holds Tryz.pinned (.plain (OpenSpec.upto labelChangesSpec)) labelChangesUptoCard

/-- THE SECOND FORM's CARD OF 'gaugerlaw04.LabelSmall'. -/
def labelSmallUptoCard : Claim7 := { stood := { row := labelSmallUptoRow, standIns := [], harness := (true, "353c138a3bedadfbeed40530d6048a66595f9b8886b52911bfb25facfb032b5e"), looks := false }, kinds := [], alts := [], laidByText := true, laidKinds := [.data], laidTests := true, laidLooks := .later }
def LabelSmallUptoCardSaid : Prop := Claim7.holds Tryz.pinned (.plain (OpenSpec.upto labelSmallSpec)) labelSmallUptoCard

/-- THE SECOND FORM's CARD OF 'gaugerlaw04.LabelWrong'. -/
def labelWrongUptoCard : Claim7 := { stood := { row := labelWrongUptoRow, standIns := [], harness := (true, "353c138a3bedadfbeed40530d6048a66595f9b8886b52911bfb25facfb032b5e"), looks := false }, kinds := [], alts := [], laidByText := true, laidKinds := [.data], laidTests := true, laidLooks := .later }
def LabelWrongUptoCardSaid : Prop := Claim7.holds Tryz.pinned (.plain (OpenSpec.upto labelWrongSpec)) labelWrongUptoCard
end Rows
end Go.Proofs.YtlhekeokognhmaaGreatDoor
