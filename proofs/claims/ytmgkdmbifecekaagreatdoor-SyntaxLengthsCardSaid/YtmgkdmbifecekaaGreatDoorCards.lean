/-
  DERIVED. GIVEN WITH THE SEED: THE CARDS: each row of YtmgkdmbifecekaaGreatDoorRows.lean that lists a variable, with what it lists TIED to the program's text (the seventh form; the later family's looks); each row that meets fmt, with fmt's text TOLD by the authors' own Lean function (tested against real Go, not proved from fmt's source: count such statements apart). THE CARD IS WHAT COUNTS. Prove the row's statement (the work); the ties are given (YtmgkdmbifecekaaGreatDoorTie.lean); close each card by the builder's one call (the guide's Derived/Test/ToyasCard.lean, 'card_holds'). Laid BY PROGRAM, IN A SANDBOX (cutbox-door.mjs). By AI agents, Wed Nov 11 2026. No macro, syntax, notation, axiom, sorry.
-/
import Derived.Test.YtmgkdmbifecekaaGreatDoorRows
import GoSem.ClaimSeven
namespace Go.Proofs.YtmgkdmbifecekaaGreatDoor
namespace Rows

/-- THE TIED CARD OF 'gaugerlaw07.SyntaxTells'. -/
def syntaxTellsCard : Claim7 := { stood := { row := syntaxTellsRow, standIns := [], harness := (true, "22e85ed30441d53c965dfce8d94efcc113cf5a8735eb7e9186edeabd0526ec96"), looks := true }, kinds := [], alts := [], laidByText := true, laidKinds := [.data, .data, .data, .data, .sentinel, .sentinel, .pinned, .pinned], laidTests := true, laidLooks := .later }
def SyntaxTellsCardSaid : Prop := Claim7.holds Tryz.pinned (.plain (OpenSpec.ofChange syntaxTellsSpec)) syntaxTellsCard

/-- THE TIED CARD OF 'gaugerlaw07.SyntaxParses'. -/
def syntaxParsesCard : Claim7 := { stood := { row := syntaxParsesRow, standIns := [], harness := (true, "22e85ed30441d53c965dfce8d94efcc113cf5a8735eb7e9186edeabd0526ec96"), looks := true }, kinds := [], alts := [], laidByText := true, laidKinds := [.data, .data, .data, .data, .sentinel, .sentinel, .pinned, .pinned], laidTests := true, laidLooks := .later }
def SyntaxParsesCardSaid : Prop := Claim7.holds Tryz.pinned (.plain (OpenSpec.ofChange syntaxParsesSpec)) syntaxParsesCard

/-- THE TIED CARD OF 'gaugerlaw07.SyntaxSmall'. -/
def syntaxSmallCard : Claim7 := { stood := { row := syntaxSmallRow, standIns := [], harness := (true, "22e85ed30441d53c965dfce8d94efcc113cf5a8735eb7e9186edeabd0526ec96"), looks := true }, kinds := [], alts := [], laidByText := true, laidKinds := [.data, .data, .data, .data, .sentinel, .sentinel, .pinned, .pinned], laidTests := true, laidLooks := .later }
def SyntaxSmallCardSaid : Prop := Claim7.holds Tryz.pinned (.plain (OpenSpec.ofChange syntaxSmallSpec)) syntaxSmallCard

/-- THE TIED CARD OF 'gaugerlaw07.SyntaxBack'. -/
def syntaxBackCard : Claim7 := { stood := { row := syntaxBackRow, standIns := [], harness := (true, "22e85ed30441d53c965dfce8d94efcc113cf5a8735eb7e9186edeabd0526ec96"), looks := true }, kinds := [], alts := [], laidByText := true, laidKinds := [.data, .data, .data, .data, .sentinel, .sentinel, .pinned, .pinned], laidTests := true, laidLooks := .later }
def SyntaxBackCardSaid : Prop := Claim7.holds Tryz.pinned (.plain (OpenSpec.ofChange syntaxBackSpec)) syntaxBackCard

/-- THE TIED CARD OF 'gaugerlaw07.SyntaxLengths'. -/
def syntaxLengthsCard : Claim7 := { stood := { row := syntaxLengthsRow, standIns := [], harness := (true, "22e85ed30441d53c965dfce8d94efcc113cf5a8735eb7e9186edeabd0526ec96"), looks := true }, kinds := [], alts := [], laidByText := true, laidKinds := [.data, .data, .data, .data, .sentinel, .sentinel, .pinned, .pinned], laidTests := true, laidLooks := .later }
def SyntaxLengthsCardSaid : Prop := Claim7.holds Tryz.pinned (.plain (OpenSpec.ofChange syntaxLengthsSpec)) syntaxLengthsCard

/-- THE TIED CARD OF 'gaugerlaw07.SyntaxBrackets'. -/
def syntaxBracketsCard : Claim7 := { stood := { row := syntaxBracketsRow, standIns := [], harness := (true, "22e85ed30441d53c965dfce8d94efcc113cf5a8735eb7e9186edeabd0526ec96"), looks := true }, kinds := [], alts := [], laidByText := true, laidKinds := [.data, .data, .data, .data, .sentinel, .sentinel, .pinned, .pinned], laidTests := true, laidLooks := .later }
def SyntaxBracketsCardSaid : Prop := Claim7.holds Tryz.pinned (.plain (OpenSpec.ofChange syntaxBracketsSpec)) syntaxBracketsCard

/-- THE TIED CARD OF 'gaugerlaw07.SyntaxTimes'. -/
def syntaxTimesCard : Claim7 := { stood := { row := syntaxTimesRow, standIns := [], harness := (true, "22e85ed30441d53c965dfce8d94efcc113cf5a8735eb7e9186edeabd0526ec96"), looks := true }, kinds := [], alts := [], laidByText := true, laidKinds := [.data, .data, .data, .data, .sentinel, .sentinel, .pinned, .pinned], laidTests := true, laidLooks := .later }
def SyntaxTimesCardSaid : Prop := Claim7.holds Tryz.pinned (.plain (OpenSpec.ofChange syntaxTimesSpec)) syntaxTimesCard

/-- THE TIED CARD OF 'gaugerlaw07.SyntaxMost'. -/
def syntaxMostCard : Claim7 := { stood := { row := syntaxMostRow, standIns := [], harness := (true, "22e85ed30441d53c965dfce8d94efcc113cf5a8735eb7e9186edeabd0526ec96"), looks := true }, kinds := [], alts := [], laidByText := true, laidKinds := [.data, .data, .data, .data, .sentinel, .sentinel, .pinned, .pinned], laidTests := true, laidLooks := .later }
def SyntaxMostCardSaid : Prop := Claim7.holds Tryz.pinned (.plain (OpenSpec.ofChange syntaxMostSpec)) syntaxMostCard

/-- THE TIED CARD OF 'gaugerlaw07.SyntaxWrong'. -/
def syntaxWrongCard : Claim7 := { stood := { row := syntaxWrongRow, standIns := [], harness := (true, "22e85ed30441d53c965dfce8d94efcc113cf5a8735eb7e9186edeabd0526ec96"), looks := true }, kinds := [], alts := [], laidByText := true, laidKinds := [.data, .data, .data, .data, .sentinel, .sentinel, .pinned, .pinned], laidTests := true, laidLooks := .later }
def SyntaxWrongCardSaid : Prop := Claim7.holds Tryz.pinned (.plain (OpenSpec.ofChange syntaxWrongSpec)) syntaxWrongCard

/-- THE SECOND FORM's CARD OF 'gaugerlaw07.SyntaxTells'. -/
def syntaxTellsUptoCard : Claim7 := { stood := { row := syntaxTellsUptoRow, standIns := [], harness := (true, "22e85ed30441d53c965dfce8d94efcc113cf5a8735eb7e9186edeabd0526ec96"), looks := true }, kinds := [], alts := [], laidByText := true, laidKinds := [.data, .data, .data, .data, .sentinel, .sentinel, .pinned, .pinned], laidTests := true, laidLooks := .later }
def SyntaxTellsUptoCardSaid : Prop := Claim7.holds Tryz.pinned (.plain (OpenSpec.upto syntaxTellsSpec)) syntaxTellsUptoCard

/-- THE SECOND FORM's CARD OF 'gaugerlaw07.SyntaxParses'. -/
def syntaxParsesUptoCard : Claim7 := { stood := { row := syntaxParsesUptoRow, standIns := [], harness := (true, "22e85ed30441d53c965dfce8d94efcc113cf5a8735eb7e9186edeabd0526ec96"), looks := true }, kinds := [], alts := [], laidByText := true, laidKinds := [.data, .data, .data, .data, .sentinel, .sentinel, .pinned, .pinned], laidTests := true, laidLooks := .later }
def SyntaxParsesUptoCardSaid : Prop := Claim7.holds Tryz.pinned (.plain (OpenSpec.upto syntaxParsesSpec)) syntaxParsesUptoCard

/-- THE SECOND FORM's CARD OF 'gaugerlaw07.SyntaxSmall'. -/
def syntaxSmallUptoCard : Claim7 := { stood := { row := syntaxSmallUptoRow, standIns := [], harness := (true, "22e85ed30441d53c965dfce8d94efcc113cf5a8735eb7e9186edeabd0526ec96"), looks := true }, kinds := [], alts := [], laidByText := true, laidKinds := [.data, .data, .data, .data, .sentinel, .sentinel, .pinned, .pinned], laidTests := true, laidLooks := .later }
def SyntaxSmallUptoCardSaid : Prop := Claim7.holds Tryz.pinned (.plain (OpenSpec.upto syntaxSmallSpec)) syntaxSmallUptoCard

/-- THE SECOND FORM's CARD OF 'gaugerlaw07.SyntaxBack'. -/
def syntaxBackUptoCard : Claim7 := { stood := { row := syntaxBackUptoRow, standIns := [], harness := (true, "22e85ed30441d53c965dfce8d94efcc113cf5a8735eb7e9186edeabd0526ec96"), looks := true }, kinds := [], alts := [], laidByText := true, laidKinds := [.data, .data, .data, .data, .sentinel, .sentinel, .pinned, .pinned], laidTests := true, laidLooks := .later }
def SyntaxBackUptoCardSaid : Prop := Claim7.holds Tryz.pinned (.plain (OpenSpec.upto syntaxBackSpec)) syntaxBackUptoCard

/-- THE SECOND FORM's CARD OF 'gaugerlaw07.SyntaxLengths'. -/
def syntaxLengthsUptoCard : Claim7 := { stood := { row := syntaxLengthsUptoRow, standIns := [], harness := (true, "22e85ed30441d53c965dfce8d94efcc113cf5a8735eb7e9186edeabd0526ec96"), looks := true }, kinds := [], alts := [], laidByText := true, laidKinds := [.data, .data, .data, .data, .sentinel, .sentinel, .pinned, .pinned], laidTests := true, laidLooks := .later }
def SyntaxLengthsUptoCardSaid : Prop := Claim7.holds Tryz.pinned (.plain (OpenSpec.upto syntaxLengthsSpec)) syntaxLengthsUptoCard

/-- THE SECOND FORM's CARD OF 'gaugerlaw07.SyntaxBrackets'. -/
def syntaxBracketsUptoCard : Claim7 := { stood := { row := syntaxBracketsUptoRow, standIns := [], harness := (true, "22e85ed30441d53c965dfce8d94efcc113cf5a8735eb7e9186edeabd0526ec96"), looks := true }, kinds := [], alts := [], laidByText := true, laidKinds := [.data, .data, .data, .data, .sentinel, .sentinel, .pinned, .pinned], laidTests := true, laidLooks := .later }
def SyntaxBracketsUptoCardSaid : Prop := Claim7.holds Tryz.pinned (.plain (OpenSpec.upto syntaxBracketsSpec)) syntaxBracketsUptoCard

/-- THE SECOND FORM's CARD OF 'gaugerlaw07.SyntaxTimes'. -/
def syntaxTimesUptoCard : Claim7 := { stood := { row := syntaxTimesUptoRow, standIns := [], harness := (true, "22e85ed30441d53c965dfce8d94efcc113cf5a8735eb7e9186edeabd0526ec96"), looks := true }, kinds := [], alts := [], laidByText := true, laidKinds := [.data, .data, .data, .data, .sentinel, .sentinel, .pinned, .pinned], laidTests := true, laidLooks := .later }
def SyntaxTimesUptoCardSaid : Prop := Claim7.holds Tryz.pinned (.plain (OpenSpec.upto syntaxTimesSpec)) syntaxTimesUptoCard

/-- THE SECOND FORM's CARD OF 'gaugerlaw07.SyntaxMost'. -/
def syntaxMostUptoCard : Claim7 := { stood := { row := syntaxMostUptoRow, standIns := [], harness := (true, "22e85ed30441d53c965dfce8d94efcc113cf5a8735eb7e9186edeabd0526ec96"), looks := true }, kinds := [], alts := [], laidByText := true, laidKinds := [.data, .data, .data, .data, .sentinel, .sentinel, .pinned, .pinned], laidTests := true, laidLooks := .later }
def SyntaxMostUptoCardSaid : Prop := Claim7.holds Tryz.pinned (.plain (OpenSpec.upto syntaxMostSpec)) syntaxMostUptoCard

/-- THE SECOND FORM's CARD OF 'gaugerlaw07.SyntaxWrong'. -/
def syntaxWrongUptoCard : Claim7 := { stood := { row := syntaxWrongUptoRow, standIns := [], harness := (true, "22e85ed30441d53c965dfce8d94efcc113cf5a8735eb7e9186edeabd0526ec96"), looks := true }, kinds := [], alts := [], laidByText := true, laidKinds := [.data, .data, .data, .data, .sentinel, .sentinel, .pinned, .pinned], laidTests := true, laidLooks := .later }
def SyntaxWrongUptoCardSaid : Prop := Claim7.holds Tryz.pinned (.plain (OpenSpec.upto syntaxWrongSpec)) syntaxWrongUptoCard
end Rows
end Go.Proofs.YtmgkdmbifecekaaGreatDoor
