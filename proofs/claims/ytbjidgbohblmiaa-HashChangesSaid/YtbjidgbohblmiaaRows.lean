/-
  No cell of these rows narrows 'for every input' (looked for: loops, veiled, ifaces, maps, wideKeys, modest, calm, conditions, laid).
  DERIVED. THE GIVEN ROWS OF THIS SEAT. 10 by the template 'for every input the law returns true; each argument reads behind the call as it read before'; 0 by the template 'total and deterministic' (their statements: YtbjidgbohblmiaaTotals.lean).
  GIVEN WITH THE SEED: the statements are not yours to turn. If you find one false, say at which input.
  Laid BY PROGRAM, IN A SANDBOX (cutbox-rows.mjs): the forced cells as the released guide's own fill.sh prints them over the translation a4b299ad20d66bd5… (all of the seat's roots in one cut). By AI agents, Wed Nov 11 2026. No macro, syntax, notation, axiom, sorry.
-/
import Derived.Test.YtbjidgbohblmiaaChecked
import GoSem.Claim
import GoSem.ClaimJoined
import GoSem.ClaimMapViews
import Derived.JoinedTies
import Derived.KernelRfl
namespace Go.Proofs.Ytbjidgbohblmiaa
/- THE CELL 'sum', in the pinned program and in every row, IS THE sha256 OF THE DUMP (.gsa) THAT YtbjidgbohblmiaaProg.lean LOADS. Nothing in Lean hashes anything: it is a label: what it is worth is what the hold of that sum in a sandbox is worth. -/
noncomputable def Try.pinned : Pinned := { name := "ytbjidgbohblmiaa", sum := "a4b299ad20d66bd5f84cb62fa140dd4d54bd868717a839158ab24a5f516bb281", checked := Try.checked }
namespace Rows
def none {H : Type} : Left H := { results := [], args := [] }

/-- 'gaugerlaw02.HashTells': WHATEVER THE INPUT: true; the input reads as it did. -/
def hashTellsSpec : ChangeSpec := { name := "hashTells", fn := fun _ => fun
  | [d1, d2] => { results := [.lit (.bool true)], args := [d1, d2] }
  | _ => none }
def hashTellsRow : OpenClaim := { program := "ytbjidgbohblmiaa", sum := "a4b299ad20d66bd5f84cb62fa140dd4d54bd868717a839158ab24a5f516bb281", func := "gauger/gaugerlaw02.HashTells", spec := "hashTells", unfollowed := true, recurses := true, apart := false }
def HashTellsSaid : Prop := hashTellsRow.holds Try.pinned (OpenSpec.ofChange hashTellsSpec)

/-- ITS FALSE NEIGHBOUR: 'it returns false'. Refute it at one input. -/
def hashTellsWrong : ChangeSpec := { name := "hashTells", fn := fun _ => fun
  | [d1, d2] => { results := [.lit (.bool false)], args := [d1, d2] }
  | _ => none }
def HashTellsWrongFalsely : Prop := hashTellsRow.holds Try.pinned (OpenSpec.ofChange hashTellsWrong)

/-- 'gaugerlaw02.HashNumbers': WHATEVER THE INPUT: true; the input reads as it did. -/
def hashNumbersSpec : ChangeSpec := { name := "hashNumbers", fn := fun _ => fun
  | [d1, d2, d3, d4] => { results := [.lit (.bool true)], args := [d1, d2, d3, d4] }
  | _ => none }
def hashNumbersRow : OpenClaim := { program := "ytbjidgbohblmiaa", sum := "a4b299ad20d66bd5f84cb62fa140dd4d54bd868717a839158ab24a5f516bb281", func := "gauger/gaugerlaw02.HashNumbers", spec := "hashNumbers", unfollowed := true, recurses := true, apart := false }
def HashNumbersSaid : Prop := hashNumbersRow.holds Try.pinned (OpenSpec.ofChange hashNumbersSpec)

/-- ITS FALSE NEIGHBOUR: 'it returns false'. Refute it at one input. -/
def hashNumbersWrong : ChangeSpec := { name := "hashNumbers", fn := fun _ => fun
  | [d1, d2, d3, d4] => { results := [.lit (.bool false)], args := [d1, d2, d3, d4] }
  | _ => none }
def HashNumbersWrongFalsely : Prop := hashNumbersRow.holds Try.pinned (OpenSpec.ofChange hashNumbersWrong)

/-- 'gaugerlaw02.HashReads': WHATEVER THE INPUT: true; the input reads as it did. -/
def hashReadsSpec : ChangeSpec := { name := "hashReads", fn := fun _ => fun
  | [d] => { results := [.lit (.bool true)], args := [d] }
  | _ => none }
def hashReadsRow : OpenClaim := { program := "ytbjidgbohblmiaa", sum := "a4b299ad20d66bd5f84cb62fa140dd4d54bd868717a839158ab24a5f516bb281", func := "gauger/gaugerlaw02.HashReads", spec := "hashReads", unfollowed := true, recurses := true, apart := false }
def HashReadsSaid : Prop := hashReadsRow.holds Try.pinned (OpenSpec.ofChange hashReadsSpec)

/-- ITS FALSE NEIGHBOUR: 'it returns false'. Refute it at one input. -/
def hashReadsWrong : ChangeSpec := { name := "hashReads", fn := fun _ => fun
  | [d] => { results := [.lit (.bool false)], args := [d] }
  | _ => none }
def HashReadsWrongFalsely : Prop := hashReadsRow.holds Try.pinned (OpenSpec.ofChange hashReadsWrong)

/-- 'gaugerlaw02.HashSmall': WHATEVER THE INPUT: true; the input reads as it did. -/
def hashSmallSpec : ChangeSpec := { name := "hashSmall", fn := fun _ => fun
  | [] => { results := [.lit (.bool true)], args := [] }
  | _ => none }
def hashSmallRow : OpenClaim := { program := "ytbjidgbohblmiaa", sum := "a4b299ad20d66bd5f84cb62fa140dd4d54bd868717a839158ab24a5f516bb281", func := "gauger/gaugerlaw02.HashSmall", spec := "hashSmall", unfollowed := true, recurses := true, apart := false }
def HashSmallSaid : Prop := hashSmallRow.holds Try.pinned (OpenSpec.ofChange hashSmallSpec)

/-- ITS FALSE NEIGHBOUR: 'it returns false'. Refute it at one input. -/
def hashSmallWrong : ChangeSpec := { name := "hashSmall", fn := fun _ => fun
  | [] => { results := [.lit (.bool false)], args := [] }
  | _ => none }
def HashSmallWrongFalsely : Prop := hashSmallRow.holds Try.pinned (OpenSpec.ofChange hashSmallWrong)

/-- 'gaugerlaw02.HashBack': WHATEVER THE INPUT: true; the input reads as it did. -/
def hashBackSpec : ChangeSpec := { name := "hashBack", fn := fun _ => fun
  | [d1, d2, d3, d4] => { results := [.lit (.bool true)], args := [d1, d2, d3, d4] }
  | _ => none }
def hashBackRow : OpenClaim := { program := "ytbjidgbohblmiaa", sum := "a4b299ad20d66bd5f84cb62fa140dd4d54bd868717a839158ab24a5f516bb281", func := "gauger/gaugerlaw02.HashBack", spec := "hashBack", unfollowed := true, recurses := true, apart := false }
def HashBackSaid : Prop := hashBackRow.holds Try.pinned (OpenSpec.ofChange hashBackSpec)

/-- ITS FALSE NEIGHBOUR: 'it returns false'. Refute it at one input. -/
def hashBackWrong : ChangeSpec := { name := "hashBack", fn := fun _ => fun
  | [d1, d2, d3, d4] => { results := [.lit (.bool false)], args := [d1, d2, d3, d4] }
  | _ => none }
def HashBackWrongFalsely : Prop := hashBackRow.holds Try.pinned (OpenSpec.ofChange hashBackWrong)

/-- 'gaugerlaw02.HashChanges': WHATEVER THE INPUT: true; the input reads as it did. -/
def hashChangesSpec : ChangeSpec := { name := "hashChanges", fn := fun _ => fun
  | [d1, d2, d3, d4] => { results := [.lit (.bool true)], args := [d1, d2, d3, d4] }
  | _ => none }
def hashChangesRow : OpenClaim := { program := "ytbjidgbohblmiaa", sum := "a4b299ad20d66bd5f84cb62fa140dd4d54bd868717a839158ab24a5f516bb281", func := "gauger/gaugerlaw02.HashChanges", spec := "hashChanges", unfollowed := true, recurses := true, apart := false }
def HashChangesSaid : Prop := hashChangesRow.holds Try.pinned (OpenSpec.ofChange hashChangesSpec)

/-- ITS FALSE NEIGHBOUR: 'it returns false'. Refute it at one input. -/
def hashChangesWrong : ChangeSpec := { name := "hashChanges", fn := fun _ => fun
  | [d1, d2, d3, d4] => { results := [.lit (.bool false)], args := [d1, d2, d3, d4] }
  | _ => none }
def HashChangesWrongFalsely : Prop := hashChangesRow.holds Try.pinned (OpenSpec.ofChange hashChangesWrong)

/-- 'gaugerlaw02.HashZeros': WHATEVER THE INPUT: true; the input reads as it did. -/
def hashZerosSpec : ChangeSpec := { name := "hashZeros", fn := fun _ => fun
  | [d1, d2, d3, d4] => { results := [.lit (.bool true)], args := [d1, d2, d3, d4] }
  | _ => none }
def hashZerosRow : OpenClaim := { program := "ytbjidgbohblmiaa", sum := "a4b299ad20d66bd5f84cb62fa140dd4d54bd868717a839158ab24a5f516bb281", func := "gauger/gaugerlaw02.HashZeros", spec := "hashZeros", unfollowed := true, recurses := true, apart := false }
def HashZerosSaid : Prop := hashZerosRow.holds Try.pinned (OpenSpec.ofChange hashZerosSpec)

/-- ITS FALSE NEIGHBOUR: 'it returns false'. Refute it at one input. -/
def hashZerosWrong : ChangeSpec := { name := "hashZeros", fn := fun _ => fun
  | [d1, d2, d3, d4] => { results := [.lit (.bool false)], args := [d1, d2, d3, d4] }
  | _ => none }
def HashZerosWrongFalsely : Prop := hashZerosRow.holds Try.pinned (OpenSpec.ofChange hashZerosWrong)

/-- 'gaugerlaw02.HashLast': WHATEVER THE INPUT: true; the input reads as it did. -/
def hashLastSpec : ChangeSpec := { name := "hashLast", fn := fun _ => fun
  | [d1, d2, d3] => { results := [.lit (.bool true)], args := [d1, d2, d3] }
  | _ => none }
def hashLastRow : OpenClaim := { program := "ytbjidgbohblmiaa", sum := "a4b299ad20d66bd5f84cb62fa140dd4d54bd868717a839158ab24a5f516bb281", func := "gauger/gaugerlaw02.HashLast", spec := "hashLast", unfollowed := true, recurses := true, apart := false }
def HashLastSaid : Prop := hashLastRow.holds Try.pinned (OpenSpec.ofChange hashLastSpec)

/-- ITS FALSE NEIGHBOUR: 'it returns false'. Refute it at one input. -/
def hashLastWrong : ChangeSpec := { name := "hashLast", fn := fun _ => fun
  | [d1, d2, d3] => { results := [.lit (.bool false)], args := [d1, d2, d3] }
  | _ => none }
def HashLastWrongFalsely : Prop := hashLastRow.holds Try.pinned (OpenSpec.ofChange hashLastWrong)

/-- 'gaugerlaw02.HashTexts': WHATEVER THE INPUT: true; the input reads as it did. -/
def hashTextsSpec : ChangeSpec := { name := "hashTexts", fn := fun _ => fun
  | [d1, d2, d3, d4] => { results := [.lit (.bool true)], args := [d1, d2, d3, d4] }
  | _ => none }
def hashTextsRow : OpenClaim := { program := "ytbjidgbohblmiaa", sum := "a4b299ad20d66bd5f84cb62fa140dd4d54bd868717a839158ab24a5f516bb281", func := "gauger/gaugerlaw02.HashTexts", spec := "hashTexts", unfollowed := true, recurses := true, apart := false }
def HashTextsSaid : Prop := hashTextsRow.holds Try.pinned (OpenSpec.ofChange hashTextsSpec)

/-- ITS FALSE NEIGHBOUR: 'it returns false'. Refute it at one input. -/
def hashTextsWrong : ChangeSpec := { name := "hashTexts", fn := fun _ => fun
  | [d1, d2, d3, d4] => { results := [.lit (.bool false)], args := [d1, d2, d3, d4] }
  | _ => none }
def HashTextsWrongFalsely : Prop := hashTextsRow.holds Try.pinned (OpenSpec.ofChange hashTextsWrong)

/-- 'gaugerlaw02.HashWrong': WHATEVER THE INPUT: true; the input reads as it did. -/
def hashWrongSpec : ChangeSpec := { name := "hashWrong", fn := fun _ => fun
  | [d1, d2] => { results := [.lit (.bool true)], args := [d1, d2] }
  | _ => none }
def hashWrongRow : OpenClaim := { program := "ytbjidgbohblmiaa", sum := "a4b299ad20d66bd5f84cb62fa140dd4d54bd868717a839158ab24a5f516bb281", func := "gauger/gaugerlaw02.HashWrong", spec := "hashWrong", unfollowed := true, recurses := true, apart := false }
def HashWrongSaid : Prop := hashWrongRow.holds Try.pinned (OpenSpec.ofChange hashWrongSpec)

/-- ITS FALSE NEIGHBOUR: 'it returns false'. Refute it at one input. -/
def hashWrongWrong : ChangeSpec := { name := "hashWrong", fn := fun _ => fun
  | [d1, d2] => { results := [.lit (.bool false)], args := [d1, d2] }
  | _ => none }
def HashWrongWrongFalsely : Prop := hashWrongRow.holds Try.pinned (OpenSpec.ofChange hashWrongWrong)

/- THE SECOND FORM. 'bulk': how many values and letters a reading holds, each counted each time it is reached (what is shared counts as often as it is met; a slice's spare places count too). A statement '..UptoSaid' is the law's where the arguments, and the package variables that the reading takes, are together of bulk at most 1048576: NARROWER than '..Said'. Prove '..Said' where nothing that the law and all that it calls make is longer than what came in: it says more and counts as full. Else prove '..UptoSaid'. A law counts once. -/
mutual
def uptoBulk {H : Type} : DataW H → Nat
  | .lit (.string bytes) => bytes.length + 1
  | .lit _ => 1
  | .nil => 1
  | .ptr d => uptoBulk d + 1
  | .slice elems spare => uptoBulkAll elems + uptoBulkAll spare + 1
  | .agg parts => uptoBulkAll parts + 1
  | .iface _ d => uptoBulk d + 1
  | .map entries => uptoBulkEntries entries + 1
  | .held _ => 1
def uptoBulkAll {H : Type} : List (DataW H) → Nat
  | [] => 0
  | d :: r => uptoBulk d + uptoBulkAll r
def uptoBulkEntries {H : Type} : List (Lit × DataW H) → Nat
  | [] => 0
  | x :: r => uptoBulkEntry x + uptoBulkEntries r
def uptoBulkEntry {H : Type} : Lit × DataW H → Nat
  | (.string bytes, d) => bytes.length + uptoBulk d + 1
  | (_, d) => uptoBulk d + 1
 end
def uptoSmall : (H : Type) → List (DataW H) → Bool := fun _ ds => decide (uptoBulkAll ds ≤ 1048576)
def OpenSpec.upto (s : _root_.Go.ChangeSpec) : _root_.Go.OpenSpec := { _root_.Go.OpenSpec.ofChange s with cond := some uptoSmall }

/-- 'gaugerlaw02.HashTells', WHERE WHAT IT READS IS OF BULK AT MOST 1048576: true; the input reads as it did. -/
def hashTellsUptoRow : OpenClaim := { program := "ytbjidgbohblmiaa", sum := "a4b299ad20d66bd5f84cb62fa140dd4d54bd868717a839158ab24a5f516bb281", func := "gauger/gaugerlaw02.HashTells", spec := "hashTells", unfollowed := true, recurses := true, apart := false, narrowed := true }
def HashTellsUptoSaid : Prop := hashTellsUptoRow.holds Try.pinned (OpenSpec.upto hashTellsSpec)

/-- 'gaugerlaw02.HashNumbers', WHERE WHAT IT READS IS OF BULK AT MOST 1048576: true; the input reads as it did. -/
def hashNumbersUptoRow : OpenClaim := { program := "ytbjidgbohblmiaa", sum := "a4b299ad20d66bd5f84cb62fa140dd4d54bd868717a839158ab24a5f516bb281", func := "gauger/gaugerlaw02.HashNumbers", spec := "hashNumbers", unfollowed := true, recurses := true, apart := false, narrowed := true }
def HashNumbersUptoSaid : Prop := hashNumbersUptoRow.holds Try.pinned (OpenSpec.upto hashNumbersSpec)

/-- 'gaugerlaw02.HashReads', WHERE WHAT IT READS IS OF BULK AT MOST 1048576: true; the input reads as it did. -/
def hashReadsUptoRow : OpenClaim := { program := "ytbjidgbohblmiaa", sum := "a4b299ad20d66bd5f84cb62fa140dd4d54bd868717a839158ab24a5f516bb281", func := "gauger/gaugerlaw02.HashReads", spec := "hashReads", unfollowed := true, recurses := true, apart := false, narrowed := true }
def HashReadsUptoSaid : Prop := hashReadsUptoRow.holds Try.pinned (OpenSpec.upto hashReadsSpec)

/-- 'gaugerlaw02.HashSmall', WHERE WHAT IT READS IS OF BULK AT MOST 1048576: true; the input reads as it did. -/
def hashSmallUptoRow : OpenClaim := { program := "ytbjidgbohblmiaa", sum := "a4b299ad20d66bd5f84cb62fa140dd4d54bd868717a839158ab24a5f516bb281", func := "gauger/gaugerlaw02.HashSmall", spec := "hashSmall", unfollowed := true, recurses := true, apart := false, narrowed := true }
def HashSmallUptoSaid : Prop := hashSmallUptoRow.holds Try.pinned (OpenSpec.upto hashSmallSpec)

/-- 'gaugerlaw02.HashBack', WHERE WHAT IT READS IS OF BULK AT MOST 1048576: true; the input reads as it did. -/
def hashBackUptoRow : OpenClaim := { program := "ytbjidgbohblmiaa", sum := "a4b299ad20d66bd5f84cb62fa140dd4d54bd868717a839158ab24a5f516bb281", func := "gauger/gaugerlaw02.HashBack", spec := "hashBack", unfollowed := true, recurses := true, apart := false, narrowed := true }
def HashBackUptoSaid : Prop := hashBackUptoRow.holds Try.pinned (OpenSpec.upto hashBackSpec)

/-- 'gaugerlaw02.HashChanges', WHERE WHAT IT READS IS OF BULK AT MOST 1048576: true; the input reads as it did. -/
def hashChangesUptoRow : OpenClaim := { program := "ytbjidgbohblmiaa", sum := "a4b299ad20d66bd5f84cb62fa140dd4d54bd868717a839158ab24a5f516bb281", func := "gauger/gaugerlaw02.HashChanges", spec := "hashChanges", unfollowed := true, recurses := true, apart := false, narrowed := true }
def HashChangesUptoSaid : Prop := hashChangesUptoRow.holds Try.pinned (OpenSpec.upto hashChangesSpec)

/-- 'gaugerlaw02.HashZeros', WHERE WHAT IT READS IS OF BULK AT MOST 1048576: true; the input reads as it did. -/
def hashZerosUptoRow : OpenClaim := { program := "ytbjidgbohblmiaa", sum := "a4b299ad20d66bd5f84cb62fa140dd4d54bd868717a839158ab24a5f516bb281", func := "gauger/gaugerlaw02.HashZeros", spec := "hashZeros", unfollowed := true, recurses := true, apart := false, narrowed := true }
def HashZerosUptoSaid : Prop := hashZerosUptoRow.holds Try.pinned (OpenSpec.upto hashZerosSpec)

/-- 'gaugerlaw02.HashLast', WHERE WHAT IT READS IS OF BULK AT MOST 1048576: true; the input reads as it did. -/
def hashLastUptoRow : OpenClaim := { program := "ytbjidgbohblmiaa", sum := "a4b299ad20d66bd5f84cb62fa140dd4d54bd868717a839158ab24a5f516bb281", func := "gauger/gaugerlaw02.HashLast", spec := "hashLast", unfollowed := true, recurses := true, apart := false, narrowed := true }
def HashLastUptoSaid : Prop := hashLastUptoRow.holds Try.pinned (OpenSpec.upto hashLastSpec)

/-- 'gaugerlaw02.HashTexts', WHERE WHAT IT READS IS OF BULK AT MOST 1048576: true; the input reads as it did. -/
def hashTextsUptoRow : OpenClaim := { program := "ytbjidgbohblmiaa", sum := "a4b299ad20d66bd5f84cb62fa140dd4d54bd868717a839158ab24a5f516bb281", func := "gauger/gaugerlaw02.HashTexts", spec := "hashTexts", unfollowed := true, recurses := true, apart := false, narrowed := true }
def HashTextsUptoSaid : Prop := hashTextsUptoRow.holds Try.pinned (OpenSpec.upto hashTextsSpec)

/-- 'gaugerlaw02.HashWrong', WHERE WHAT IT READS IS OF BULK AT MOST 1048576: true; the input reads as it did. -/
def hashWrongUptoRow : OpenClaim := { program := "ytbjidgbohblmiaa", sum := "a4b299ad20d66bd5f84cb62fa140dd4d54bd868717a839158ab24a5f516bb281", func := "gauger/gaugerlaw02.HashWrong", spec := "hashWrong", unfollowed := true, recurses := true, apart := false, narrowed := true }
def HashWrongUptoSaid : Prop := hashWrongUptoRow.holds Try.pinned (OpenSpec.upto hashWrongSpec)

end Rows
end Go.Proofs.Ytbjidgbohblmiaa
