/-
  NARROWER THAN 'FOR EVERY INPUT', by the rows' own cells (each row's printed sentence says how): LabelChanges: laid · LabelSmall: laid · LabelWrong: laid.
  DERIVED. THE GIVEN ROWS OF THIS SEAT. 3 by the template 'for every input the law returns true; each argument reads behind the call as it read before'; 0 by the template 'total and deterministic' (their statements: YtlhekeokognhmaaGreatDoorTotals.lean).
  GIVEN WITH THE SEED: the statements are not yours to turn. If you find one false, say at which input.
  Laid BY PROGRAM, IN A SANDBOX (cutbox-rows.mjs): the forced cells as the released guide's own fill.sh prints them over the translation 32595abd82c3fcbb… (all of the seat's roots in one cut). By AI agents, Wed Nov 11 2026. No macro, syntax, notation, axiom, sorry.
-/
import Derived.Test.YtlhekeokognhmaaGreatDoorChecked
import GoSem.Claim
import GoSem.ClaimJoined
import GoSem.ClaimMapViews
import Derived.JoinedTies
import Derived.KernelRfl
namespace Go.Proofs.YtlhekeokognhmaaGreatDoor
/- THE CELL 'sum', in the pinned program and in every row, IS THE sha256 OF THE DUMP (.gsa) THAT YtlhekeokognhmaaGreatDoorProg.lean LOADS. Nothing in Lean hashes anything: it is a label: what it is worth is what the hold of that sum in a sandbox is worth. -/
noncomputable def Tryz.pinned : Pinned := { name := "ytlhekeokognhmaagreatdoor", sum := "32595abd82c3fcbb6771336ed2d4cc2538e21e6fa6abbcb1b1c552b15becf7dc", checked := Tryz.checked }
namespace Rows
def none {H : Type} : Left H := { results := [], args := [] }

/- WHAT THE LISTED PACKAGE-LEVEL VARIABLES READ AS WHEN THE CALL BEGINS. Each datum BY PROGRAM (the guide's laid-datum.mjs) off the statement by which the dump's own 'gosem.cut.vars' lays the variable. In a bare row this is a premise. The card (YtlhekeokognhmaaGreatDoorCards.lean) ties it to the program's text. -/
def laid_gauger_utf_beginnings {H : Type} : DataW H := .agg [.agg [.lit (.int .u8 0), .lit (.int .u8 127), .lit (.int .u8 0), .lit (.int .u8 0), .lit (.int .u8 0), .lit (.int .i64 1)], .agg [.lit (.int .u8 194), .lit (.int .u8 223), .lit (.int .u8 192), .lit (.int .u8 128), .lit (.int .u8 191), .lit (.int .i64 2)], .agg [.lit (.int .u8 224), .lit (.int .u8 224), .lit (.int .u8 224), .lit (.int .u8 160), .lit (.int .u8 191), .lit (.int .i64 3)], .agg [.lit (.int .u8 225), .lit (.int .u8 236), .lit (.int .u8 224), .lit (.int .u8 128), .lit (.int .u8 191), .lit (.int .i64 3)], .agg [.lit (.int .u8 237), .lit (.int .u8 237), .lit (.int .u8 224), .lit (.int .u8 128), .lit (.int .u8 159), .lit (.int .i64 3)], .agg [.lit (.int .u8 238), .lit (.int .u8 239), .lit (.int .u8 224), .lit (.int .u8 128), .lit (.int .u8 191), .lit (.int .i64 3)], .agg [.lit (.int .u8 240), .lit (.int .u8 240), .lit (.int .u8 240), .lit (.int .u8 144), .lit (.int .u8 191), .lit (.int .i64 4)], .agg [.lit (.int .u8 241), .lit (.int .u8 243), .lit (.int .u8 240), .lit (.int .u8 128), .lit (.int .u8 191), .lit (.int .i64 4)], .agg [.lit (.int .u8 244), .lit (.int .u8 244), .lit (.int .u8 240), .lit (.int .u8 128), .lit (.int .u8 143), .lit (.int .i64 4)]]

/-- 'gaugerlaw04.LabelChanges': WHATEVER THE INPUT: true; the input reads as it did. -/
def labelChangesSpec : ChangeSpec := { name := "labelChanges", fn := fun _ => fun
  | [d1, d2, d3, d4] => { results := [.lit (.bool true)], args := [d1, d2, d3, d4] }
  | _ => none }
def labelChangesRow : OpenClaim := { program := "ytlhekeokognhmaagreatdoor", sum := "32595abd82c3fcbb6771336ed2d4cc2538e21e6fa6abbcb1b1c552b15becf7dc", func := "gauger/gaugerlaw04.LabelChanges", spec := "labelChanges", unfollowed := true, recurses := true, named := ["gauger/utf.beginnings"], apart := false, laid := [("gauger/utf.beginnings", laid_gauger_utf_beginnings)] }
def LabelChangesSaid : Prop := labelChangesRow.holds Tryz.pinned (OpenSpec.ofChange labelChangesSpec)

/-- ITS FALSE NEIGHBOUR: 'it returns false'. Refute it at one input. -/
def labelChangesWrong : ChangeSpec := { name := "labelChanges", fn := fun _ => fun
  | [d1, d2, d3, d4] => { results := [.lit (.bool false)], args := [d1, d2, d3, d4] }
  | _ => none }
def LabelChangesWrongFalsely : Prop := labelChangesRow.holds Tryz.pinned (OpenSpec.ofChange labelChangesWrong)

/-- 'gaugerlaw04.LabelSmall': WHATEVER THE INPUT: true; the input reads as it did. -/
def labelSmallSpec : ChangeSpec := { name := "labelSmall", fn := fun _ => fun
  | [] => { results := [.lit (.bool true)], args := [] }
  | _ => none }
def labelSmallRow : OpenClaim := { program := "ytlhekeokognhmaagreatdoor", sum := "32595abd82c3fcbb6771336ed2d4cc2538e21e6fa6abbcb1b1c552b15becf7dc", func := "gauger/gaugerlaw04.LabelSmall", spec := "labelSmall", inPlace := ["internal/abi.NoEscape", "internal/bytealg.MakeNoZero"], unfollowed := true, recurses := true, named := ["gauger/utf.beginnings"], apart := false, laid := [("gauger/utf.beginnings", laid_gauger_utf_beginnings)] }
def LabelSmallSaid : Prop := labelSmallRow.holds Tryz.pinned (OpenSpec.ofChange labelSmallSpec)

/-- ITS FALSE NEIGHBOUR: 'it returns false'. Refute it at one input. -/
def labelSmallWrong : ChangeSpec := { name := "labelSmall", fn := fun _ => fun
  | [] => { results := [.lit (.bool false)], args := [] }
  | _ => none }
def LabelSmallWrongFalsely : Prop := labelSmallRow.holds Tryz.pinned (OpenSpec.ofChange labelSmallWrong)

/-- 'gaugerlaw04.LabelWrong': WHATEVER THE INPUT: true; the input reads as it did. -/
def labelWrongSpec : ChangeSpec := { name := "labelWrong", fn := fun _ => fun
  | [d1, d2, d3] => { results := [.lit (.bool true)], args := [d1, d2, d3] }
  | _ => none }
def labelWrongRow : OpenClaim := { program := "ytlhekeokognhmaagreatdoor", sum := "32595abd82c3fcbb6771336ed2d4cc2538e21e6fa6abbcb1b1c552b15becf7dc", func := "gauger/gaugerlaw04.LabelWrong", spec := "labelWrong", inPlace := ["internal/abi.NoEscape", "internal/bytealg.MakeNoZero"], unfollowed := true, recurses := true, named := ["gauger/utf.beginnings"], apart := false, laid := [("gauger/utf.beginnings", laid_gauger_utf_beginnings)] }
def LabelWrongSaid : Prop := labelWrongRow.holds Tryz.pinned (OpenSpec.ofChange labelWrongSpec)

/-- ITS FALSE NEIGHBOUR: 'it returns false'. Refute it at one input. -/
def labelWrongWrong : ChangeSpec := { name := "labelWrong", fn := fun _ => fun
  | [d1, d2, d3] => { results := [.lit (.bool false)], args := [d1, d2, d3] }
  | _ => none }
def LabelWrongWrongFalsely : Prop := labelWrongRow.holds Tryz.pinned (OpenSpec.ofChange labelWrongWrong)

/- THE SECOND FORM. 'bulk': how many values and letters a reading holds, each counted each time it is reached (what is shared counts as often as it is met; a slice's spare places count too). A statement '..UptoSaid' is the law's where the arguments, and the package variables that the reading takes, are together of bulk at most 1048576: NARROWER than '..Said'. Prove '..Said' where nothing that the law and all that it calls make is longer than what came in: it says more and counts as full. Else prove '..UptoSaid'. A law counts once. -/
mutual
def uptoBulk {H : Type} : DataW H → Nat
  | .lit (.string bytes) => bytes.length + 1
  | .lit _ => 1
  | .nil => 1
  | .ptr d => uptoBulk d + 1
  | .slice elems spare => uptoBulkAll elems + uptoBulkAll spare + 1
  | .agg parts => uptoBulkAll parts + 1
  | .iface _ d => uptoBulk d + 1
  | .map entries => uptoBulkEntries entries + 1
  | .held _ => 1
def uptoBulkAll {H : Type} : List (DataW H) → Nat
  | [] => 0
  | d :: r => uptoBulk d + uptoBulkAll r
def uptoBulkEntries {H : Type} : List (Lit × DataW H) → Nat
  | [] => 0
  | x :: r => uptoBulkEntry x + uptoBulkEntries r
def uptoBulkEntry {H : Type} : Lit × DataW H → Nat
  | (.string bytes, d) => bytes.length + uptoBulk d + 1
  | (_, d) => uptoBulk d + 1
 end
def uptoSmall : (H : Type) → List (DataW H) → Bool := fun _ ds => decide (uptoBulkAll ds ≤ 1048576)
def OpenSpec.upto (s : _root_.Go.ChangeSpec) : _root_.Go.OpenSpec := { _root_.Go.OpenSpec.ofChange s with cond := some uptoSmall }

/-- 'gaugerlaw04.LabelChanges', WHERE WHAT IT READS IS OF BULK AT MOST 1048576: true; the input reads as it did. -/
def labelChangesUptoRow : OpenClaim := { program := "ytlhekeokognhmaagreatdoor", sum := "32595abd82c3fcbb6771336ed2d4cc2538e21e6fa6abbcb1b1c552b15becf7dc", func := "gauger/gaugerlaw04.LabelChanges", spec := "labelChanges", unfollowed := true, recurses := true, named := ["gauger/utf.beginnings"], apart := false, laid := [("gauger/utf.beginnings", laid_gauger_utf_beginnings)], narrowed := true }
def LabelChangesUptoSaid : Prop := labelChangesUptoRow.holds Tryz.pinned (OpenSpec.upto labelChangesSpec)

/-- 'gaugerlaw04.LabelSmall', WHERE WHAT IT READS IS OF BULK AT MOST 1048576: true; the input reads as it did. -/
def labelSmallUptoRow : OpenClaim := { program := "ytlhekeokognhmaagreatdoor", sum := "32595abd82c3fcbb6771336ed2d4cc2538e21e6fa6abbcb1b1c552b15becf7dc", func := "gauger/gaugerlaw04.LabelSmall", spec := "labelSmall", inPlace := ["internal/abi.NoEscape", "internal/bytealg.MakeNoZero"], unfollowed := true, recurses := true, named := ["gauger/utf.beginnings"], apart := false, laid := [("gauger/utf.beginnings", laid_gauger_utf_beginnings)], narrowed := true }
def LabelSmallUptoSaid : Prop := labelSmallUptoRow.holds Tryz.pinned (OpenSpec.upto labelSmallSpec)

/-- 'gaugerlaw04.LabelWrong', WHERE WHAT IT READS IS OF BULK AT MOST 1048576: true; the input reads as it did. -/
def labelWrongUptoRow : OpenClaim := { program := "ytlhekeokognhmaagreatdoor", sum := "32595abd82c3fcbb6771336ed2d4cc2538e21e6fa6abbcb1b1c552b15becf7dc", func := "gauger/gaugerlaw04.LabelWrong", spec := "labelWrong", inPlace := ["internal/abi.NoEscape", "internal/bytealg.MakeNoZero"], unfollowed := true, recurses := true, named := ["gauger/utf.beginnings"], apart := false, laid := [("gauger/utf.beginnings", laid_gauger_utf_beginnings)], narrowed := true }
def LabelWrongUptoSaid : Prop := labelWrongUptoRow.holds Tryz.pinned (OpenSpec.upto labelWrongSpec)

end Rows
end Go.Proofs.YtlhekeokognhmaaGreatDoor
