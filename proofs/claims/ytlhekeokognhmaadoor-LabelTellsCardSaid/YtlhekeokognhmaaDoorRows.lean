/-
  NARROWER THAN 'FOR EVERY INPUT', by the rows' own cells (each row's printed sentence says how): LabelTells: laid · LabelOrder: laid · LabelSets: laid · LabelMerges: laid · LabelExports: laid · LabelParts: laid · LabelCompares: laid.
  DERIVED. THE GIVEN ROWS OF THIS SEAT. 7 by the template 'for every input the law returns true; each argument reads behind the call as it read before'; 0 by the template 'total and deterministic' (their statements: YtlhekeokognhmaaDoorTotals.lean).
  GIVEN WITH THE SEED: the statements are not yours to turn. If you find one false, say at which input.
  Laid BY PROGRAM, IN A SANDBOX (cutbox-rows.mjs): the forced cells as the released guide's own fill.sh prints them over the translation a90d8881a7193ae0… (all of the seat's roots in one cut). By AI agents, Wed Nov 11 2026. No macro, syntax, notation, axiom, sorry.
-/
import Derived.Test.YtlhekeokognhmaaDoorChecked
import GoSem.Claim
import GoSem.ClaimJoined
import GoSem.ClaimMapViews
import Derived.JoinedTies
import Derived.KernelRfl
namespace Go.Proofs.YtlhekeokognhmaaDoor
/- THE CELL 'sum', in the pinned program and in every row, IS THE sha256 OF THE DUMP (.gsa) THAT YtlhekeokognhmaaDoorProg.lean LOADS. Nothing in Lean hashes anything: it is a label: what it is worth is what the hold of that sum in a sandbox is worth. -/
noncomputable def Tryd.pinned : Pinned := { name := "ytlhekeokognhmaadoor", sum := "a90d8881a7193ae0eeb2f450f67baf5cf70394942d336ce1f714318943749c4a", checked := Tryd.checked }
namespace Rows
def none {H : Type} : Left H := { results := [], args := [] }

/- WHAT THE LISTED PACKAGE-LEVEL VARIABLES READ AS WHEN THE CALL BEGINS. Each datum BY PROGRAM (the guide's laid-datum.mjs) off the statement by which the dump's own 'gosem.cut.vars' lays the variable. In a bare row this is a premise. The card (YtlhekeokognhmaaDoorCards.lean) ties it to the program's text. -/
def laid_gauger_utf_beginnings {H : Type} : DataW H := .agg [.agg [.lit (.int .u8 0), .lit (.int .u8 127), .lit (.int .u8 0), .lit (.int .u8 0), .lit (.int .u8 0), .lit (.int .i64 1)], .agg [.lit (.int .u8 194), .lit (.int .u8 223), .lit (.int .u8 192), .lit (.int .u8 128), .lit (.int .u8 191), .lit (.int .i64 2)], .agg [.lit (.int .u8 224), .lit (.int .u8 224), .lit (.int .u8 224), .lit (.int .u8 160), .lit (.int .u8 191), .lit (.int .i64 3)], .agg [.lit (.int .u8 225), .lit (.int .u8 236), .lit (.int .u8 224), .lit (.int .u8 128), .lit (.int .u8 191), .lit (.int .i64 3)], .agg [.lit (.int .u8 237), .lit (.int .u8 237), .lit (.int .u8 224), .lit (.int .u8 128), .lit (.int .u8 159), .lit (.int .i64 3)], .agg [.lit (.int .u8 238), .lit (.int .u8 239), .lit (.int .u8 224), .lit (.int .u8 128), .lit (.int .u8 191), .lit (.int .i64 3)], .agg [.lit (.int .u8 240), .lit (.int .u8 240), .lit (.int .u8 240), .lit (.int .u8 144), .lit (.int .u8 191), .lit (.int .i64 4)], .agg [.lit (.int .u8 241), .lit (.int .u8 243), .lit (.int .u8 240), .lit (.int .u8 128), .lit (.int .u8 191), .lit (.int .i64 4)], .agg [.lit (.int .u8 244), .lit (.int .u8 244), .lit (.int .u8 240), .lit (.int .u8 128), .lit (.int .u8 143), .lit (.int .i64 4)]]

/-- 'gaugerlaw04.LabelTells': WHATEVER THE INPUT: true; the input reads as it did. -/
def labelTellsSpec : ChangeSpec := { name := "labelTells", fn := fun _ => fun
  | [d1, d2] => { results := [.lit (.bool true)], args := [d1, d2] }
  | _ => none }
def labelTellsRow : OpenClaim := { program := "ytlhekeokognhmaadoor", sum := "a90d8881a7193ae0eeb2f450f67baf5cf70394942d336ce1f714318943749c4a", func := "gauger/gaugerlaw04.LabelTells", spec := "labelTells", unfollowed := true, recurses := true, named := ["gauger/utf.beginnings"], apart := false, laid := [("gauger/utf.beginnings", laid_gauger_utf_beginnings)] }
def LabelTellsSaid : Prop := labelTellsRow.holds Tryd.pinned (OpenSpec.ofChange labelTellsSpec)

/-- ITS FALSE NEIGHBOUR: 'it returns false'. Refute it at one input. -/
def labelTellsWrong : ChangeSpec := { name := "labelTells", fn := fun _ => fun
  | [d1, d2] => { results := [.lit (.bool false)], args := [d1, d2] }
  | _ => none }
def LabelTellsWrongFalsely : Prop := labelTellsRow.holds Tryd.pinned (OpenSpec.ofChange labelTellsWrong)

/-- 'gaugerlaw04.LabelOrder': WHATEVER THE INPUT: true; the input reads as it did. -/
def labelOrderSpec : ChangeSpec := { name := "labelOrder", fn := fun _ => fun
  | [d1, d2] => { results := [.lit (.bool true)], args := [d1, d2] }
  | _ => none }
def labelOrderRow : OpenClaim := { program := "ytlhekeokognhmaadoor", sum := "a90d8881a7193ae0eeb2f450f67baf5cf70394942d336ce1f714318943749c4a", func := "gauger/gaugerlaw04.LabelOrder", spec := "labelOrder", unfollowed := true, recurses := true, named := ["gauger/utf.beginnings"], apart := false, laid := [("gauger/utf.beginnings", laid_gauger_utf_beginnings)] }
def LabelOrderSaid : Prop := labelOrderRow.holds Tryd.pinned (OpenSpec.ofChange labelOrderSpec)

/-- ITS FALSE NEIGHBOUR: 'it returns false'. Refute it at one input. -/
def labelOrderWrong : ChangeSpec := { name := "labelOrder", fn := fun _ => fun
  | [d1, d2] => { results := [.lit (.bool false)], args := [d1, d2] }
  | _ => none }
def LabelOrderWrongFalsely : Prop := labelOrderRow.holds Tryd.pinned (OpenSpec.ofChange labelOrderWrong)

/-- 'gaugerlaw04.LabelSets': WHATEVER THE INPUT: true; the input reads as it did. -/
def labelSetsSpec : ChangeSpec := { name := "labelSets", fn := fun _ => fun
  | [d1, d2] => { results := [.lit (.bool true)], args := [d1, d2] }
  | _ => none }
def labelSetsRow : OpenClaim := { program := "ytlhekeokognhmaadoor", sum := "a90d8881a7193ae0eeb2f450f67baf5cf70394942d336ce1f714318943749c4a", func := "gauger/gaugerlaw04.LabelSets", spec := "labelSets", inPlace := ["internal/abi.NoEscape", "internal/bytealg.MakeNoZero"], unfollowed := true, recurses := true, named := ["gauger/utf.beginnings"], apart := false, laid := [("gauger/utf.beginnings", laid_gauger_utf_beginnings)] }
def LabelSetsSaid : Prop := labelSetsRow.holds Tryd.pinned (OpenSpec.ofChange labelSetsSpec)

/-- ITS FALSE NEIGHBOUR: 'it returns false'. Refute it at one input. -/
def labelSetsWrong : ChangeSpec := { name := "labelSets", fn := fun _ => fun
  | [d1, d2] => { results := [.lit (.bool false)], args := [d1, d2] }
  | _ => none }
def LabelSetsWrongFalsely : Prop := labelSetsRow.holds Tryd.pinned (OpenSpec.ofChange labelSetsWrong)

/-- 'gaugerlaw04.LabelMerges': WHATEVER THE INPUT: true; the input reads as it did. -/
def labelMergesSpec : ChangeSpec := { name := "labelMerges", fn := fun _ => fun
  | [d1, d2] => { results := [.lit (.bool true)], args := [d1, d2] }
  | _ => none }
def labelMergesRow : OpenClaim := { program := "ytlhekeokognhmaadoor", sum := "a90d8881a7193ae0eeb2f450f67baf5cf70394942d336ce1f714318943749c4a", func := "gauger/gaugerlaw04.LabelMerges", spec := "labelMerges", unfollowed := true, recurses := true, named := ["gauger/utf.beginnings"], apart := false, laid := [("gauger/utf.beginnings", laid_gauger_utf_beginnings)] }
def LabelMergesSaid : Prop := labelMergesRow.holds Tryd.pinned (OpenSpec.ofChange labelMergesSpec)

/-- ITS FALSE NEIGHBOUR: 'it returns false'. Refute it at one input. -/
def labelMergesWrong : ChangeSpec := { name := "labelMerges", fn := fun _ => fun
  | [d1, d2] => { results := [.lit (.bool false)], args := [d1, d2] }
  | _ => none }
def LabelMergesWrongFalsely : Prop := labelMergesRow.holds Tryd.pinned (OpenSpec.ofChange labelMergesWrong)

/-- 'gaugerlaw04.LabelExports': WHATEVER THE INPUT: true; the input reads as it did. -/
def labelExportsSpec : ChangeSpec := { name := "labelExports", fn := fun _ => fun
  | [d1, d2] => { results := [.lit (.bool true)], args := [d1, d2] }
  | _ => none }
def labelExportsRow : OpenClaim := { program := "ytlhekeokognhmaadoor", sum := "a90d8881a7193ae0eeb2f450f67baf5cf70394942d336ce1f714318943749c4a", func := "gauger/gaugerlaw04.LabelExports", spec := "labelExports", unfollowed := true, recurses := true, named := ["gauger/utf.beginnings"], apart := false, laid := [("gauger/utf.beginnings", laid_gauger_utf_beginnings)] }
def LabelExportsSaid : Prop := labelExportsRow.holds Tryd.pinned (OpenSpec.ofChange labelExportsSpec)

/-- ITS FALSE NEIGHBOUR: 'it returns false'. Refute it at one input. -/
def labelExportsWrong : ChangeSpec := { name := "labelExports", fn := fun _ => fun
  | [d1, d2] => { results := [.lit (.bool false)], args := [d1, d2] }
  | _ => none }
def LabelExportsWrongFalsely : Prop := labelExportsRow.holds Tryd.pinned (OpenSpec.ofChange labelExportsWrong)

/-- 'gaugerlaw04.LabelParts': WHATEVER THE INPUT: true; the input reads as it did. -/
def labelPartsSpec : ChangeSpec := { name := "labelParts", fn := fun _ => fun
  | [d1, d2, d3] => { results := [.lit (.bool true)], args := [d1, d2, d3] }
  | _ => none }
def labelPartsRow : OpenClaim := { program := "ytlhekeokognhmaadoor", sum := "a90d8881a7193ae0eeb2f450f67baf5cf70394942d336ce1f714318943749c4a", func := "gauger/gaugerlaw04.LabelParts", spec := "labelParts", unfollowed := true, recurses := true, named := ["gauger/utf.beginnings"], apart := false, laid := [("gauger/utf.beginnings", laid_gauger_utf_beginnings)] }
def LabelPartsSaid : Prop := labelPartsRow.holds Tryd.pinned (OpenSpec.ofChange labelPartsSpec)

/-- ITS FALSE NEIGHBOUR: 'it returns false'. Refute it at one input. -/
def labelPartsWrong : ChangeSpec := { name := "labelParts", fn := fun _ => fun
  | [d1, d2, d3] => { results := [.lit (.bool false)], args := [d1, d2, d3] }
  | _ => none }
def LabelPartsWrongFalsely : Prop := labelPartsRow.holds Tryd.pinned (OpenSpec.ofChange labelPartsWrong)

/-- 'gaugerlaw04.LabelCompares': WHATEVER THE INPUT: true; the input reads as it did. -/
def labelComparesSpec : ChangeSpec := { name := "labelCompares", fn := fun _ => fun
  | [d1, d2, d3] => { results := [.lit (.bool true)], args := [d1, d2, d3] }
  | _ => none }
def labelComparesRow : OpenClaim := { program := "ytlhekeokognhmaadoor", sum := "a90d8881a7193ae0eeb2f450f67baf5cf70394942d336ce1f714318943749c4a", func := "gauger/gaugerlaw04.LabelCompares", spec := "labelCompares", unfollowed := true, recurses := true, named := ["gauger/utf.beginnings"], apart := false, laid := [("gauger/utf.beginnings", laid_gauger_utf_beginnings)] }
def LabelComparesSaid : Prop := labelComparesRow.holds Tryd.pinned (OpenSpec.ofChange labelComparesSpec)

/-- ITS FALSE NEIGHBOUR: 'it returns false'. Refute it at one input. -/
def labelComparesWrong : ChangeSpec := { name := "labelCompares", fn := fun _ => fun
  | [d1, d2, d3] => { results := [.lit (.bool false)], args := [d1, d2, d3] }
  | _ => none }
def LabelComparesWrongFalsely : Prop := labelComparesRow.holds Tryd.pinned (OpenSpec.ofChange labelComparesWrong)

/- THE SECOND FORM. 'bulk': how many values and letters a reading holds, each counted each time it is reached (what is shared counts as often as it is met; a slice's spare places count too). A statement '..UptoSaid' is the law's where the arguments, and the package variables that the reading takes, are together of bulk at most 1048576: NARROWER than '..Said'. Prove '..Said' where nothing that the law and all that it calls make is longer than what came in: it says more and counts as full. Else prove '..UptoSaid'. A law counts once. -/
mutual
def uptoBulk {H : Type} : DataW H → Nat
  | .lit (.string bytes) => bytes.length + 1
  | .lit _ => 1
  | .nil => 1
  | .ptr d => uptoBulk d + 1
  | .slice elems spare => uptoBulkAll elems + uptoBulkAll spare + 1
  | .agg parts => uptoBulkAll parts + 1
  | .iface _ d => uptoBulk d + 1
  | .map entries => uptoBulkEntries entries + 1
  | .held _ => 1
def uptoBulkAll {H : Type} : List (DataW H) → Nat
  | [] => 0
  | d :: r => uptoBulk d + uptoBulkAll r
def uptoBulkEntries {H : Type} : List (Lit × DataW H) → Nat
  | [] => 0
  | x :: r => uptoBulkEntry x + uptoBulkEntries r
def uptoBulkEntry {H : Type} : Lit × DataW H → Nat
  | (.string bytes, d) => bytes.length + uptoBulk d + 1
  | (_, d) => uptoBulk d + 1
 end
def uptoSmall : (H : Type) → List (DataW H) → Bool := fun _ ds => decide (uptoBulkAll ds ≤ 1048576)
def OpenSpec.upto (s : _root_.Go.ChangeSpec) : _root_.Go.OpenSpec := { _root_.Go.OpenSpec.ofChange s with cond := some uptoSmall }

/-- 'gaugerlaw04.LabelTells', WHERE WHAT IT READS IS OF BULK AT MOST 1048576: true; the input reads as it did. -/
def labelTellsUptoRow : OpenClaim := { program := "ytlhekeokognhmaadoor", sum := "a90d8881a7193ae0eeb2f450f67baf5cf70394942d336ce1f714318943749c4a", func := "gauger/gaugerlaw04.LabelTells", spec := "labelTells", unfollowed := true, recurses := true, named := ["gauger/utf.beginnings"], apart := false, laid := [("gauger/utf.beginnings", laid_gauger_utf_beginnings)], narrowed := true }
def LabelTellsUptoSaid : Prop := labelTellsUptoRow.holds Tryd.pinned (OpenSpec.upto labelTellsSpec)

/-- 'gaugerlaw04.LabelOrder', WHERE WHAT IT READS IS OF BULK AT MOST 1048576: true; the input reads as it did. -/
def labelOrderUptoRow : OpenClaim := { program := "ytlhekeokognhmaadoor", sum := "a90d8881a7193ae0eeb2f450f67baf5cf70394942d336ce1f714318943749c4a", func := "gauger/gaugerlaw04.LabelOrder", spec := "labelOrder", unfollowed := true, recurses := true, named := ["gauger/utf.beginnings"], apart := false, laid := [("gauger/utf.beginnings", laid_gauger_utf_beginnings)], narrowed := true }
def LabelOrderUptoSaid : Prop := labelOrderUptoRow.holds Tryd.pinned (OpenSpec.upto labelOrderSpec)

/-- 'gaugerlaw04.LabelSets', WHERE WHAT IT READS IS OF BULK AT MOST 1048576: true; the input reads as it did. -/
def labelSetsUptoRow : OpenClaim := { program := "ytlhekeokognhmaadoor", sum := "a90d8881a7193ae0eeb2f450f67baf5cf70394942d336ce1f714318943749c4a", func := "gauger/gaugerlaw04.LabelSets", spec := "labelSets", inPlace := ["internal/abi.NoEscape", "internal/bytealg.MakeNoZero"], unfollowed := true, recurses := true, named := ["gauger/utf.beginnings"], apart := false, laid := [("gauger/utf.beginnings", laid_gauger_utf_beginnings)], narrowed := true }
def LabelSetsUptoSaid : Prop := labelSetsUptoRow.holds Tryd.pinned (OpenSpec.upto labelSetsSpec)

/-- 'gaugerlaw04.LabelMerges', WHERE WHAT IT READS IS OF BULK AT MOST 1048576: true; the input reads as it did. -/
def labelMergesUptoRow : OpenClaim := { program := "ytlhekeokognhmaadoor", sum := "a90d8881a7193ae0eeb2f450f67baf5cf70394942d336ce1f714318943749c4a", func := "gauger/gaugerlaw04.LabelMerges", spec := "labelMerges", unfollowed := true, recurses := true, named := ["gauger/utf.beginnings"], apart := false, laid := [("gauger/utf.beginnings", laid_gauger_utf_beginnings)], narrowed := true }
def LabelMergesUptoSaid : Prop := labelMergesUptoRow.holds Tryd.pinned (OpenSpec.upto labelMergesSpec)

/-- 'gaugerlaw04.LabelExports', WHERE WHAT IT READS IS OF BULK AT MOST 1048576: true; the input reads as it did. -/
def labelExportsUptoRow : OpenClaim := { program := "ytlhekeokognhmaadoor", sum := "a90d8881a7193ae0eeb2f450f67baf5cf70394942d336ce1f714318943749c4a", func := "gauger/gaugerlaw04.LabelExports", spec := "labelExports", unfollowed := true, recurses := true, named := ["gauger/utf.beginnings"], apart := false, laid := [("gauger/utf.beginnings", laid_gauger_utf_beginnings)], narrowed := true }
def LabelExportsUptoSaid : Prop := labelExportsUptoRow.holds Tryd.pinned (OpenSpec.upto labelExportsSpec)

/-- 'gaugerlaw04.LabelParts', WHERE WHAT IT READS IS OF BULK AT MOST 1048576: true; the input reads as it did. -/
def labelPartsUptoRow : OpenClaim := { program := "ytlhekeokognhmaadoor", sum := "a90d8881a7193ae0eeb2f450f67baf5cf70394942d336ce1f714318943749c4a", func := "gauger/gaugerlaw04.LabelParts", spec := "labelParts", unfollowed := true, recurses := true, named := ["gauger/utf.beginnings"], apart := false, laid := [("gauger/utf.beginnings", laid_gauger_utf_beginnings)], narrowed := true }
def LabelPartsUptoSaid : Prop := labelPartsUptoRow.holds Tryd.pinned (OpenSpec.upto labelPartsSpec)

/-- 'gaugerlaw04.LabelCompares', WHERE WHAT IT READS IS OF BULK AT MOST 1048576: true; the input reads as it did. -/
def labelComparesUptoRow : OpenClaim := { program := "ytlhekeokognhmaadoor", sum := "a90d8881a7193ae0eeb2f450f67baf5cf70394942d336ce1f714318943749c4a", func := "gauger/gaugerlaw04.LabelCompares", spec := "labelCompares", unfollowed := true, recurses := true, named := ["gauger/utf.beginnings"], apart := false, laid := [("gauger/utf.beginnings", laid_gauger_utf_beginnings)], narrowed := true }
def LabelComparesUptoSaid : Prop := labelComparesUptoRow.holds Tryd.pinned (OpenSpec.upto labelComparesSpec)

end Rows
end Go.Proofs.YtlhekeokognhmaaDoor
