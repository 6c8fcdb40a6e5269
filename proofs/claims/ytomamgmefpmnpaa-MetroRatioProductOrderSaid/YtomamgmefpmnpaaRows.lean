/-
  No cell of these rows narrows 'for every input' (looked for: loops, veiled, ifaces, maps, wideKeys, modest, calm, conditions, laid).
  DERIVED. THE GIVEN ROWS OF THIS SEAT. 12 by the template 'for every input the law returns true; each argument reads behind the call as it read before'; 0 by the template 'total and deterministic' (their statements: YtomamgmefpmnpaaTotals.lean).
  GIVEN WITH THE SEED: the statements are not yours to turn. If you find one false, say at which input.
  Laid BY PROGRAM, IN A SANDBOX (cutbox-rows.mjs): the forced cells as the released guide's own fill.sh prints them over the translation 48f720559991a2c6… (all of the seat's roots in one cut). By AI agents, Wed Nov 11 2026. No macro, syntax, notation, axiom, sorry.
-/
import Derived.Test.YtomamgmefpmnpaaChecked
import GoSem.Claim
import GoSem.ClaimJoined
import GoSem.ClaimMapViews
import Derived.JoinedTies
import Derived.KernelRfl
namespace Go.Proofs.Ytomamgmefpmnpaa
/- THE CELL 'sum', in the pinned program and in every row, IS THE sha256 OF THE DUMP (.gsa) THAT YtomamgmefpmnpaaProg.lean LOADS. Nothing in Lean hashes anything: it is a label: what it is worth is what the hold of that sum in a sandbox is worth. -/
noncomputable def Try.pinned : Pinned := { name := "ytomamgmefpmnpaa", sum := "48f720559991a2c6524fb99eebd8bad3070ed50909bb439b956788ff0f229dd4", checked := Try.checked }
namespace Rows
def none {H : Type} : Left H := { results := [], args := [] }

/-- 'bullalaw01.MetroRatioMakes': WHATEVER THE INPUT: true; the input reads as it did. -/
def metroRatioMakesSpec : ChangeSpec := { name := "metroRatioMakes", fn := fun _ => fun
  | [d1, d2, d3] => { results := [.lit (.bool true)], args := [d1, d2, d3] }
  | _ => none }
def metroRatioMakesRow : OpenClaim := { program := "ytomamgmefpmnpaa", sum := "48f720559991a2c6524fb99eebd8bad3070ed50909bb439b956788ff0f229dd4", func := "bulla/bullalaw01.MetroRatioMakes", spec := "metroRatioMakes", unfollowed := true, recurses := true, apart := false }
def MetroRatioMakesSaid : Prop := metroRatioMakesRow.holds Try.pinned (OpenSpec.ofChange metroRatioMakesSpec)

/-- ITS FALSE NEIGHBOUR: 'it returns false'. Refute it at one input. -/
def metroRatioMakesWrong : ChangeSpec := { name := "metroRatioMakes", fn := fun _ => fun
  | [d1, d2, d3] => { results := [.lit (.bool false)], args := [d1, d2, d3] }
  | _ => none }
def MetroRatioMakesWrongFalsely : Prop := metroRatioMakesRow.holds Try.pinned (OpenSpec.ofChange metroRatioMakesWrong)

/-- 'bullalaw01.MetroRatioSums': WHATEVER THE INPUT: true; the input reads as it did. -/
def metroRatioSumsSpec : ChangeSpec := { name := "metroRatioSums", fn := fun _ => fun
  | [d1, d2] => { results := [.lit (.bool true)], args := [d1, d2] }
  | _ => none }
def metroRatioSumsRow : OpenClaim := { program := "ytomamgmefpmnpaa", sum := "48f720559991a2c6524fb99eebd8bad3070ed50909bb439b956788ff0f229dd4", func := "bulla/bullalaw01.MetroRatioSums", spec := "metroRatioSums", unfollowed := true, recurses := true, apart := false }
def MetroRatioSumsSaid : Prop := metroRatioSumsRow.holds Try.pinned (OpenSpec.ofChange metroRatioSumsSpec)

/-- ITS FALSE NEIGHBOUR: 'it returns false'. Refute it at one input. -/
def metroRatioSumsWrong : ChangeSpec := { name := "metroRatioSums", fn := fun _ => fun
  | [d1, d2] => { results := [.lit (.bool false)], args := [d1, d2] }
  | _ => none }
def MetroRatioSumsWrongFalsely : Prop := metroRatioSumsRow.holds Try.pinned (OpenSpec.ofChange metroRatioSumsWrong)

/-- 'bullalaw01.MetroRatioProducts': WHATEVER THE INPUT: true; the input reads as it did. -/
def metroRatioProductsSpec : ChangeSpec := { name := "metroRatioProducts", fn := fun _ => fun
  | [d1, d2] => { results := [.lit (.bool true)], args := [d1, d2] }
  | _ => none }
def metroRatioProductsRow : OpenClaim := { program := "ytomamgmefpmnpaa", sum := "48f720559991a2c6524fb99eebd8bad3070ed50909bb439b956788ff0f229dd4", func := "bulla/bullalaw01.MetroRatioProducts", spec := "metroRatioProducts", unfollowed := true, recurses := true, apart := false }
def MetroRatioProductsSaid : Prop := metroRatioProductsRow.holds Try.pinned (OpenSpec.ofChange metroRatioProductsSpec)

/-- ITS FALSE NEIGHBOUR: 'it returns false'. Refute it at one input. -/
def metroRatioProductsWrong : ChangeSpec := { name := "metroRatioProducts", fn := fun _ => fun
  | [d1, d2] => { results := [.lit (.bool false)], args := [d1, d2] }
  | _ => none }
def MetroRatioProductsWrongFalsely : Prop := metroRatioProductsRow.holds Try.pinned (OpenSpec.ofChange metroRatioProductsWrong)

/-- 'bullalaw01.MetroLadderReads': WHATEVER THE INPUT: true; the input reads as it did. -/
def metroLadderReadsSpec : ChangeSpec := { name := "metroLadderReads", fn := fun _ => fun
  | [d1, d2] => { results := [.lit (.bool true)], args := [d1, d2] }
  | _ => none }
def metroLadderReadsRow : OpenClaim := { program := "ytomamgmefpmnpaa", sum := "48f720559991a2c6524fb99eebd8bad3070ed50909bb439b956788ff0f229dd4", func := "bulla/bullalaw01.MetroLadderReads", spec := "metroLadderReads", unfollowed := true, recurses := true, apart := false }
def MetroLadderReadsSaid : Prop := metroLadderReadsRow.holds Try.pinned (OpenSpec.ofChange metroLadderReadsSpec)

/-- ITS FALSE NEIGHBOUR: 'it returns false'. Refute it at one input. -/
def metroLadderReadsWrong : ChangeSpec := { name := "metroLadderReads", fn := fun _ => fun
  | [d1, d2] => { results := [.lit (.bool false)], args := [d1, d2] }
  | _ => none }
def MetroLadderReadsWrongFalsely : Prop := metroLadderReadsRow.holds Try.pinned (OpenSpec.ofChange metroLadderReadsWrong)

/-- 'bullalaw01.MetroLadderSplits': WHATEVER THE INPUT: true; the input reads as it did. -/
def metroLadderSplitsSpec : ChangeSpec := { name := "metroLadderSplits", fn := fun _ => fun
  | [d1, d2, d3] => { results := [.lit (.bool true)], args := [d1, d2, d3] }
  | _ => none }
def metroLadderSplitsRow : OpenClaim := { program := "ytomamgmefpmnpaa", sum := "48f720559991a2c6524fb99eebd8bad3070ed50909bb439b956788ff0f229dd4", func := "bulla/bullalaw01.MetroLadderSplits", spec := "metroLadderSplits", unfollowed := true, recurses := true, apart := false }
def MetroLadderSplitsSaid : Prop := metroLadderSplitsRow.holds Try.pinned (OpenSpec.ofChange metroLadderSplitsSpec)

/-- ITS FALSE NEIGHBOUR: 'it returns false'. Refute it at one input. -/
def metroLadderSplitsWrong : ChangeSpec := { name := "metroLadderSplits", fn := fun _ => fun
  | [d1, d2, d3] => { results := [.lit (.bool false)], args := [d1, d2, d3] }
  | _ => none }
def MetroLadderSplitsWrongFalsely : Prop := metroLadderSplitsRow.holds Try.pinned (OpenSpec.ofChange metroLadderSplitsWrong)

/-- 'bullalaw01.MetroLadderTotals': WHATEVER THE INPUT: true; the input reads as it did. -/
def metroLadderTotalsSpec : ChangeSpec := { name := "metroLadderTotals", fn := fun _ => fun
  | [d1, d2] => { results := [.lit (.bool true)], args := [d1, d2] }
  | _ => none }
def metroLadderTotalsRow : OpenClaim := { program := "ytomamgmefpmnpaa", sum := "48f720559991a2c6524fb99eebd8bad3070ed50909bb439b956788ff0f229dd4", func := "bulla/bullalaw01.MetroLadderTotals", spec := "metroLadderTotals", unfollowed := true, recurses := true, apart := false }
def MetroLadderTotalsSaid : Prop := metroLadderTotalsRow.holds Try.pinned (OpenSpec.ofChange metroLadderTotalsSpec)

/-- ITS FALSE NEIGHBOUR: 'it returns false'. Refute it at one input. -/
def metroLadderTotalsWrong : ChangeSpec := { name := "metroLadderTotals", fn := fun _ => fun
  | [d1, d2] => { results := [.lit (.bool false)], args := [d1, d2] }
  | _ => none }
def MetroLadderTotalsWrongFalsely : Prop := metroLadderTotalsRow.holds Try.pinned (OpenSpec.ofChange metroLadderTotalsWrong)

/-- 'bullalaw01.MetroBookMakes': WHATEVER THE INPUT: true; the input reads as it did. -/
def metroBookMakesSpec : ChangeSpec := { name := "metroBookMakes", fn := fun _ => fun
  | [d] => { results := [.lit (.bool true)], args := [d] }
  | _ => none }
def metroBookMakesRow : OpenClaim := { program := "ytomamgmefpmnpaa", sum := "48f720559991a2c6524fb99eebd8bad3070ed50909bb439b956788ff0f229dd4", func := "bulla/bullalaw01.MetroBookMakes", spec := "metroBookMakes", unfollowed := true, recurses := true, apart := false }
def MetroBookMakesSaid : Prop := metroBookMakesRow.holds Try.pinned (OpenSpec.ofChange metroBookMakesSpec)

/-- ITS FALSE NEIGHBOUR: 'it returns false'. Refute it at one input. -/
def metroBookMakesWrong : ChangeSpec := { name := "metroBookMakes", fn := fun _ => fun
  | [d] => { results := [.lit (.bool false)], args := [d] }
  | _ => none }
def MetroBookMakesWrongFalsely : Prop := metroBookMakesRow.holds Try.pinned (OpenSpec.ofChange metroBookMakesWrong)

/-- 'bullalaw01.MetroBookConverts': WHATEVER THE INPUT: true; the input reads as it did. -/
def metroBookConvertsSpec : ChangeSpec := { name := "metroBookConverts", fn := fun _ => fun
  | [d] => { results := [.lit (.bool true)], args := [d] }
  | _ => none }
def metroBookConvertsRow : OpenClaim := { program := "ytomamgmefpmnpaa", sum := "48f720559991a2c6524fb99eebd8bad3070ed50909bb439b956788ff0f229dd4", func := "bulla/bullalaw01.MetroBookConverts", spec := "metroBookConverts", unfollowed := true, recurses := true, apart := false }
def MetroBookConvertsSaid : Prop := metroBookConvertsRow.holds Try.pinned (OpenSpec.ofChange metroBookConvertsSpec)

/-- ITS FALSE NEIGHBOUR: 'it returns false'. Refute it at one input. -/
def metroBookConvertsWrong : ChangeSpec := { name := "metroBookConverts", fn := fun _ => fun
  | [d] => { results := [.lit (.bool false)], args := [d] }
  | _ => none }
def MetroBookConvertsWrongFalsely : Prop := metroBookConvertsRow.holds Try.pinned (OpenSpec.ofChange metroBookConvertsWrong)

/-- 'bullalaw01.MetroRatioField': WHATEVER THE INPUT: true; the input reads as it did. -/
def metroRatioFieldSpec : ChangeSpec := { name := "metroRatioField", fn := fun _ => fun
  | [d1, d2, d3] => { results := [.lit (.bool true)], args := [d1, d2, d3] }
  | _ => none }
def metroRatioFieldRow : OpenClaim := { program := "ytomamgmefpmnpaa", sum := "48f720559991a2c6524fb99eebd8bad3070ed50909bb439b956788ff0f229dd4", func := "bulla/bullalaw01.MetroRatioField", spec := "metroRatioField", unfollowed := true, recurses := true, apart := false }
def MetroRatioFieldSaid : Prop := metroRatioFieldRow.holds Try.pinned (OpenSpec.ofChange metroRatioFieldSpec)

/-- ITS FALSE NEIGHBOUR: 'it returns false'. Refute it at one input. -/
def metroRatioFieldWrong : ChangeSpec := { name := "metroRatioField", fn := fun _ => fun
  | [d1, d2, d3] => { results := [.lit (.bool false)], args := [d1, d2, d3] }
  | _ => none }
def MetroRatioFieldWrongFalsely : Prop := metroRatioFieldRow.holds Try.pinned (OpenSpec.ofChange metroRatioFieldWrong)

/-- 'bullalaw01.MetroRatioOrder': WHATEVER THE INPUT: true; the input reads as it did. -/
def metroRatioOrderSpec : ChangeSpec := { name := "metroRatioOrder", fn := fun _ => fun
  | [d1, d2, d3] => { results := [.lit (.bool true)], args := [d1, d2, d3] }
  | _ => none }
def metroRatioOrderRow : OpenClaim := { program := "ytomamgmefpmnpaa", sum := "48f720559991a2c6524fb99eebd8bad3070ed50909bb439b956788ff0f229dd4", func := "bulla/bullalaw01.MetroRatioOrder", spec := "metroRatioOrder", unfollowed := true, recurses := true, apart := false }
def MetroRatioOrderSaid : Prop := metroRatioOrderRow.holds Try.pinned (OpenSpec.ofChange metroRatioOrderSpec)

/-- ITS FALSE NEIGHBOUR: 'it returns false'. Refute it at one input. -/
def metroRatioOrderWrong : ChangeSpec := { name := "metroRatioOrder", fn := fun _ => fun
  | [d1, d2, d3] => { results := [.lit (.bool false)], args := [d1, d2, d3] }
  | _ => none }
def MetroRatioOrderWrongFalsely : Prop := metroRatioOrderRow.holds Try.pinned (OpenSpec.ofChange metroRatioOrderWrong)

/-- 'bullalaw01.MetroRatioProductOrder': WHATEVER THE INPUT: true; the input reads as it did. -/
def metroRatioProductOrderSpec : ChangeSpec := { name := "metroRatioProductOrder", fn := fun _ => fun
  | [d1, d2] => { results := [.lit (.bool true)], args := [d1, d2] }
  | _ => none }
def metroRatioProductOrderRow : OpenClaim := { program := "ytomamgmefpmnpaa", sum := "48f720559991a2c6524fb99eebd8bad3070ed50909bb439b956788ff0f229dd4", func := "bulla/bullalaw01.MetroRatioProductOrder", spec := "metroRatioProductOrder", unfollowed := true, recurses := true, apart := false }
def MetroRatioProductOrderSaid : Prop := metroRatioProductOrderRow.holds Try.pinned (OpenSpec.ofChange metroRatioProductOrderSpec)

/-- ITS FALSE NEIGHBOUR: 'it returns false'. Refute it at one input. -/
def metroRatioProductOrderWrong : ChangeSpec := { name := "metroRatioProductOrder", fn := fun _ => fun
  | [d1, d2] => { results := [.lit (.bool false)], args := [d1, d2] }
  | _ => none }
def MetroRatioProductOrderWrongFalsely : Prop := metroRatioProductOrderRow.holds Try.pinned (OpenSpec.ofChange metroRatioProductOrderWrong)

/-- 'bullalaw01.MetroLadderBack': WHATEVER THE INPUT: true; the input reads as it did. -/
def metroLadderBackSpec : ChangeSpec := { name := "metroLadderBack", fn := fun _ => fun
  | [d1, d2] => { results := [.lit (.bool true)], args := [d1, d2] }
  | _ => none }
def metroLadderBackRow : OpenClaim := { program := "ytomamgmefpmnpaa", sum := "48f720559991a2c6524fb99eebd8bad3070ed50909bb439b956788ff0f229dd4", func := "bulla/bullalaw01.MetroLadderBack", spec := "metroLadderBack", unfollowed := true, recurses := true, apart := false }
def MetroLadderBackSaid : Prop := metroLadderBackRow.holds Try.pinned (OpenSpec.ofChange metroLadderBackSpec)

/-- ITS FALSE NEIGHBOUR: 'it returns false'. Refute it at one input. -/
def metroLadderBackWrong : ChangeSpec := { name := "metroLadderBack", fn := fun _ => fun
  | [d1, d2] => { results := [.lit (.bool false)], args := [d1, d2] }
  | _ => none }
def MetroLadderBackWrongFalsely : Prop := metroLadderBackRow.holds Try.pinned (OpenSpec.ofChange metroLadderBackWrong)

/- THE SECOND FORM. 'bulk': how many values and letters a reading holds, each counted each time it is reached (what is shared counts as often as it is met; a slice's spare places count too). A statement '..UptoSaid' is the law's where the arguments, and the package variables that the reading takes, are together of bulk at most 1048576: NARROWER than '..Said'. Prove '..Said' where nothing that the law and all that it calls make is longer than what came in: it says more and counts as full. Else prove '..UptoSaid'. A law counts once. -/
mutual
def uptoBulk {H : Type} : DataW H → Nat
  | .lit (.string bytes) => bytes.length + 1
  | .lit _ => 1
  | .nil => 1
  | .ptr d => uptoBulk d + 1
  | .slice elems spare => uptoBulkAll elems + uptoBulkAll spare + 1
  | .agg parts => uptoBulkAll parts + 1
  | .iface _ d => uptoBulk d + 1
  | .map entries => uptoBulkEntries entries + 1
  | .held _ => 1
def uptoBulkAll {H : Type} : List (DataW H) → Nat
  | [] => 0
  | d :: r => uptoBulk d + uptoBulkAll r
def uptoBulkEntries {H : Type} : List (Lit × DataW H) → Nat
  | [] => 0
  | x :: r => uptoBulkEntry x + uptoBulkEntries r
def uptoBulkEntry {H : Type} : Lit × DataW H → Nat
  | (.string bytes, d) => bytes.length + uptoBulk d + 1
  | (_, d) => uptoBulk d + 1
 end
def uptoSmall : (H : Type) → List (DataW H) → Bool := fun _ ds => decide (uptoBulkAll ds ≤ 1048576)
def OpenSpec.upto (s : _root_.Go.ChangeSpec) : _root_.Go.OpenSpec := { _root_.Go.OpenSpec.ofChange s with cond := some uptoSmall }

/-- 'bullalaw01.MetroRatioMakes', WHERE WHAT IT READS IS OF BULK AT MOST 1048576: true; the input reads as it did. -/
def metroRatioMakesUptoRow : OpenClaim := { program := "ytomamgmefpmnpaa", sum := "48f720559991a2c6524fb99eebd8bad3070ed50909bb439b956788ff0f229dd4", func := "bulla/bullalaw01.MetroRatioMakes", spec := "metroRatioMakes", unfollowed := true, recurses := true, apart := false, narrowed := true }
def MetroRatioMakesUptoSaid : Prop := metroRatioMakesUptoRow.holds Try.pinned (OpenSpec.upto metroRatioMakesSpec)

/-- 'bullalaw01.MetroRatioSums', WHERE WHAT IT READS IS OF BULK AT MOST 1048576: true; the input reads as it did. -/
def metroRatioSumsUptoRow : OpenClaim := { program := "ytomamgmefpmnpaa", sum := "48f720559991a2c6524fb99eebd8bad3070ed50909bb439b956788ff0f229dd4", func := "bulla/bullalaw01.MetroRatioSums", spec := "metroRatioSums", unfollowed := true, recurses := true, apart := false, narrowed := true }
def MetroRatioSumsUptoSaid : Prop := metroRatioSumsUptoRow.holds Try.pinned (OpenSpec.upto metroRatioSumsSpec)

/-- 'bullalaw01.MetroRatioProducts', WHERE WHAT IT READS IS OF BULK AT MOST 1048576: true; the input reads as it did. -/
def metroRatioProductsUptoRow : OpenClaim := { program := "ytomamgmefpmnpaa", sum := "48f720559991a2c6524fb99eebd8bad3070ed50909bb439b956788ff0f229dd4", func := "bulla/bullalaw01.MetroRatioProducts", spec := "metroRatioProducts", unfollowed := true, recurses := true, apart := false, narrowed := true }
def MetroRatioProductsUptoSaid : Prop := metroRatioProductsUptoRow.holds Try.pinned (OpenSpec.upto metroRatioProductsSpec)

/-- 'bullalaw01.MetroLadderReads', WHERE WHAT IT READS IS OF BULK AT MOST 1048576: true; the input reads as it did. -/
def metroLadderReadsUptoRow : OpenClaim := { program := "ytomamgmefpmnpaa", sum := "48f720559991a2c6524fb99eebd8bad3070ed50909bb439b956788ff0f229dd4", func := "bulla/bullalaw01.MetroLadderReads", spec := "metroLadderReads", unfollowed := true, recurses := true, apart := false, narrowed := true }
def MetroLadderReadsUptoSaid : Prop := metroLadderReadsUptoRow.holds Try.pinned (OpenSpec.upto metroLadderReadsSpec)

/-- 'bullalaw01.MetroLadderSplits', WHERE WHAT IT READS IS OF BULK AT MOST 1048576: true; the input reads as it did. -/
def metroLadderSplitsUptoRow : OpenClaim := { program := "ytomamgmefpmnpaa", sum := "48f720559991a2c6524fb99eebd8bad3070ed50909bb439b956788ff0f229dd4", func := "bulla/bullalaw01.MetroLadderSplits", spec := "metroLadderSplits", unfollowed := true, recurses := true, apart := false, narrowed := true }
def MetroLadderSplitsUptoSaid : Prop := metroLadderSplitsUptoRow.holds Try.pinned (OpenSpec.upto metroLadderSplitsSpec)

/-- 'bullalaw01.MetroLadderTotals', WHERE WHAT IT READS IS OF BULK AT MOST 1048576: true; the input reads as it did. -/
def metroLadderTotalsUptoRow : OpenClaim := { program := "ytomamgmefpmnpaa", sum := "48f720559991a2c6524fb99eebd8bad3070ed50909bb439b956788ff0f229dd4", func := "bulla/bullalaw01.MetroLadderTotals", spec := "metroLadderTotals", unfollowed := true, recurses := true, apart := false, narrowed := true }
def MetroLadderTotalsUptoSaid : Prop := metroLadderTotalsUptoRow.holds Try.pinned (OpenSpec.upto metroLadderTotalsSpec)

/-- 'bullalaw01.MetroBookMakes', WHERE WHAT IT READS IS OF BULK AT MOST 1048576: true; the input reads as it did. -/
def metroBookMakesUptoRow : OpenClaim := { program := "ytomamgmefpmnpaa", sum := "48f720559991a2c6524fb99eebd8bad3070ed50909bb439b956788ff0f229dd4", func := "bulla/bullalaw01.MetroBookMakes", spec := "metroBookMakes", unfollowed := true, recurses := true, apart := false, narrowed := true }
def MetroBookMakesUptoSaid : Prop := metroBookMakesUptoRow.holds Try.pinned (OpenSpec.upto metroBookMakesSpec)

/-- 'bullalaw01.MetroBookConverts', WHERE WHAT IT READS IS OF BULK AT MOST 1048576: true; the input reads as it did. -/
def metroBookConvertsUptoRow : OpenClaim := { program := "ytomamgmefpmnpaa", sum := "48f720559991a2c6524fb99eebd8bad3070ed50909bb439b956788ff0f229dd4", func := "bulla/bullalaw01.MetroBookConverts", spec := "metroBookConverts", unfollowed := true, recurses := true, apart := false, narrowed := true }
def MetroBookConvertsUptoSaid : Prop := metroBookConvertsUptoRow.holds Try.pinned (OpenSpec.upto metroBookConvertsSpec)

/-- 'bullalaw01.MetroRatioField', WHERE WHAT IT READS IS OF BULK AT MOST 1048576: true; the input reads as it did. -/
def metroRatioFieldUptoRow : OpenClaim := { program := "ytomamgmefpmnpaa", sum := "48f720559991a2c6524fb99eebd8bad3070ed50909bb439b956788ff0f229dd4", func := "bulla/bullalaw01.MetroRatioField", spec := "metroRatioField", unfollowed := true, recurses := true, apart := false, narrowed := true }
def MetroRatioFieldUptoSaid : Prop := metroRatioFieldUptoRow.holds Try.pinned (OpenSpec.upto metroRatioFieldSpec)

/-- 'bullalaw01.MetroRatioOrder', WHERE WHAT IT READS IS OF BULK AT MOST 1048576: true; the input reads as it did. -/
def metroRatioOrderUptoRow : OpenClaim := { program := "ytomamgmefpmnpaa", sum := "48f720559991a2c6524fb99eebd8bad3070ed50909bb439b956788ff0f229dd4", func := "bulla/bullalaw01.MetroRatioOrder", spec := "metroRatioOrder", unfollowed := true, recurses := true, apart := false, narrowed := true }
def MetroRatioOrderUptoSaid : Prop := metroRatioOrderUptoRow.holds Try.pinned (OpenSpec.upto metroRatioOrderSpec)

/-- 'bullalaw01.MetroRatioProductOrder', WHERE WHAT IT READS IS OF BULK AT MOST 1048576: true; the input reads as it did. -/
def metroRatioProductOrderUptoRow : OpenClaim := { program := "ytomamgmefpmnpaa", sum := "48f720559991a2c6524fb99eebd8bad3070ed50909bb439b956788ff0f229dd4", func := "bulla/bullalaw01.MetroRatioProductOrder", spec := "metroRatioProductOrder", unfollowed := true, recurses := true, apart := false, narrowed := true }
def MetroRatioProductOrderUptoSaid : Prop := metroRatioProductOrderUptoRow.holds Try.pinned (OpenSpec.upto metroRatioProductOrderSpec)

/-- 'bullalaw01.MetroLadderBack', WHERE WHAT IT READS IS OF BULK AT MOST 1048576: true; the input reads as it did. -/
def metroLadderBackUptoRow : OpenClaim := { program := "ytomamgmefpmnpaa", sum := "48f720559991a2c6524fb99eebd8bad3070ed50909bb439b956788ff0f229dd4", func := "bulla/bullalaw01.MetroLadderBack", spec := "metroLadderBack", unfollowed := true, recurses := true, apart := false, narrowed := true }
def MetroLadderBackUptoSaid : Prop := metroLadderBackUptoRow.holds Try.pinned (OpenSpec.upto metroLadderBackSpec)

end Rows
end Go.Proofs.Ytomamgmefpmnpaa
