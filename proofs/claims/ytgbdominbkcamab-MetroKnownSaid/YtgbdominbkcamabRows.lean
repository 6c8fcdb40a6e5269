/-
  No cell of these rows narrows 'for every input' (looked for: loops, veiled, ifaces, maps, wideKeys, modest, calm, conditions, laid).
  DERIVED. THE GIVEN ROWS OF THIS SEAT. 6 by the template 'for every input the law returns true; each argument reads behind the call as it read before'; 0 by the template 'total and deterministic' (their statements: YtgbdominbkcamabTotals.lean).
  GIVEN WITH THE SEED: the statements are not yours to turn. If you find one false, say at which input.
  Laid BY PROGRAM, IN A SANDBOX (cutbox-rows.mjs): the forced cells as the released guide's own fill.sh prints them over the translation 9a92cf0fa2479982… (all of the seat's roots in one cut). By AI agents, Wed Nov 11 2026. No macro, syntax, notation, axiom, sorry.
-/
import Derived.Test.YtgbdominbkcamabChecked
import GoSem.Claim
import GoSem.ClaimJoined
import GoSem.ClaimMapViews
import Derived.JoinedTies
import Derived.KernelRfl
namespace Go.Proofs.Ytgbdominbkcamab
/- THE CELL 'sum', in the pinned program and in every row, IS THE sha256 OF THE DUMP (.gsa) THAT YtgbdominbkcamabProg.lean LOADS. Nothing in Lean hashes anything: it is a label: what it is worth is what the hold of that sum in a sandbox is worth. -/
noncomputable def Try.pinned : Pinned := { name := "ytgbdominbkcamab", sum := "9a92cf0fa24799822d2e1616232b712598850d4fa083c406867a7dd9c1b290b1", checked := Try.checked }
namespace Rows
def none {H : Type} : Left H := { results := [], args := [] }

/-- 'bullalaw01.MetroCarryKeeps': WHATEVER THE INPUT: true; the input reads as it did. -/
def metroCarryKeepsSpec : ChangeSpec := { name := "metroCarryKeeps", fn := fun _ => fun
  | [d1, d2] => { results := [.lit (.bool true)], args := [d1, d2] }
  | _ => none }
def metroCarryKeepsRow : OpenClaim := { program := "ytgbdominbkcamab", sum := "9a92cf0fa24799822d2e1616232b712598850d4fa083c406867a7dd9c1b290b1", func := "bulla/bullalaw01.MetroCarryKeeps", spec := "metroCarryKeeps", unfollowed := true, recurses := true, apart := false }
def MetroCarryKeepsSaid : Prop := metroCarryKeepsRow.holds Try.pinned (OpenSpec.ofChange metroCarryKeepsSpec)

/-- ITS FALSE NEIGHBOUR: 'it returns false'. Refute it at one input. -/
def metroCarryKeepsWrong : ChangeSpec := { name := "metroCarryKeeps", fn := fun _ => fun
  | [d1, d2] => { results := [.lit (.bool false)], args := [d1, d2] }
  | _ => none }
def MetroCarryKeepsWrongFalsely : Prop := metroCarryKeepsRow.holds Try.pinned (OpenSpec.ofChange metroCarryKeepsWrong)

/-- 'bullalaw01.MetroRoundNear': WHATEVER THE INPUT: true; the input reads as it did. -/
def metroRoundNearSpec : ChangeSpec := { name := "metroRoundNear", fn := fun _ => fun
  | [d1, d2, d3] => { results := [.lit (.bool true)], args := [d1, d2, d3] }
  | _ => none }
def metroRoundNearRow : OpenClaim := { program := "ytgbdominbkcamab", sum := "9a92cf0fa24799822d2e1616232b712598850d4fa083c406867a7dd9c1b290b1", func := "bulla/bullalaw01.MetroRoundNear", spec := "metroRoundNear", unfollowed := true, recurses := true, apart := false }
def MetroRoundNearSaid : Prop := metroRoundNearRow.holds Try.pinned (OpenSpec.ofChange metroRoundNearSpec)

/-- ITS FALSE NEIGHBOUR: 'it returns false'. Refute it at one input. -/
def metroRoundNearWrong : ChangeSpec := { name := "metroRoundNear", fn := fun _ => fun
  | [d1, d2, d3] => { results := [.lit (.bool false)], args := [d1, d2, d3] }
  | _ => none }
def MetroRoundNearWrongFalsely : Prop := metroRoundNearRow.holds Try.pinned (OpenSpec.ofChange metroRoundNearWrong)

/-- 'bullalaw01.MetroConvertAgree': WHATEVER THE INPUT: true; the input reads as it did. -/
def metroConvertAgreeSpec : ChangeSpec := { name := "metroConvertAgree", fn := fun _ => fun
  | [d1, d2] => { results := [.lit (.bool true)], args := [d1, d2] }
  | _ => none }
def metroConvertAgreeRow : OpenClaim := { program := "ytgbdominbkcamab", sum := "9a92cf0fa24799822d2e1616232b712598850d4fa083c406867a7dd9c1b290b1", func := "bulla/bullalaw01.MetroConvertAgree", spec := "metroConvertAgree", unfollowed := true, recurses := true, apart := false }
def MetroConvertAgreeSaid : Prop := metroConvertAgreeRow.holds Try.pinned (OpenSpec.ofChange metroConvertAgreeSpec)

/-- ITS FALSE NEIGHBOUR: 'it returns false'. Refute it at one input. -/
def metroConvertAgreeWrong : ChangeSpec := { name := "metroConvertAgree", fn := fun _ => fun
  | [d1, d2] => { results := [.lit (.bool false)], args := [d1, d2] }
  | _ => none }
def MetroConvertAgreeWrongFalsely : Prop := metroConvertAgreeRow.holds Try.pinned (OpenSpec.ofChange metroConvertAgreeWrong)

/-- 'bullalaw01.MetroConvertBack': WHATEVER THE INPUT: true; the input reads as it did. -/
def metroConvertBackSpec : ChangeSpec := { name := "metroConvertBack", fn := fun _ => fun
  | [d1, d2, d3] => { results := [.lit (.bool true)], args := [d1, d2, d3] }
  | _ => none }
def metroConvertBackRow : OpenClaim := { program := "ytgbdominbkcamab", sum := "9a92cf0fa24799822d2e1616232b712598850d4fa083c406867a7dd9c1b290b1", func := "bulla/bullalaw01.MetroConvertBack", spec := "metroConvertBack", unfollowed := true, recurses := true, apart := false }
def MetroConvertBackSaid : Prop := metroConvertBackRow.holds Try.pinned (OpenSpec.ofChange metroConvertBackSpec)

/-- ITS FALSE NEIGHBOUR: 'it returns false'. Refute it at one input. -/
def metroConvertBackWrong : ChangeSpec := { name := "metroConvertBack", fn := fun _ => fun
  | [d1, d2, d3] => { results := [.lit (.bool false)], args := [d1, d2, d3] }
  | _ => none }
def MetroConvertBackWrongFalsely : Prop := metroConvertBackRow.holds Try.pinned (OpenSpec.ofChange metroConvertBackWrong)

/-- 'bullalaw01.MetroBridgeOrder': WHATEVER THE INPUT: true; the input reads as it did. -/
def metroBridgeOrderSpec : ChangeSpec := { name := "metroBridgeOrder", fn := fun _ => fun
  | [d1, d2, d3] => { results := [.lit (.bool true)], args := [d1, d2, d3] }
  | _ => none }
def metroBridgeOrderRow : OpenClaim := { program := "ytgbdominbkcamab", sum := "9a92cf0fa24799822d2e1616232b712598850d4fa083c406867a7dd9c1b290b1", func := "bulla/bullalaw01.MetroBridgeOrder", spec := "metroBridgeOrder", unfollowed := true, recurses := true, apart := false }
def MetroBridgeOrderSaid : Prop := metroBridgeOrderRow.holds Try.pinned (OpenSpec.ofChange metroBridgeOrderSpec)

/-- ITS FALSE NEIGHBOUR: 'it returns false'. Refute it at one input. -/
def metroBridgeOrderWrong : ChangeSpec := { name := "metroBridgeOrder", fn := fun _ => fun
  | [d1, d2, d3] => { results := [.lit (.bool false)], args := [d1, d2, d3] }
  | _ => none }
def MetroBridgeOrderWrongFalsely : Prop := metroBridgeOrderRow.holds Try.pinned (OpenSpec.ofChange metroBridgeOrderWrong)

/-- 'bullalaw01.MetroKnown': WHATEVER THE INPUT: true; the input reads as it did. -/
def metroKnownSpec : ChangeSpec := { name := "metroKnown", fn := fun _ => fun
  | [] => { results := [.lit (.bool true)], args := [] }
  | _ => none }
def metroKnownRow : OpenClaim := { program := "ytgbdominbkcamab", sum := "9a92cf0fa24799822d2e1616232b712598850d4fa083c406867a7dd9c1b290b1", func := "bulla/bullalaw01.MetroKnown", spec := "metroKnown", unfollowed := true, recurses := true, apart := false }
def MetroKnownSaid : Prop := metroKnownRow.holds Try.pinned (OpenSpec.ofChange metroKnownSpec)

/-- ITS FALSE NEIGHBOUR: 'it returns false'. Refute it at one input. -/
def metroKnownWrong : ChangeSpec := { name := "metroKnown", fn := fun _ => fun
  | [] => { results := [.lit (.bool false)], args := [] }
  | _ => none }
def MetroKnownWrongFalsely : Prop := metroKnownRow.holds Try.pinned (OpenSpec.ofChange metroKnownWrong)

/- THE SECOND FORM. 'bulk': how many values and letters a reading holds, each counted each time it is reached (what is shared counts as often as it is met; a slice's spare places count too). A statement '..UptoSaid' is the law's where the arguments, and the package variables that the reading takes, are together of bulk at most 1048576: NARROWER than '..Said'. Prove '..Said' where nothing that the law and all that it calls make is longer than what came in: it says more and counts as full. Else prove '..UptoSaid'. A law counts once. -/
mutual
def uptoBulk {H : Type} : DataW H → Nat
  | .lit (.string bytes) => bytes.length + 1
  | .lit _ => 1
  | .nil => 1
  | .ptr d => uptoBulk d + 1
  | .slice elems spare => uptoBulkAll elems + uptoBulkAll spare + 1
  | .agg parts => uptoBulkAll parts + 1
  | .iface _ d => uptoBulk d + 1
  | .map entries => uptoBulkEntries entries + 1
  | .held _ => 1
def uptoBulkAll {H : Type} : List (DataW H) → Nat
  | [] => 0
  | d :: r => uptoBulk d + uptoBulkAll r
def uptoBulkEntries {H : Type} : List (Lit × DataW H) → Nat
  | [] => 0
  | x :: r => uptoBulkEntry x + uptoBulkEntries r
def uptoBulkEntry {H : Type} : Lit × DataW H → Nat
  | (.string bytes, d) => bytes.length + uptoBulk d + 1
  | (_, d) => uptoBulk d + 1
 end
def uptoSmall : (H : Type) → List (DataW H) → Bool := fun _ ds => decide (uptoBulkAll ds ≤ 1048576)
def OpenSpec.upto (s : _root_.Go.ChangeSpec) : _root_.Go.OpenSpec := { _root_.Go.OpenSpec.ofChange s with cond := some uptoSmall }

/-- 'bullalaw01.MetroCarryKeeps', WHERE WHAT IT READS IS OF BULK AT MOST 1048576: true; the input reads as it did. -/
def metroCarryKeepsUptoRow : OpenClaim := { program := "ytgbdominbkcamab", sum := "9a92cf0fa24799822d2e1616232b712598850d4fa083c406867a7dd9c1b290b1", func := "bulla/bullalaw01.MetroCarryKeeps", spec := "metroCarryKeeps", unfollowed := true, recurses := true, apart := false, narrowed := true }
def MetroCarryKeepsUptoSaid : Prop := metroCarryKeepsUptoRow.holds Try.pinned (OpenSpec.upto metroCarryKeepsSpec)

/-- 'bullalaw01.MetroRoundNear', WHERE WHAT IT READS IS OF BULK AT MOST 1048576: true; the input reads as it did. -/
def metroRoundNearUptoRow : OpenClaim := { program := "ytgbdominbkcamab", sum := "9a92cf0fa24799822d2e1616232b712598850d4fa083c406867a7dd9c1b290b1", func := "bulla/bullalaw01.MetroRoundNear", spec := "metroRoundNear", unfollowed := true, recurses := true, apart := false, narrowed := true }
def MetroRoundNearUptoSaid : Prop := metroRoundNearUptoRow.holds Try.pinned (OpenSpec.upto metroRoundNearSpec)

/-- 'bullalaw01.MetroConvertAgree', WHERE WHAT IT READS IS OF BULK AT MOST 1048576: true; the input reads as it did. -/
def metroConvertAgreeUptoRow : OpenClaim := { program := "ytgbdominbkcamab", sum := "9a92cf0fa24799822d2e1616232b712598850d4fa083c406867a7dd9c1b290b1", func := "bulla/bullalaw01.MetroConvertAgree", spec := "metroConvertAgree", unfollowed := true, recurses := true, apart := false, narrowed := true }
def MetroConvertAgreeUptoSaid : Prop := metroConvertAgreeUptoRow.holds Try.pinned (OpenSpec.upto metroConvertAgreeSpec)

/-- 'bullalaw01.MetroConvertBack', WHERE WHAT IT READS IS OF BULK AT MOST 1048576: true; the input reads as it did. -/
def metroConvertBackUptoRow : OpenClaim := { program := "ytgbdominbkcamab", sum := "9a92cf0fa24799822d2e1616232b712598850d4fa083c406867a7dd9c1b290b1", func := "bulla/bullalaw01.MetroConvertBack", spec := "metroConvertBack", unfollowed := true, recurses := true, apart := false, narrowed := true }
def MetroConvertBackUptoSaid : Prop := metroConvertBackUptoRow.holds Try.pinned (OpenSpec.upto metroConvertBackSpec)

/-- 'bullalaw01.MetroBridgeOrder', WHERE WHAT IT READS IS OF BULK AT MOST 1048576: true; the input reads as it did. -/
def metroBridgeOrderUptoRow : OpenClaim := { program := "ytgbdominbkcamab", sum := "9a92cf0fa24799822d2e1616232b712598850d4fa083c406867a7dd9c1b290b1", func := "bulla/bullalaw01.MetroBridgeOrder", spec := "metroBridgeOrder", unfollowed := true, recurses := true, apart := false, narrowed := true }
def MetroBridgeOrderUptoSaid : Prop := metroBridgeOrderUptoRow.holds Try.pinned (OpenSpec.upto metroBridgeOrderSpec)

/-- 'bullalaw01.MetroKnown', WHERE WHAT IT READS IS OF BULK AT MOST 1048576: true; the input reads as it did. -/
def metroKnownUptoRow : OpenClaim := { program := "ytgbdominbkcamab", sum := "9a92cf0fa24799822d2e1616232b712598850d4fa083c406867a7dd9c1b290b1", func := "bulla/bullalaw01.MetroKnown", spec := "metroKnown", unfollowed := true, recurses := true, apart := false, narrowed := true }
def MetroKnownUptoSaid : Prop := metroKnownUptoRow.holds Try.pinned (OpenSpec.upto metroKnownSpec)

end Rows
end Go.Proofs.Ytgbdominbkcamab
