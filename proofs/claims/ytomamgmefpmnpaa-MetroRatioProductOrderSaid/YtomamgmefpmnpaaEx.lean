/- The closed example calls of this seat. -/
import Derived.Test.YtomamgmefpmnpaaEv27
import Derived.Test.YtomamgmefpmnpaaRows
set_option linter.unusedSimpArgs false
set_option linter.unusedVariables false
namespace Go.Proofs.Ytomamgmefpmnpaa
open Go.Ev
theorem orders : Try.prog.follows .mixedOrders = true := by kernel_rfl
theorem noNum : NoNum Try.prog := noNum_of (by kernel_rfl)
theorem works_shut : Shut Try.prog 21 := shut_of orders noNum (shut_nil _) (by kernel_rfl) (by kernel_rfl)
theorem works (w : World) : Calls Try.prog 21 #[] w fun e w' => e = .returned (.bool true) ∧ RowKit.Below w.heap.size w w' := works_shut.calls w
end Go.Proofs.Ytomamgmefpmnpaa
