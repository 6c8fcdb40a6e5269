/- The closed example calls of this seat. -/
import Derived.Test.YtfmiimehobcmaaaEv27
import Derived.Test.YtfmiimehobcmaaaRows
set_option linter.unusedSimpArgs false
set_option linter.unusedVariables false
namespace Go.Proofs.Ytfmiimehobcmaaa
open Go.Ev
theorem orders : Try.prog.follows .mixedOrders = true := by kernel_rfl
theorem noNum : NoNum Try.prog := noNum_of (by kernel_rfl)
theorem works_shut : Shut Try.prog 23 := shut_of orders noNum (shut_nil _) (by kernel_rfl) (by kernel_rfl)
theorem works (w : World) : Calls Try.prog 23 #[] w fun e w' => e = .returned (.bool true) ∧ RowKit.Below w.heap.size w w' := works_shut.calls w
end Go.Proofs.Ytfmiimehobcmaaa
