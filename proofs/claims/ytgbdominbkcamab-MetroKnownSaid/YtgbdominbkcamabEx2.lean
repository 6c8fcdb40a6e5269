/- The closed example calls of this seat. -/
import Derived.Test.YtgbdominbkcamabEv27
import Derived.Test.YtgbdominbkcamabRows
namespace Go.Proofs.Ytgbdominbkcamab
open Go.Ev
theorem orders : Try.prog.follows .mixedOrders = true := by kernel_rfl
theorem noNum : NoNum Try.prog := noNum_of (by kernel_rfl)
theorem works_shut : Shut Try.prog 13 := shut_of orders noNum (shut_nil _) (by kernel_rfl) (by kernel_rfl)
end Go.Proofs.Ytgbdominbkcamab
