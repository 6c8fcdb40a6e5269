/- The closed statement of this seat. -/
import Derived.Test.YtgbdominbkcamabEx3
namespace Go.Proofs.Ytgbdominbkcamab
open Go.Ev
theorem shuts : ShutAll Try.prog [13, 32] := shut_cons works_shut (by kernel_rfl) (shut_cons limits_shut (by kernel_rfl) (shut_nil _))
theorem known_shut : Shut Try.prog 8 := shut_of orders noNum shuts (by kernel_rfl) (by kernel_rfl)
end Go.Proofs.Ytgbdominbkcamab
