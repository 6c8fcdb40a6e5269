/- The closed example calls of this seat: the limits. -/
import Derived.Test.YtgbdominbkcamabEx2
namespace Go.Proofs.Ytgbdominbkcamab
open Go.Ev
theorem limits_shut : Shut Try.prog 32 := shut_of orders noNum (shut_nil _) (by kernel_rfl) (by kernel_rfl)
end Go.Proofs.Ytgbdominbkcamab
