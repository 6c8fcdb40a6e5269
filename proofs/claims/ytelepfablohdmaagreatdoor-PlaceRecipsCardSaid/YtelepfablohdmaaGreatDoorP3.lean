/- The factors of steps, as a known list. -/
import Derived.Test.YtelepfablohdmaaGreatDoorP0
import Derived.Test.YtelepfablohdmaaGreatDoorXA
set_option linter.unusedSimpArgs false
set_option linter.unusedVariables false
namespace Go.Proofs.YtelepfablohdmaaGreatDoor
open Go.Ev
noncomputable def facL : KL := ⟨88, [], 1, 29, 29, [int 1, int 2, int 3, int 4, int 5, int 6, int 8, int 9, int 10, int 12, int 15, int 16, int 18, int 20, int 24, int 25, int 27, int 30, int 32, int 36, int 40, int 45, int 48, int 50, int 54, int 64, int 72, int 75, int 80, int 81], 3⟩
theorem fac_known : KnowsL Tryz.prog facL := knowsL_of (K := []) (M := []) (memo_nil _) (by kernel_rfl) pmOk orders noNum (shut_nil _) (by kernel_rfl) (by kernel_rfl) (by kernel_rfl) (by kernel_rfl) (by kernel_rfl)
end Go.Proofs.YtelepfablohdmaaGreatDoor
