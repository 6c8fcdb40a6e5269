/- Known calls: divisions of numbers. -/
import Derived.Test.YtelepfablohdmaaGreatDoorP0
set_option linter.unusedSimpArgs false
set_option linter.unusedVariables false
namespace Go.Proofs.YtelepfablohdmaaGreatDoor
open Go.Ev
theorem over_81_2 : Knows Tryz.prog 103 [num [21, 1], int 2] (.tuple #[num [40], int 1]) := knows (memo_nil _) (by kernel_rfl) (by kernel_rfl) (by kernel_rfl) (by kernel_rfl) (by kernel_rfl)
theorem over_81_3 : Knows Tryz.prog 103 [num [21, 1], int 3] (.tuple #[num [27], int 0]) := knows (memo_nil _) (by kernel_rfl) (by kernel_rfl) (by kernel_rfl) (by kernel_rfl) (by kernel_rfl)
theorem over_27_3 : Knows Tryz.prog 103 [num [27], int 3] (.tuple #[num [9], int 0]) := knows (memo_nil _) (by kernel_rfl) (by kernel_rfl) (by kernel_rfl) (by kernel_rfl) (by kernel_rfl)
theorem over_9_3 : Knows Tryz.prog 103 [num [9], int 3] (.tuple #[num [3], int 0]) := knows (memo_nil _) (by kernel_rfl) (by kernel_rfl) (by kernel_rfl) (by kernel_rfl) (by kernel_rfl)
end Go.Proofs.YtelepfablohdmaaGreatDoor
