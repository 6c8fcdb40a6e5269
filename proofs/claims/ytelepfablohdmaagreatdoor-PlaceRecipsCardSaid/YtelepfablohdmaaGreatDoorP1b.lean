/- Known calls: divisions of numbers. -/
import Derived.Test.YtelepfablohdmaaGreatDoorP0
set_option linter.unusedSimpArgs false
set_option linter.unusedVariables false
namespace Go.Proofs.YtelepfablohdmaaGreatDoor
open Go.Ev
theorem over_3_3 : Knows Tryz.prog 103 [num [3], int 3] (.tuple #[num [1], int 0]) := knows (memo_nil _) (by kernel_rfl) (by kernel_rfl) (by kernel_rfl) (by kernel_rfl) (by kernel_rfl)
theorem over_1_3 : Knows Tryz.prog 103 [num [1], int 3] (.tuple #[num [], int 1]) := knows (memo_nil _) (by kernel_rfl) (by kernel_rfl) (by kernel_rfl) (by kernel_rfl) (by kernel_rfl)
theorem over_1_5 : Knows Tryz.prog 103 [num [1], int 5] (.tuple #[num [], int 1]) := knows (memo_nil _) (by kernel_rfl) (by kernel_rfl) (by kernel_rfl) (by kernel_rfl) (by kernel_rfl)
theorem over_7_2 : Knows Tryz.prog 103 [num [7], int 2] (.tuple #[num [3], int 1]) := knows (memo_nil _) (by kernel_rfl) (by kernel_rfl) (by kernel_rfl) (by kernel_rfl) (by kernel_rfl)
end Go.Proofs.YtelepfablohdmaaGreatDoor
