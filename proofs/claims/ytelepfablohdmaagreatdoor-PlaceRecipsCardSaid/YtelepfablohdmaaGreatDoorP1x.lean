/- Known calls: divisions of numbers. -/
import Derived.Test.YtelepfablohdmaaGreatDoorP0
set_option linter.unusedSimpArgs false
set_option linter.unusedVariables false
/- Known calls: divisions of numbers. -/
namespace Go.Proofs.YtelepfablohdmaaGreatDoor
open Go.Ev
theorem over_7_3 : Knows Tryz.prog 103 [num [7], int 3] (.tuple #[num [2], int 1]) := knows (memo_nil _) (by kernel_rfl) (by kernel_rfl) (by kernel_rfl) (by kernel_rfl) (by kernel_rfl)
theorem over_7_5 : Knows Tryz.prog 103 [num [7], int 5] (.tuple #[num [1], int 2]) := knows (memo_nil _) (by kernel_rfl) (by kernel_rfl) (by kernel_rfl) (by kernel_rfl) (by kernel_rfl)
theorem over_8_2 : Knows Tryz.prog 103 [num [8], int 2] (.tuple #[num [4], int 0]) := knows (memo_nil _) (by kernel_rfl) (by kernel_rfl) (by kernel_rfl) (by kernel_rfl) (by kernel_rfl)
end Go.Proofs.YtelepfablohdmaaGreatDoor
namespace Go.Proofs.YtelepfablohdmaaGreatDoor
open Go.Ev
theorem over_4_2 : Knows Tryz.prog 103 [num [4], int 2] (.tuple #[num [2], int 0]) := knows (memo_nil _) (by kernel_rfl) (by kernel_rfl) (by kernel_rfl) (by kernel_rfl) (by kernel_rfl)
theorem over_2_2 : Knows Tryz.prog 103 [num [2], int 2] (.tuple #[num [1], int 0]) := knows (memo_nil _) (by kernel_rfl) (by kernel_rfl) (by kernel_rfl) (by kernel_rfl) (by kernel_rfl)
theorem over_1_2 : Knows Tryz.prog 103 [num [1], int 2] (.tuple #[num [], int 1]) := knows (memo_nil _) (by kernel_rfl) (by kernel_rfl) (by kernel_rfl) (by kernel_rfl) (by kernel_rfl)
end Go.Proofs.YtelepfablohdmaaGreatDoor
