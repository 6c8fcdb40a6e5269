/- The closed example call of the place laws. -/
import Derived.Test.YtelepfablohdmaaGreatDoorP1a
import Derived.Test.YtelepfablohdmaaGreatDoorP1b
import Derived.Test.YtelepfablohdmaaGreatDoorP1x
set_option linter.unusedSimpArgs false
set_option linter.unusedVariables false
namespace Go.Proofs.YtelepfablohdmaaGreatDoor
open Go.Ev
noncomputable def overs : Memo := [
  (103, [num [21, 1], int 2], .tuple #[num [40], int 1]),
  (103, [num [21, 1], int 3], .tuple #[num [27], int 0]),
  (103, [num [27], int 3], .tuple #[num [9], int 0]),
  (103, [num [9], int 3], .tuple #[num [3], int 0]),
  (103, [num [3], int 3], .tuple #[num [1], int 0]),
  (103, [num [1], int 3], .tuple #[num [], int 1]),
  (103, [num [1], int 5], .tuple #[num [], int 1]),
  (103, [num [7], int 2], .tuple #[num [3], int 1]),
  (103, [num [7], int 3], .tuple #[num [2], int 1]),
  (103, [num [7], int 5], .tuple #[num [1], int 2]),
  (103, [num [8], int 2], .tuple #[num [4], int 0]),
  (103, [num [4], int 2], .tuple #[num [2], int 0]),
  (103, [num [2], int 2], .tuple #[num [1], int 0]),
  (103, [num [1], int 2], .tuple #[num [], int 1])]
theorem oversOk : MemoOk Tryz.prog overs :=
  memo_cons over_81_2 <| memo_cons over_81_3 <| memo_cons over_27_3 <| memo_cons over_9_3 <| memo_cons over_3_3 <| memo_cons over_1_3 <| memo_cons over_1_5 <| memo_cons over_7_2 <| memo_cons over_7_3 <| memo_cons over_7_5 <| memo_cons over_8_2 <| memo_cons over_4_2 <| memo_cons over_2_2 <| memo_cons over_1_2 <| memo_nil _
theorem works_shut : Shut Tryz.prog 21 := shutX_of oversOk (by kernel_rfl) pmOk orders noNum (shut_nil _) (by kernel_rfl) (by kernel_rfl) (by kernel_rfl)
end Go.Proofs.YtelepfablohdmaaGreatDoor
