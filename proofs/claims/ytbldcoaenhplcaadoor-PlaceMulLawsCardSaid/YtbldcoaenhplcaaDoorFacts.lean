/- Facts about this seat's types. -/
import Derived.Test.YtbldcoaenhplcaaDoorW2
import Derived.Test.YtbldcoaenhplcaaDoorRows
import Derived.KernelRfl
namespace Go.Proofs.YtbldcoaenhplcaaDoor
open Go.Ev
theorem sz1 : szV Tryd.prog 1 = some 1 := by kernel_rfl
theorem zv1 : zeroV Tryd.prog 1 = some (.nilFunc) := by kernel_rfl
theorem ld1 (c : List Value) (off : Nat) : loadV Tryd.prog 1 c off = at? c off := by kernel_rfl
theorem sz2 : szV Tryd.prog 2 = some 1 := by kernel_rfl
theorem zv2 : zeroV Tryd.prog 2 = some (.int .i64 0) := by kernel_rfl
theorem ld2 (c : List Value) (off : Nat) : loadV Tryd.prog 2 c off = at? c off := by kernel_rfl
theorem sz3 : szV Tryd.prog 3 = some 1 := by kernel_rfl
theorem zv3 : zeroV Tryd.prog 3 = some (.int .i64 0) := by kernel_rfl
theorem ld3 (c : List Value) (off : Nat) : loadV Tryd.prog 3 c off = at? c off := by kernel_rfl
theorem sz4 : szV Tryd.prog 4 = some 1 := by kernel_rfl
theorem zv4 : zeroV Tryd.prog 4 = some (.bool false) := by kernel_rfl
theorem ld4 (c : List Value) (off : Nat) : loadV Tryd.prog 4 c off = at? c off := by kernel_rfl
theorem sz5 : szV Tryd.prog 5 = some 1 := by kernel_rfl
theorem zv5 : zeroV Tryd.prog 5 = some (.int .u8 0) := by kernel_rfl
theorem ld5 (c : List Value) (off : Nat) : loadV Tryd.prog 5 c off = at? c off := by kernel_rfl
theorem sz9 : szV Tryd.prog 9 = some 1 := by kernel_rfl
theorem zv9 : zeroV Tryd.prog 9 = some (.string ByteArray.empty) := by kernel_rfl
theorem ld9 (c : List Value) (off : Nat) : loadV Tryd.prog 9 c off = at? c off := by kernel_rfl
theorem sz12 : szV Tryd.prog 12 = some 1 := by kernel_rfl
theorem zv12 : zeroV Tryd.prog 12 = some (.int .u64 0) := by kernel_rfl
theorem ld12 (c : List Value) (off : Nat) : loadV Tryd.prog 12 c off = at? c off := by kernel_rfl
theorem sz13 : szV Tryd.prog 13 = some 2 := by kernel_rfl
theorem zv13 : zeroV Tryd.prog 13 = some (.agg #[.string ByteArray.empty, .int .u64 0]) := by kernel_rfl
theorem ld13 (c : List Value) (off : Nat) : loadV Tryd.prog 13 c off = (cut c off 2).map fun l => .agg l.toArray := by kernel_rfl
theorem fa13_0 : fieldAt Tryd.prog 13 0 = some (0, 1) := by kernel_rfl
theorem fo13_0 : fieldOf Tryd.prog 13 0 = some (0, 9) := by kernel_rfl
theorem fa13_1 : fieldAt Tryd.prog 13 1 = some (1, 1) := by kernel_rfl
theorem fo13_1 : fieldOf Tryd.prog 13 1 = some (1, 12) := by kernel_rfl
theorem sz21 : szV Tryd.prog 21 = some 1 := by kernel_rfl
theorem zv21 : zeroV Tryd.prog 21 = some (.int .i32 0) := by kernel_rfl
theorem ld21 (c : List Value) (off : Nat) : loadV Tryd.prog 21 c off = at? c off := by kernel_rfl
theorem sz22 : szV Tryd.prog 22 = some 1 := by kernel_rfl
theorem zv22 : zeroV Tryd.prog 22 = some (.slice none 0 0) := by kernel_rfl
theorem ld22 (c : List Value) (off : Nat) : loadV Tryd.prog 22 c off = at? c off := by kernel_rfl
theorem es22 : eltOf Tryd.prog 22 = some 1 := by kernel_rfl
theorem sz23 : szV Tryd.prog 23 = some 1 := by kernel_rfl
theorem zv23 : zeroV Tryd.prog 23 = some (.int .i64 0) := by kernel_rfl
theorem ld23 (c : List Value) (off : Nat) : loadV Tryd.prog 23 c off = at? c off := by kernel_rfl
theorem sz25 : szV Tryd.prog 25 = some 1 := by kernel_rfl
theorem zv25 : zeroV Tryd.prog 25 = some (.nilFunc) := by kernel_rfl
theorem ld25 (c : List Value) (off : Nat) : loadV Tryd.prog 25 c off = at? c off := by kernel_rfl
theorem sz27 : szV Tryd.prog 27 = some 1 := by kernel_rfl
theorem zv27 : zeroV Tryd.prog 27 = some (.nilFunc) := by kernel_rfl
theorem ld27 (c : List Value) (off : Nat) : loadV Tryd.prog 27 c off = at? c off := by kernel_rfl
theorem sz28 : szV Tryd.prog 28 = some 1 := by kernel_rfl
theorem zv28 : zeroV Tryd.prog 28 = some (.nilFunc) := by kernel_rfl
theorem ld28 (c : List Value) (off : Nat) : loadV Tryd.prog 28 c off = at? c off := by kernel_rfl
theorem sz29 : szV Tryd.prog 29 = some 1 := by kernel_rfl
theorem zv29 : zeroV Tryd.prog 29 = some (.nilFunc) := by kernel_rfl
theorem ld29 (c : List Value) (off : Nat) : loadV Tryd.prog 29 c off = at? c off := by kernel_rfl
theorem sz30 : szV Tryd.prog 30 = some 1 := by kernel_rfl
theorem zv30 : zeroV Tryd.prog 30 = some (.nilFunc) := by kernel_rfl
theorem ld30 (c : List Value) (off : Nat) : loadV Tryd.prog 30 c off = at? c off := by kernel_rfl
theorem sz31 : szV Tryd.prog 31 = some 1 := by kernel_rfl
theorem zv31 : zeroV Tryd.prog 31 = some (.nilFunc) := by kernel_rfl
theorem ld31 (c : List Value) (off : Nat) : loadV Tryd.prog 31 c off = at? c off := by kernel_rfl
theorem sz32 : szV Tryd.prog 32 = some 2 := by kernel_rfl
theorem zv32 : zeroV Tryd.prog 32 = some (.agg #[.slice none 0 0, .int .i64 0]) := by kernel_rfl
theorem ld32 (c : List Value) (off : Nat) : loadV Tryd.prog 32 c off = (cut c off 2).map fun l => .agg l.toArray := by kernel_rfl
theorem fa32_0 : fieldAt Tryd.prog 32 0 = some (0, 1) := by kernel_rfl
theorem fo32_0 : fieldOf Tryd.prog 32 0 = some (0, 22) := by kernel_rfl
theorem fa32_1 : fieldAt Tryd.prog 32 1 = some (1, 1) := by kernel_rfl
theorem fo32_1 : fieldOf Tryd.prog 32 1 = some (1, 3) := by kernel_rfl
theorem sz33 : szV Tryd.prog 33 = some 2 := by kernel_rfl
theorem zv33 : zeroV Tryd.prog 33 = some (.agg #[.slice none 0 0, .int .i64 0]) := by kernel_rfl
theorem ld33 (c : List Value) (off : Nat) : loadV Tryd.prog 33 c off = (cut c off 2).map fun l => .agg l.toArray := by kernel_rfl
theorem fa33_0 : fieldAt Tryd.prog 33 0 = some (0, 1) := by kernel_rfl
theorem fo33_0 : fieldOf Tryd.prog 33 0 = some (0, 22) := by kernel_rfl
theorem fa33_1 : fieldAt Tryd.prog 33 1 = some (1, 1) := by kernel_rfl
theorem fo33_1 : fieldOf Tryd.prog 33 1 = some (1, 3) := by kernel_rfl
theorem sz35 : szV Tryd.prog 35 = some 1 := by kernel_rfl
theorem zv35 : zeroV Tryd.prog 35 = some (.nilFunc) := by kernel_rfl
theorem ld35 (c : List Value) (off : Nat) : loadV Tryd.prog 35 c off = at? c off := by kernel_rfl
theorem sz37 : szV Tryd.prog 37 = some 1 := by kernel_rfl
theorem zv37 : zeroV Tryd.prog 37 = some (.nilFunc) := by kernel_rfl
theorem ld37 (c : List Value) (off : Nat) : loadV Tryd.prog 37 c off = at? c off := by kernel_rfl
theorem sz38 : szV Tryd.prog 38 = some 1 := by kernel_rfl
theorem zv38 : zeroV Tryd.prog 38 = some (.nilFunc) := by kernel_rfl
theorem ld38 (c : List Value) (off : Nat) : loadV Tryd.prog 38 c off = at? c off := by kernel_rfl
theorem sz39 : szV Tryd.prog 39 = some 1 := by kernel_rfl
theorem zv39 : zeroV Tryd.prog 39 = some (.nilFunc) := by kernel_rfl
theorem ld39 (c : List Value) (off : Nat) : loadV Tryd.prog 39 c off = at? c off := by kernel_rfl
theorem sz40 : szV Tryd.prog 40 = some 1 := by kernel_rfl
theorem zv40 : zeroV Tryd.prog 40 = some (.nilFunc) := by kernel_rfl
theorem ld40 (c : List Value) (off : Nat) : loadV Tryd.prog 40 c off = at? c off := by kernel_rfl
theorem sz41 : szV Tryd.prog 41 = some 1 := by kernel_rfl
theorem zv41 : zeroV Tryd.prog 41 = some (.nilFunc) := by kernel_rfl
theorem ld41 (c : List Value) (off : Nat) : loadV Tryd.prog 41 c off = at? c off := by kernel_rfl
theorem sz42 : szV Tryd.prog 42 = some 1 := by kernel_rfl
theorem zv42 : zeroV Tryd.prog 42 = some (.nilFunc) := by kernel_rfl
theorem ld42 (c : List Value) (off : Nat) : loadV Tryd.prog 42 c off = at? c off := by kernel_rfl
theorem sz43 : szV Tryd.prog 43 = some 1 := by kernel_rfl
theorem zv43 : zeroV Tryd.prog 43 = some (.nilFunc) := by kernel_rfl
theorem ld43 (c : List Value) (off : Nat) : loadV Tryd.prog 43 c off = at? c off := by kernel_rfl
theorem sz45 : szV Tryd.prog 45 = some 1 := by kernel_rfl
theorem zv45 : zeroV Tryd.prog 45 = some (.nilFunc) := by kernel_rfl
theorem ld45 (c : List Value) (off : Nat) : loadV Tryd.prog 45 c off = at? c off := by kernel_rfl
theorem sz46 : szV Tryd.prog 46 = some 1 := by kernel_rfl
theorem zv46 : zeroV Tryd.prog 46 = some (.nilFunc) := by kernel_rfl
theorem ld46 (c : List Value) (off : Nat) : loadV Tryd.prog 46 c off = at? c off := by kernel_rfl
theorem sz47 : szV Tryd.prog 47 = some 1 := by kernel_rfl
theorem zv47 : zeroV Tryd.prog 47 = some (.nilFunc) := by kernel_rfl
theorem ld47 (c : List Value) (off : Nat) : loadV Tryd.prog 47 c off = at? c off := by kernel_rfl
theorem sz49 : szV Tryd.prog 49 = some 1 := by kernel_rfl
theorem zv49 : zeroV Tryd.prog 49 = some (.nilFunc) := by kernel_rfl
theorem ld49 (c : List Value) (off : Nat) : loadV Tryd.prog 49 c off = at? c off := by kernel_rfl
theorem sz50 : szV Tryd.prog 50 = some 1 := by kernel_rfl
theorem zv50 : zeroV Tryd.prog 50 = some (.nilFunc) := by kernel_rfl
theorem ld50 (c : List Value) (off : Nat) : loadV Tryd.prog 50 c off = at? c off := by kernel_rfl
theorem sz51 : szV Tryd.prog 51 = some 3 := by kernel_rfl
theorem zv51 : zeroV Tryd.prog 51 = some (.agg #[.int .i64 0, .int .i64 0, .int .i64 0]) := by kernel_rfl
theorem ld51 (c : List Value) (off : Nat) : loadV Tryd.prog 51 c off = (cut c off 3).map fun l => .agg l.toArray := by kernel_rfl
theorem ar51 : arrOf Tryd.prog 51 = some (3, 1) := by kernel_rfl
theorem sz53 : szV Tryd.prog 53 = some 1 := by kernel_rfl
theorem zv53 : zeroV Tryd.prog 53 = some (.nilFunc) := by kernel_rfl
theorem ld53 (c : List Value) (off : Nat) : loadV Tryd.prog 53 c off = at? c off := by kernel_rfl
theorem sz55 : szV Tryd.prog 55 = some 1 := by kernel_rfl
theorem zv55 : zeroV Tryd.prog 55 = some (.nilFunc) := by kernel_rfl
theorem ld55 (c : List Value) (off : Nat) : loadV Tryd.prog 55 c off = at? c off := by kernel_rfl
theorem sz56 : szV Tryd.prog 56 = some 1 := by kernel_rfl
theorem zv56 : zeroV Tryd.prog 56 = some (.nilFunc) := by kernel_rfl
theorem ld56 (c : List Value) (off : Nat) : loadV Tryd.prog 56 c off = at? c off := by kernel_rfl
theorem sz57 : szV Tryd.prog 57 = some 1 := by kernel_rfl
theorem zv57 : zeroV Tryd.prog 57 = some (.nilFunc) := by kernel_rfl
theorem ld57 (c : List Value) (off : Nat) : loadV Tryd.prog 57 c off = at? c off := by kernel_rfl
theorem sz58 : szV Tryd.prog 58 = some 1 := by kernel_rfl
theorem zv58 : zeroV Tryd.prog 58 = some (.nilFunc) := by kernel_rfl
theorem ld58 (c : List Value) (off : Nat) : loadV Tryd.prog 58 c off = at? c off := by kernel_rfl
theorem sz59 : szV Tryd.prog 59 = some 1 := by kernel_rfl
theorem zv59 : zeroV Tryd.prog 59 = some (.slice none 0 0) := by kernel_rfl
theorem ld59 (c : List Value) (off : Nat) : loadV Tryd.prog 59 c off = at? c off := by kernel_rfl
theorem es59 : eltOf Tryd.prog 59 = some 2 := by kernel_rfl
theorem sz61 : szV Tryd.prog 61 = some 1 := by kernel_rfl
theorem zv61 : zeroV Tryd.prog 61 = some (.nilFunc) := by kernel_rfl
theorem ld61 (c : List Value) (off : Nat) : loadV Tryd.prog 61 c off = at? c off := by kernel_rfl
theorem sz62 : szV Tryd.prog 62 = some 1 := by kernel_rfl
theorem zv62 : zeroV Tryd.prog 62 = some (.nilFunc) := by kernel_rfl
theorem ld62 (c : List Value) (off : Nat) : loadV Tryd.prog 62 c off = at? c off := by kernel_rfl
theorem sz63 : szV Tryd.prog 63 = some 1 := by kernel_rfl
theorem zv63 : zeroV Tryd.prog 63 = some (.slice none 0 0) := by kernel_rfl
theorem ld63 (c : List Value) (off : Nat) : loadV Tryd.prog 63 c off = at? c off := by kernel_rfl
theorem es63 : eltOf Tryd.prog 63 = some 1 := by kernel_rfl
theorem sz65 : szV Tryd.prog 65 = some 1 := by kernel_rfl
theorem zv65 : zeroV Tryd.prog 65 = some (.nilFunc) := by kernel_rfl
theorem ld65 (c : List Value) (off : Nat) : loadV Tryd.prog 65 c off = at? c off := by kernel_rfl
theorem sz66 : szV Tryd.prog 66 = some 2 := by kernel_rfl
theorem zv66 : zeroV Tryd.prog 66 = some (.agg #[.int .i64 0, .int .i64 0]) := by kernel_rfl
theorem ld66 (c : List Value) (off : Nat) : loadV Tryd.prog 66 c off = (cut c off 2).map fun l => .agg l.toArray := by kernel_rfl
theorem ar66 : arrOf Tryd.prog 66 = some (2, 1) := by kernel_rfl
theorem sz67 : szV Tryd.prog 67 = some 2 := by kernel_rfl
theorem zv67 : zeroV Tryd.prog 67 = some (.agg #[.int .i64 0, .int .i64 0]) := by kernel_rfl
theorem ld67 (c : List Value) (off : Nat) : loadV Tryd.prog 67 c off = (cut c off 2).map fun l => .agg l.toArray := by kernel_rfl
theorem fa67_0 : fieldAt Tryd.prog 67 0 = some (0, 1) := by kernel_rfl
theorem fo67_0 : fieldOf Tryd.prog 67 0 = some (0, 3) := by kernel_rfl
theorem fa67_1 : fieldAt Tryd.prog 67 1 = some (1, 1) := by kernel_rfl
theorem fo67_1 : fieldOf Tryd.prog 67 1 = some (1, 3) := by kernel_rfl
theorem sz68 : szV Tryd.prog 68 = some 2 := by kernel_rfl
theorem zv68 : zeroV Tryd.prog 68 = some (.agg #[.int .i64 0, .int .i64 0]) := by kernel_rfl
theorem ld68 (c : List Value) (off : Nat) : loadV Tryd.prog 68 c off = (cut c off 2).map fun l => .agg l.toArray := by kernel_rfl
theorem fa68_0 : fieldAt Tryd.prog 68 0 = some (0, 1) := by kernel_rfl
theorem fo68_0 : fieldOf Tryd.prog 68 0 = some (0, 3) := by kernel_rfl
theorem fa68_1 : fieldAt Tryd.prog 68 1 = some (1, 1) := by kernel_rfl
theorem fo68_1 : fieldOf Tryd.prog 68 1 = some (1, 3) := by kernel_rfl
theorem sz70 : szV Tryd.prog 70 = some 1 := by kernel_rfl
theorem zv70 : zeroV Tryd.prog 70 = some (.nilFunc) := by kernel_rfl
theorem ld70 (c : List Value) (off : Nat) : loadV Tryd.prog 70 c off = at? c off := by kernel_rfl
theorem sz71 : szV Tryd.prog 71 = some 1 := by kernel_rfl
theorem zv71 : zeroV Tryd.prog 71 = some (.nilFunc) := by kernel_rfl
theorem ld71 (c : List Value) (off : Nat) : loadV Tryd.prog 71 c off = at? c off := by kernel_rfl
theorem sz73 : szV Tryd.prog 73 = some 1 := by kernel_rfl
theorem zv73 : zeroV Tryd.prog 73 = some (.nilFunc) := by kernel_rfl
theorem ld73 (c : List Value) (off : Nat) : loadV Tryd.prog 73 c off = at? c off := by kernel_rfl
theorem sz74 : szV Tryd.prog 74 = some 1 := by kernel_rfl
theorem zv74 : zeroV Tryd.prog 74 = some (.nilFunc) := by kernel_rfl
theorem ld74 (c : List Value) (off : Nat) : loadV Tryd.prog 74 c off = at? c off := by kernel_rfl
theorem sz75 : szV Tryd.prog 75 = some 1 := by kernel_rfl
theorem zv75 : zeroV Tryd.prog 75 = some (.nilFunc) := by kernel_rfl
theorem ld75 (c : List Value) (off : Nat) : loadV Tryd.prog 75 c off = at? c off := by kernel_rfl
theorem sz76 : szV Tryd.prog 76 = some 1 := by kernel_rfl
theorem zv76 : zeroV Tryd.prog 76 = some (.nilFunc) := by kernel_rfl
theorem ld76 (c : List Value) (off : Nat) : loadV Tryd.prog 76 c off = at? c off := by kernel_rfl
theorem sz77 : szV Tryd.prog 77 = some 1 := by kernel_rfl
theorem zv77 : zeroV Tryd.prog 77 = some (.nilFunc) := by kernel_rfl
theorem ld77 (c : List Value) (off : Nat) : loadV Tryd.prog 77 c off = at? c off := by kernel_rfl
theorem sz78 : szV Tryd.prog 78 = some 2 := by kernel_rfl
theorem zv78 : zeroV Tryd.prog 78 = some (.agg #[.int .i64 0, .int .i64 0]) := by kernel_rfl
theorem ld78 (c : List Value) (off : Nat) : loadV Tryd.prog 78 c off = (cut c off 2).map fun l => .agg l.toArray := by kernel_rfl
theorem fa78_0 : fieldAt Tryd.prog 78 0 = some (0, 1) := by kernel_rfl
theorem fo78_0 : fieldOf Tryd.prog 78 0 = some (0, 23) := by kernel_rfl
theorem fa78_1 : fieldAt Tryd.prog 78 1 = some (1, 1) := by kernel_rfl
theorem fo78_1 : fieldOf Tryd.prog 78 1 = some (1, 3) := by kernel_rfl
theorem sz79 : szV Tryd.prog 79 = some 2 := by kernel_rfl
theorem zv79 : zeroV Tryd.prog 79 = some (.agg #[.int .i64 0, .int .i64 0]) := by kernel_rfl
theorem ld79 (c : List Value) (off : Nat) : loadV Tryd.prog 79 c off = (cut c off 2).map fun l => .agg l.toArray := by kernel_rfl
theorem fa79_0 : fieldAt Tryd.prog 79 0 = some (0, 1) := by kernel_rfl
theorem fo79_0 : fieldOf Tryd.prog 79 0 = some (0, 23) := by kernel_rfl
theorem fa79_1 : fieldAt Tryd.prog 79 1 = some (1, 1) := by kernel_rfl
theorem fo79_1 : fieldOf Tryd.prog 79 1 = some (1, 3) := by kernel_rfl
theorem sz80 : szV Tryd.prog 80 = some 1 := by kernel_rfl
theorem zv80 : zeroV Tryd.prog 80 = some (.nilFunc) := by kernel_rfl
theorem ld80 (c : List Value) (off : Nat) : loadV Tryd.prog 80 c off = at? c off := by kernel_rfl
theorem sz81 : szV Tryd.prog 81 = some 1 := by kernel_rfl
theorem zv81 : zeroV Tryd.prog 81 = some (.nilFunc) := by kernel_rfl
theorem ld81 (c : List Value) (off : Nat) : loadV Tryd.prog 81 c off = at? c off := by kernel_rfl
theorem sz82 : szV Tryd.prog 82 = some 1 := by kernel_rfl
theorem zv82 : zeroV Tryd.prog 82 = some (.slice none 0 0) := by kernel_rfl
theorem ld82 (c : List Value) (off : Nat) : loadV Tryd.prog 82 c off = at? c off := by kernel_rfl
theorem es82 : eltOf Tryd.prog 82 = some 2 := by kernel_rfl
theorem sz83 : szV Tryd.prog 83 = some 1 := by kernel_rfl
theorem zv83 : zeroV Tryd.prog 83 = some (.nilFunc) := by kernel_rfl
theorem ld83 (c : List Value) (off : Nat) : loadV Tryd.prog 83 c off = at? c off := by kernel_rfl
theorem sz85 : szV Tryd.prog 85 = some 1 := by kernel_rfl
theorem zv85 : zeroV Tryd.prog 85 = some (.nilFunc) := by kernel_rfl
theorem ld85 (c : List Value) (off : Nat) : loadV Tryd.prog 85 c off = at? c off := by kernel_rfl
theorem sz86 : szV Tryd.prog 86 = some 2 := by kernel_rfl
theorem zv86 : zeroV Tryd.prog 86 = some (.agg #[.string ByteArray.empty, .int .i64 0]) := by kernel_rfl
theorem ld86 (c : List Value) (off : Nat) : loadV Tryd.prog 86 c off = (cut c off 2).map fun l => .agg l.toArray := by kernel_rfl
theorem fa86_0 : fieldAt Tryd.prog 86 0 = some (0, 1) := by kernel_rfl
theorem fo86_0 : fieldOf Tryd.prog 86 0 = some (0, 9) := by kernel_rfl
theorem fa86_1 : fieldAt Tryd.prog 86 1 = some (1, 1) := by kernel_rfl
theorem fo86_1 : fieldOf Tryd.prog 86 1 = some (1, 3) := by kernel_rfl
theorem sz87 : szV Tryd.prog 87 = some 2 := by kernel_rfl
theorem zv87 : zeroV Tryd.prog 87 = some (.agg #[.string ByteArray.empty, .int .i64 0]) := by kernel_rfl
theorem ld87 (c : List Value) (off : Nat) : loadV Tryd.prog 87 c off = (cut c off 2).map fun l => .agg l.toArray := by kernel_rfl
theorem fa87_0 : fieldAt Tryd.prog 87 0 = some (0, 1) := by kernel_rfl
theorem fo87_0 : fieldOf Tryd.prog 87 0 = some (0, 9) := by kernel_rfl
theorem fa87_1 : fieldAt Tryd.prog 87 1 = some (1, 1) := by kernel_rfl
theorem fo87_1 : fieldOf Tryd.prog 87 1 = some (1, 3) := by kernel_rfl
theorem sz88 : szV Tryd.prog 88 = some 1 := by kernel_rfl
theorem zv88 : zeroV Tryd.prog 88 = some (.nilFunc) := by kernel_rfl
theorem ld88 (c : List Value) (off : Nat) : loadV Tryd.prog 88 c off = at? c off := by kernel_rfl
theorem sz89 : szV Tryd.prog 89 = some 146 := by kernel_rfl
theorem ld89 (c : List Value) (off : Nat) : loadV Tryd.prog 89 c off = (cut c off 146).map fun l => .agg l.toArray := by kernel_rfl
theorem ar89 : arrOf Tryd.prog 89 = some (146, 1) := by kernel_rfl
theorem sz90 : szV Tryd.prog 90 = some 146 := by kernel_rfl
theorem ld90 (c : List Value) (off : Nat) : loadV Tryd.prog 90 c off = (cut c off 146).map fun l => .agg l.toArray := by kernel_rfl
theorem fa90_0 : fieldAt Tryd.prog 90 0 = some (0, 146) := by kernel_rfl
theorem fo90_0 : fieldOf Tryd.prog 90 0 = some (0, 89) := by kernel_rfl
theorem sz91 : szV Tryd.prog 91 = some 146 := by kernel_rfl
theorem ld91 (c : List Value) (off : Nat) : loadV Tryd.prog 91 c off = (cut c off 146).map fun l => .agg l.toArray := by kernel_rfl
theorem fa91_0 : fieldAt Tryd.prog 91 0 = some (0, 146) := by kernel_rfl
theorem fo91_0 : fieldOf Tryd.prog 91 0 = some (0, 89) := by kernel_rfl
theorem sz92 : szV Tryd.prog 92 = some 1 := by kernel_rfl
theorem zv92 : zeroV Tryd.prog 92 = some (.nilFunc) := by kernel_rfl
theorem ld92 (c : List Value) (off : Nat) : loadV Tryd.prog 92 c off = at? c off := by kernel_rfl
theorem sz93 : szV Tryd.prog 93 = some 1 := by kernel_rfl
theorem zv93 : zeroV Tryd.prog 93 = some (.nilFunc) := by kernel_rfl
theorem ld93 (c : List Value) (off : Nat) : loadV Tryd.prog 93 c off = at? c off := by kernel_rfl
theorem sz95 : szV Tryd.prog 95 = some 1 := by kernel_rfl
theorem zv95 : zeroV Tryd.prog 95 = some (.nilFunc) := by kernel_rfl
theorem ld95 (c : List Value) (off : Nat) : loadV Tryd.prog 95 c off = at? c off := by kernel_rfl
theorem sz96 : szV Tryd.prog 96 = some 1 := by kernel_rfl
theorem zv96 : zeroV Tryd.prog 96 = some (.nilFunc) := by kernel_rfl
theorem ld96 (c : List Value) (off : Nat) : loadV Tryd.prog 96 c off = at? c off := by kernel_rfl
theorem sz97 : szV Tryd.prog 97 = some 1 := by kernel_rfl
theorem zv97 : zeroV Tryd.prog 97 = some (.nilFunc) := by kernel_rfl
theorem ld97 (c : List Value) (off : Nat) : loadV Tryd.prog 97 c off = at? c off := by kernel_rfl
theorem sz98 : szV Tryd.prog 98 = some 1 := by kernel_rfl
theorem zv98 : zeroV Tryd.prog 98 = some (.nilFunc) := by kernel_rfl
theorem ld98 (c : List Value) (off : Nat) : loadV Tryd.prog 98 c off = at? c off := by kernel_rfl
theorem sz99 : szV Tryd.prog 99 = some 1 := by kernel_rfl
theorem zv99 : zeroV Tryd.prog 99 = some (.nilFunc) := by kernel_rfl
theorem ld99 (c : List Value) (off : Nat) : loadV Tryd.prog 99 c off = at? c off := by kernel_rfl
theorem sz100 : szV Tryd.prog 100 = some 1 := by kernel_rfl
theorem zv100 : zeroV Tryd.prog 100 = some (.nilFunc) := by kernel_rfl
theorem ld100 (c : List Value) (off : Nat) : loadV Tryd.prog 100 c off = at? c off := by kernel_rfl
theorem sz101 : szV Tryd.prog 101 = some 1 := by kernel_rfl
theorem zv101 : zeroV Tryd.prog 101 = some (.nilFunc) := by kernel_rfl
theorem ld101 (c : List Value) (off : Nat) : loadV Tryd.prog 101 c off = at? c off := by kernel_rfl
theorem sz102 : szV Tryd.prog 102 = some 1 := by kernel_rfl
theorem zv102 : zeroV Tryd.prog 102 = some (.nilFunc) := by kernel_rfl
theorem ld102 (c : List Value) (off : Nat) : loadV Tryd.prog 102 c off = at? c off := by kernel_rfl
theorem sz103 : szV Tryd.prog 103 = some 1 := by kernel_rfl
theorem zv103 : zeroV Tryd.prog 103 = some (.nilFunc) := by kernel_rfl
theorem ld103 (c : List Value) (off : Nat) : loadV Tryd.prog 103 c off = at? c off := by kernel_rfl
theorem sz104 : szV Tryd.prog 104 = some 1 := by kernel_rfl
theorem zv104 : zeroV Tryd.prog 104 = some (.nilFunc) := by kernel_rfl
theorem ld104 (c : List Value) (off : Nat) : loadV Tryd.prog 104 c off = at? c off := by kernel_rfl
theorem sz106 : szV Tryd.prog 106 = some 1 := by kernel_rfl
theorem zv106 : zeroV Tryd.prog 106 = some (.nilFunc) := by kernel_rfl
theorem ld106 (c : List Value) (off : Nat) : loadV Tryd.prog 106 c off = at? c off := by kernel_rfl
theorem sz107 : szV Tryd.prog 107 = some 1 := by kernel_rfl
theorem zv107 : zeroV Tryd.prog 107 = some (.nilFunc) := by kernel_rfl
theorem ld107 (c : List Value) (off : Nat) : loadV Tryd.prog 107 c off = at? c off := by kernel_rfl
theorem sz108 : szV Tryd.prog 108 = some 1 := by kernel_rfl
theorem zv108 : zeroV Tryd.prog 108 = some (.nilFunc) := by kernel_rfl
theorem ld108 (c : List Value) (off : Nat) : loadV Tryd.prog 108 c off = at? c off := by kernel_rfl
theorem sz109 : szV Tryd.prog 109 = some 1 := by kernel_rfl
theorem zv109 : zeroV Tryd.prog 109 = some (.nilFunc) := by kernel_rfl
theorem ld109 (c : List Value) (off : Nat) : loadV Tryd.prog 109 c off = at? c off := by kernel_rfl
theorem sz110 : szV Tryd.prog 110 = some 1 := by kernel_rfl
theorem zv110 : zeroV Tryd.prog 110 = some (.slice none 0 0) := by kernel_rfl
theorem ld110 (c : List Value) (off : Nat) : loadV Tryd.prog 110 c off = at? c off := by kernel_rfl
theorem es110 : eltOf Tryd.prog 110 = some 1 := by kernel_rfl
theorem sz111 : szV Tryd.prog 111 = some 1 := by kernel_rfl
theorem zv111 : zeroV Tryd.prog 111 = some (.nilFunc) := by kernel_rfl
theorem ld111 (c : List Value) (off : Nat) : loadV Tryd.prog 111 c off = at? c off := by kernel_rfl
theorem sz112 : szV Tryd.prog 112 = some 1 := by kernel_rfl
theorem zv112 : zeroV Tryd.prog 112 = some (.nilFunc) := by kernel_rfl
theorem ld112 (c : List Value) (off : Nat) : loadV Tryd.prog 112 c off = at? c off := by kernel_rfl
theorem sz113 : szV Tryd.prog 113 = some 1 := by kernel_rfl
theorem zv113 : zeroV Tryd.prog 113 = some (.nilFunc) := by kernel_rfl
theorem ld113 (c : List Value) (off : Nat) : loadV Tryd.prog 113 c off = at? c off := by kernel_rfl
theorem sz115 : szV Tryd.prog 115 = some 1 := by kernel_rfl
theorem zv115 : zeroV Tryd.prog 115 = some (.nilFunc) := by kernel_rfl
theorem ld115 (c : List Value) (off : Nat) : loadV Tryd.prog 115 c off = at? c off := by kernel_rfl
theorem sz116 : szV Tryd.prog 116 = some 1 := by kernel_rfl
theorem zv116 : zeroV Tryd.prog 116 = some (.nilFunc) := by kernel_rfl
theorem ld116 (c : List Value) (off : Nat) : loadV Tryd.prog 116 c off = at? c off := by kernel_rfl
theorem sz118 : szV Tryd.prog 118 = some 1 := by kernel_rfl
theorem zv118 : zeroV Tryd.prog 118 = some (.nilFunc) := by kernel_rfl
theorem ld118 (c : List Value) (off : Nat) : loadV Tryd.prog 118 c off = at? c off := by kernel_rfl
theorem sz119 : szV Tryd.prog 119 = some 1 := by kernel_rfl
theorem zv119 : zeroV Tryd.prog 119 = some (.nilFunc) := by kernel_rfl
theorem ld119 (c : List Value) (off : Nat) : loadV Tryd.prog 119 c off = at? c off := by kernel_rfl
theorem sz120 : szV Tryd.prog 120 = some 1 := by kernel_rfl
theorem zv120 : zeroV Tryd.prog 120 = some (.nilFunc) := by kernel_rfl
theorem ld120 (c : List Value) (off : Nat) : loadV Tryd.prog 120 c off = at? c off := by kernel_rfl
theorem sz121 : szV Tryd.prog 121 = some 1 := by kernel_rfl
theorem zv121 : zeroV Tryd.prog 121 = some (.nilFunc) := by kernel_rfl
theorem ld121 (c : List Value) (off : Nat) : loadV Tryd.prog 121 c off = at? c off := by kernel_rfl
theorem sz122 : szV Tryd.prog 122 = some 1 := by kernel_rfl
theorem zv122 : zeroV Tryd.prog 122 = some (.nilFunc) := by kernel_rfl
theorem ld122 (c : List Value) (off : Nat) : loadV Tryd.prog 122 c off = at? c off := by kernel_rfl
theorem sz123 : szV Tryd.prog 123 = some 1 := by kernel_rfl
theorem zv123 : zeroV Tryd.prog 123 = some (.nilFunc) := by kernel_rfl
theorem ld123 (c : List Value) (off : Nat) : loadV Tryd.prog 123 c off = at? c off := by kernel_rfl
theorem sz124 : szV Tryd.prog 124 = some 1 := by kernel_rfl
theorem zv124 : zeroV Tryd.prog 124 = some (.nilFunc) := by kernel_rfl
theorem ld124 (c : List Value) (off : Nat) : loadV Tryd.prog 124 c off = at? c off := by kernel_rfl
theorem sz125 : szV Tryd.prog 125 = some 1 := by kernel_rfl
theorem zv125 : zeroV Tryd.prog 125 = some (.nilFunc) := by kernel_rfl
theorem ld125 (c : List Value) (off : Nat) : loadV Tryd.prog 125 c off = at? c off := by kernel_rfl
theorem sz127 : szV Tryd.prog 127 = some 1 := by kernel_rfl
theorem zv127 : zeroV Tryd.prog 127 = some (.nilFunc) := by kernel_rfl
theorem ld127 (c : List Value) (off : Nat) : loadV Tryd.prog 127 c off = at? c off := by kernel_rfl
theorem sz128 : szV Tryd.prog 128 = some 1 := by kernel_rfl
theorem zv128 : zeroV Tryd.prog 128 = some (.nilFunc) := by kernel_rfl
theorem ld128 (c : List Value) (off : Nat) : loadV Tryd.prog 128 c off = at? c off := by kernel_rfl
theorem sz129 : szV Tryd.prog 129 = some 1 := by kernel_rfl
theorem zv129 : zeroV Tryd.prog 129 = some (.nilFunc) := by kernel_rfl
theorem ld129 (c : List Value) (off : Nat) : loadV Tryd.prog 129 c off = at? c off := by kernel_rfl
theorem sz130 : szV Tryd.prog 130 = some 1 := by kernel_rfl
theorem zv130 : zeroV Tryd.prog 130 = some (.nilFunc) := by kernel_rfl
theorem ld130 (c : List Value) (off : Nat) : loadV Tryd.prog 130 c off = at? c off := by kernel_rfl
theorem sz131 : szV Tryd.prog 131 = some 1 := by kernel_rfl
theorem zv131 : zeroV Tryd.prog 131 = some (.slice none 0 0) := by kernel_rfl
theorem ld131 (c : List Value) (off : Nat) : loadV Tryd.prog 131 c off = at? c off := by kernel_rfl
theorem es131 : eltOf Tryd.prog 131 = some 1 := by kernel_rfl
theorem sz132 : szV Tryd.prog 132 = some 1 := by kernel_rfl
theorem zv132 : zeroV Tryd.prog 132 = some (.nilFunc) := by kernel_rfl
theorem ld132 (c : List Value) (off : Nat) : loadV Tryd.prog 132 c off = at? c off := by kernel_rfl
theorem sz133 : szV Tryd.prog 133 = some 1 := by kernel_rfl
theorem zv133 : zeroV Tryd.prog 133 = some (.nilFunc) := by kernel_rfl
theorem ld133 (c : List Value) (off : Nat) : loadV Tryd.prog 133 c off = at? c off := by kernel_rfl
theorem sz134 : szV Tryd.prog 134 = some 1 := by kernel_rfl
theorem zv134 : zeroV Tryd.prog 134 = some (.nilFunc) := by kernel_rfl
theorem ld134 (c : List Value) (off : Nat) : loadV Tryd.prog 134 c off = at? c off := by kernel_rfl
theorem sz137 : szV Tryd.prog 137 = some 1 := by kernel_rfl
theorem zv137 : zeroV Tryd.prog 137 = some (.nilFunc) := by kernel_rfl
theorem ld137 (c : List Value) (off : Nat) : loadV Tryd.prog 137 c off = at? c off := by kernel_rfl
theorem sz138 : szV Tryd.prog 138 = some 1 := by kernel_rfl
theorem zv138 : zeroV Tryd.prog 138 = some (.nilFunc) := by kernel_rfl
theorem ld138 (c : List Value) (off : Nat) : loadV Tryd.prog 138 c off = at? c off := by kernel_rfl
theorem sz139 : szV Tryd.prog 139 = some 1 := by kernel_rfl
theorem zv139 : zeroV Tryd.prog 139 = some (.nilFunc) := by kernel_rfl
theorem ld139 (c : List Value) (off : Nat) : loadV Tryd.prog 139 c off = at? c off := by kernel_rfl
theorem sz140 : szV Tryd.prog 140 = some 1 := by kernel_rfl
theorem zv140 : zeroV Tryd.prog 140 = some (.slice none 0 0) := by kernel_rfl
theorem ld140 (c : List Value) (off : Nat) : loadV Tryd.prog 140 c off = at? c off := by kernel_rfl
theorem es140 : eltOf Tryd.prog 140 = some 1 := by kernel_rfl
theorem sz141 : szV Tryd.prog 141 = some 1 := by kernel_rfl
theorem zv141 : zeroV Tryd.prog 141 = some (.nilFunc) := by kernel_rfl
theorem ld141 (c : List Value) (off : Nat) : loadV Tryd.prog 141 c off = at? c off := by kernel_rfl
theorem sz142 : szV Tryd.prog 142 = some 1 := by kernel_rfl
theorem zv142 : zeroV Tryd.prog 142 = some (.nilFunc) := by kernel_rfl
theorem ld142 (c : List Value) (off : Nat) : loadV Tryd.prog 142 c off = at? c off := by kernel_rfl
theorem sz143 : szV Tryd.prog 143 = some 1 := by kernel_rfl
theorem zv143 : zeroV Tryd.prog 143 = some (.nilFunc) := by kernel_rfl
theorem ld143 (c : List Value) (off : Nat) : loadV Tryd.prog 143 c off = at? c off := by kernel_rfl
theorem sz144 : szV Tryd.prog 144 = some 1 := by kernel_rfl
theorem zv144 : zeroV Tryd.prog 144 = some (.nilFunc) := by kernel_rfl
theorem ld144 (c : List Value) (off : Nat) : loadV Tryd.prog 144 c off = at? c off := by kernel_rfl
theorem sz145 : szV Tryd.prog 145 = some 1 := by kernel_rfl
theorem zv145 : zeroV Tryd.prog 145 = some (.nilFunc) := by kernel_rfl
theorem ld145 (c : List Value) (off : Nat) : loadV Tryd.prog 145 c off = at? c off := by kernel_rfl
theorem sz146 : szV Tryd.prog 146 = some 1 := by kernel_rfl
theorem zv146 : zeroV Tryd.prog 146 = some (.int .u64 0) := by kernel_rfl
theorem ld146 (c : List Value) (off : Nat) : loadV Tryd.prog 146 c off = at? c off := by kernel_rfl
theorem sz147 : szV Tryd.prog 147 = some 1 := by kernel_rfl
theorem zv147 : zeroV Tryd.prog 147 = some (.nilFunc) := by kernel_rfl
theorem ld147 (c : List Value) (off : Nat) : loadV Tryd.prog 147 c off = at? c off := by kernel_rfl
theorem sz148 : szV Tryd.prog 148 = some 1 := by kernel_rfl
theorem zv148 : zeroV Tryd.prog 148 = some (.pointer none) := by kernel_rfl
theorem ld148 (c : List Value) (off : Nat) : loadV Tryd.prog 148 c off = at? c off := by kernel_rfl
theorem sz149 : szV Tryd.prog 149 = some 2 := by kernel_rfl
theorem zv149 : zeroV Tryd.prog 149 = some (.agg #[.pointer none, .slice none 0 0]) := by kernel_rfl
theorem ld149 (c : List Value) (off : Nat) : loadV Tryd.prog 149 c off = (cut c off 2).map fun l => .agg l.toArray := by kernel_rfl
theorem fa149_0 : fieldAt Tryd.prog 149 0 = some (0, 1) := by kernel_rfl
theorem fo149_0 : fieldOf Tryd.prog 149 0 = some (0, 148) := by kernel_rfl
theorem fa149_1 : fieldAt Tryd.prog 149 1 = some (1, 1) := by kernel_rfl
theorem fo149_1 : fieldOf Tryd.prog 149 1 = some (1, 131) := by kernel_rfl
theorem sz150 : szV Tryd.prog 150 = some 2 := by kernel_rfl
theorem zv150 : zeroV Tryd.prog 150 = some (.agg #[.pointer none, .slice none 0 0]) := by kernel_rfl
theorem ld150 (c : List Value) (off : Nat) : loadV Tryd.prog 150 c off = (cut c off 2).map fun l => .agg l.toArray := by kernel_rfl
theorem fa150_0 : fieldAt Tryd.prog 150 0 = some (0, 1) := by kernel_rfl
theorem fo150_0 : fieldOf Tryd.prog 150 0 = some (0, 148) := by kernel_rfl
theorem fa150_1 : fieldAt Tryd.prog 150 1 = some (1, 1) := by kernel_rfl
theorem fo150_1 : fieldOf Tryd.prog 150 1 = some (1, 131) := by kernel_rfl
theorem sz151 : szV Tryd.prog 151 = some 1 := by kernel_rfl
theorem zv151 : zeroV Tryd.prog 151 = some (.nilFunc) := by kernel_rfl
theorem ld151 (c : List Value) (off : Nat) : loadV Tryd.prog 151 c off = at? c off := by kernel_rfl
theorem sz153 : szV Tryd.prog 153 = some 1 := by kernel_rfl
theorem zv153 : zeroV Tryd.prog 153 = some (.nilIface) := by kernel_rfl
theorem ld153 (c : List Value) (off : Nat) : loadV Tryd.prog 153 c off = at? c off := by kernel_rfl
theorem sz155 : szV Tryd.prog 155 = some 1 := by kernel_rfl
theorem zv155 : zeroV Tryd.prog 155 = some (.nilFunc) := by kernel_rfl
theorem ld155 (c : List Value) (off : Nat) : loadV Tryd.prog 155 c off = at? c off := by kernel_rfl
theorem sz156 : szV Tryd.prog 156 = some 1 := by kernel_rfl
theorem zv156 : zeroV Tryd.prog 156 = some (.nilFunc) := by kernel_rfl
theorem ld156 (c : List Value) (off : Nat) : loadV Tryd.prog 156 c off = at? c off := by kernel_rfl
theorem sz157 : szV Tryd.prog 157 = some 1 := by kernel_rfl
theorem zv157 : zeroV Tryd.prog 157 = some (.nilFunc) := by kernel_rfl
theorem ld157 (c : List Value) (off : Nat) : loadV Tryd.prog 157 c off = at? c off := by kernel_rfl
theorem sz158 : szV Tryd.prog 158 = some 1 := by kernel_rfl
theorem zv158 : zeroV Tryd.prog 158 = some (.nilFunc) := by kernel_rfl
theorem ld158 (c : List Value) (off : Nat) : loadV Tryd.prog 158 c off = at? c off := by kernel_rfl
theorem sz159 : szV Tryd.prog 159 = some 1 := by kernel_rfl
theorem zv159 : zeroV Tryd.prog 159 = some (.int .u64 0) := by kernel_rfl
theorem ld159 (c : List Value) (off : Nat) : loadV Tryd.prog 159 c off = at? c off := by kernel_rfl
theorem sz160 : szV Tryd.prog 160 = some 1 := by kernel_rfl
theorem zv160 : zeroV Tryd.prog 160 = some (.nilFunc) := by kernel_rfl
theorem ld160 (c : List Value) (off : Nat) : loadV Tryd.prog 160 c off = at? c off := by kernel_rfl
theorem sz161 : szV Tryd.prog 161 = some 1 := by kernel_rfl
theorem zv161 : zeroV Tryd.prog 161 = some (.nilFunc) := by kernel_rfl
theorem ld161 (c : List Value) (off : Nat) : loadV Tryd.prog 161 c off = at? c off := by kernel_rfl
theorem sz162 : szV Tryd.prog 162 = some 1 := by kernel_rfl
theorem zv162 : zeroV Tryd.prog 162 = some (.nilFunc) := by kernel_rfl
theorem ld162 (c : List Value) (off : Nat) : loadV Tryd.prog 162 c off = at? c off := by kernel_rfl
theorem sz163 : szV Tryd.prog 163 = some 1 := by kernel_rfl
theorem zv163 : zeroV Tryd.prog 163 = some (.nilFunc) := by kernel_rfl
theorem ld163 (c : List Value) (off : Nat) : loadV Tryd.prog 163 c off = at? c off := by kernel_rfl
theorem sz164 : szV Tryd.prog 164 = some 1 := by kernel_rfl
theorem zv164 : zeroV Tryd.prog 164 = some (.nilFunc) := by kernel_rfl
theorem ld164 (c : List Value) (off : Nat) : loadV Tryd.prog 164 c off = at? c off := by kernel_rfl
theorem sz165 : szV Tryd.prog 165 = some 1 := by kernel_rfl
theorem zv165 : zeroV Tryd.prog 165 = some (.pointer none) := by kernel_rfl
theorem ld165 (c : List Value) (off : Nat) : loadV Tryd.prog 165 c off = at? c off := by kernel_rfl
theorem sz166 : szV Tryd.prog 166 = some 1 := by kernel_rfl
theorem zv166 : zeroV Tryd.prog 166 = some (.nilFunc) := by kernel_rfl
theorem ld166 (c : List Value) (off : Nat) : loadV Tryd.prog 166 c off = at? c off := by kernel_rfl
theorem sz167 : szV Tryd.prog 167 = some 1 := by kernel_rfl
theorem zv167 : zeroV Tryd.prog 167 = some (.nilFunc) := by kernel_rfl
theorem ld167 (c : List Value) (off : Nat) : loadV Tryd.prog 167 c off = at? c off := by kernel_rfl
theorem sz168 : szV Tryd.prog 168 = some 1 := by kernel_rfl
theorem zv168 : zeroV Tryd.prog 168 = some (.nilFunc) := by kernel_rfl
theorem ld168 (c : List Value) (off : Nat) : loadV Tryd.prog 168 c off = at? c off := by kernel_rfl
theorem sz169 : szV Tryd.prog 169 = some 24 := by kernel_rfl
theorem zv169 : zeroV Tryd.prog 169 = some (.agg #[.int .u8 0, .int .u8 0, .int .u8 0, .int .u8 0, .int .u8 0, .int .u8 0, .int .u8 0, .int .u8 0, .int .u8 0, .int .u8 0, .int .u8 0, .int .u8 0, .int .u8 0, .int .u8 0, .int .u8 0, .int .u8 0, .int .u8 0, .int .u8 0, .int .u8 0, .int .u8 0, .int .u8 0, .int .u8 0, .int .u8 0, .int .u8 0]) := by kernel_rfl
theorem ld169 (c : List Value) (off : Nat) : loadV Tryd.prog 169 c off = (cut c off 24).map fun l => .agg l.toArray := by kernel_rfl
theorem ar169 : arrOf Tryd.prog 169 = some (24, 1) := by kernel_rfl
theorem sz170 : szV Tryd.prog 170 = some 1 := by kernel_rfl
theorem zv170 : zeroV Tryd.prog 170 = some (.nilFunc) := by kernel_rfl
theorem ld170 (c : List Value) (off : Nat) : loadV Tryd.prog 170 c off = at? c off := by kernel_rfl
theorem sz171 : szV Tryd.prog 171 = some 1 := by kernel_rfl
theorem zv171 : zeroV Tryd.prog 171 = some (.nilFunc) := by kernel_rfl
theorem ld171 (c : List Value) (off : Nat) : loadV Tryd.prog 171 c off = at? c off := by kernel_rfl
theorem sz173 : szV Tryd.prog 173 = some 1 := by kernel_rfl
theorem zv173 : zeroV Tryd.prog 173 = some (.nilFunc) := by kernel_rfl
theorem ld173 (c : List Value) (off : Nat) : loadV Tryd.prog 173 c off = at? c off := by kernel_rfl
theorem sz174 : szV Tryd.prog 174 = some 1 := by kernel_rfl
theorem zv174 : zeroV Tryd.prog 174 = some (.pointer none) := by kernel_rfl
theorem ld174 (c : List Value) (off : Nat) : loadV Tryd.prog 174 c off = at? c off := by kernel_rfl
theorem sz175 : szV Tryd.prog 175 = some 1 := by kernel_rfl
theorem zv175 : zeroV Tryd.prog 175 = some (.nilFunc) := by kernel_rfl
theorem ld175 (c : List Value) (off : Nat) : loadV Tryd.prog 175 c off = at? c off := by kernel_rfl
theorem sz176 : szV Tryd.prog 176 = some 1 := by kernel_rfl
theorem zv176 : zeroV Tryd.prog 176 = some (.nilFunc) := by kernel_rfl
theorem ld176 (c : List Value) (off : Nat) : loadV Tryd.prog 176 c off = at? c off := by kernel_rfl
theorem sz177 : szV Tryd.prog 177 = some 1 := by kernel_rfl
theorem zv177 : zeroV Tryd.prog 177 = some (.nilFunc) := by kernel_rfl
theorem ld177 (c : List Value) (off : Nat) : loadV Tryd.prog 177 c off = at? c off := by kernel_rfl
theorem sz180 : szV Tryd.prog 180 = some 1 := by kernel_rfl
theorem zv180 : zeroV Tryd.prog 180 = some (.nilFunc) := by kernel_rfl
theorem ld180 (c : List Value) (off : Nat) : loadV Tryd.prog 180 c off = at? c off := by kernel_rfl
theorem sz181 : szV Tryd.prog 181 = some 1 := by kernel_rfl
theorem zv181 : zeroV Tryd.prog 181 = some (.pointer none) := by kernel_rfl
theorem ld181 (c : List Value) (off : Nat) : loadV Tryd.prog 181 c off = at? c off := by kernel_rfl
theorem sz182 : szV Tryd.prog 182 = some 1 := by kernel_rfl
theorem zv182 : zeroV Tryd.prog 182 = some (.nilFunc) := by kernel_rfl
theorem ld182 (c : List Value) (off : Nat) : loadV Tryd.prog 182 c off = at? c off := by kernel_rfl
theorem sz183 : szV Tryd.prog 183 = some 1 := by kernel_rfl
theorem zv183 : zeroV Tryd.prog 183 = some (.nilFunc) := by kernel_rfl
theorem ld183 (c : List Value) (off : Nat) : loadV Tryd.prog 183 c off = at? c off := by kernel_rfl
theorem sz184 : szV Tryd.prog 184 = some 1 := by kernel_rfl
theorem zv184 : zeroV Tryd.prog 184 = some (.nilFunc) := by kernel_rfl
theorem ld184 (c : List Value) (off : Nat) : loadV Tryd.prog 184 c off = at? c off := by kernel_rfl
theorem sz185 : szV Tryd.prog 185 = some 20 := by kernel_rfl
theorem zv185 : zeroV Tryd.prog 185 = some (.agg #[.int .u64 0, .int .u64 0, .int .u64 0, .int .u64 0, .int .u64 0, .int .u64 0, .int .u64 0, .int .u64 0, .int .u64 0, .int .u64 0, .int .u64 0, .int .u64 0, .int .u64 0, .int .u64 0, .int .u64 0, .int .u64 0, .int .u64 0, .int .u64 0, .int .u64 0, .int .u64 0]) := by kernel_rfl
theorem ld185 (c : List Value) (off : Nat) : loadV Tryd.prog 185 c off = (cut c off 20).map fun l => .agg l.toArray := by kernel_rfl
theorem ar185 : arrOf Tryd.prog 185 = some (20, 1) := by kernel_rfl
theorem sz186 : szV Tryd.prog 186 = some 1 := by kernel_rfl
theorem zv186 : zeroV Tryd.prog 186 = some (.int .u32 0) := by kernel_rfl
theorem ld186 (c : List Value) (off : Nat) : loadV Tryd.prog 186 c off = at? c off := by kernel_rfl
theorem sz187 : szV Tryd.prog 187 = some 65 := by kernel_rfl
theorem ld187 (c : List Value) (off : Nat) : loadV Tryd.prog 187 c off = (cut c off 65).map fun l => .agg l.toArray := by kernel_rfl
theorem ar187 : arrOf Tryd.prog 187 = some (65, 1) := by kernel_rfl
theorem sz188 : szV Tryd.prog 188 = some 1 := by kernel_rfl
theorem zv188 : zeroV Tryd.prog 188 = some (.nilFunc) := by kernel_rfl
theorem ld188 (c : List Value) (off : Nat) : loadV Tryd.prog 188 c off = at? c off := by kernel_rfl
theorem sz190 : szV Tryd.prog 190 = some 1 := by kernel_rfl
theorem zv190 : zeroV Tryd.prog 190 = some (.nilFunc) := by kernel_rfl
theorem ld190 (c : List Value) (off : Nat) : loadV Tryd.prog 190 c off = at? c off := by kernel_rfl
theorem sz192 : szV Tryd.prog 192 = some 1 := by kernel_rfl
theorem zv192 : zeroV Tryd.prog 192 = some (.nilFunc) := by kernel_rfl
theorem ld192 (c : List Value) (off : Nat) : loadV Tryd.prog 192 c off = at? c off := by kernel_rfl
theorem sz193 : szV Tryd.prog 193 = some 1 := by kernel_rfl
theorem zv193 : zeroV Tryd.prog 193 = some (.nilFunc) := by kernel_rfl
theorem ld193 (c : List Value) (off : Nat) : loadV Tryd.prog 193 c off = at? c off := by kernel_rfl
theorem sz194 : szV Tryd.prog 194 = some 3 := by kernel_rfl
theorem zv194 : zeroV Tryd.prog 194 = some (.agg #[.string ByteArray.empty, .string ByteArray.empty, .nilIface]) := by kernel_rfl
theorem ld194 (c : List Value) (off : Nat) : loadV Tryd.prog 194 c off = (cut c off 3).map fun l => .agg l.toArray := by kernel_rfl
theorem fa194_0 : fieldAt Tryd.prog 194 0 = some (0, 1) := by kernel_rfl
theorem fo194_0 : fieldOf Tryd.prog 194 0 = some (0, 9) := by kernel_rfl
theorem fa194_1 : fieldAt Tryd.prog 194 1 = some (1, 1) := by kernel_rfl
theorem fo194_1 : fieldOf Tryd.prog 194 1 = some (1, 9) := by kernel_rfl
theorem fa194_2 : fieldAt Tryd.prog 194 2 = some (2, 1) := by kernel_rfl
theorem fo194_2 : fieldOf Tryd.prog 194 2 = some (2, 153) := by kernel_rfl
theorem sz195 : szV Tryd.prog 195 = some 3 := by kernel_rfl
theorem zv195 : zeroV Tryd.prog 195 = some (.agg #[.string ByteArray.empty, .string ByteArray.empty, .nilIface]) := by kernel_rfl
theorem ld195 (c : List Value) (off : Nat) : loadV Tryd.prog 195 c off = (cut c off 3).map fun l => .agg l.toArray := by kernel_rfl
theorem fa195_0 : fieldAt Tryd.prog 195 0 = some (0, 1) := by kernel_rfl
theorem fo195_0 : fieldOf Tryd.prog 195 0 = some (0, 9) := by kernel_rfl
theorem fa195_1 : fieldAt Tryd.prog 195 1 = some (1, 1) := by kernel_rfl
theorem fo195_1 : fieldOf Tryd.prog 195 1 = some (1, 9) := by kernel_rfl
theorem fa195_2 : fieldAt Tryd.prog 195 2 = some (2, 1) := by kernel_rfl
theorem fo195_2 : fieldOf Tryd.prog 195 2 = some (2, 153) := by kernel_rfl
theorem sz196 : szV Tryd.prog 196 = some 1 := by kernel_rfl
theorem zv196 : zeroV Tryd.prog 196 = some (.nilFunc) := by kernel_rfl
theorem ld196 (c : List Value) (off : Nat) : loadV Tryd.prog 196 c off = at? c off := by kernel_rfl
theorem sz197 : szV Tryd.prog 197 = some 1 := by kernel_rfl
theorem zv197 : zeroV Tryd.prog 197 = some (.nilFunc) := by kernel_rfl
theorem ld197 (c : List Value) (off : Nat) : loadV Tryd.prog 197 c off = at? c off := by kernel_rfl
theorem sz198 : szV Tryd.prog 198 = some 1 := by kernel_rfl
theorem zv198 : zeroV Tryd.prog 198 = some (.nilFunc) := by kernel_rfl
theorem ld198 (c : List Value) (off : Nat) : loadV Tryd.prog 198 c off = at? c off := by kernel_rfl
theorem sz199 : szV Tryd.prog 199 = some 1 := by kernel_rfl
theorem zv199 : zeroV Tryd.prog 199 = some (.nilFunc) := by kernel_rfl
theorem ld199 (c : List Value) (off : Nat) : loadV Tryd.prog 199 c off = at? c off := by kernel_rfl
theorem sz200 : szV Tryd.prog 200 = some 1 := by kernel_rfl
theorem zv200 : zeroV Tryd.prog 200 = some (.pointer none) := by kernel_rfl
theorem ld200 (c : List Value) (off : Nat) : loadV Tryd.prog 200 c off = at? c off := by kernel_rfl
theorem sz201 : szV Tryd.prog 201 = some 1 := by kernel_rfl
theorem zv201 : zeroV Tryd.prog 201 = some (.agg #[.string ByteArray.empty]) := by kernel_rfl
theorem ld201 (c : List Value) (off : Nat) : loadV Tryd.prog 201 c off = (cut c off 1).map fun l => .agg l.toArray := by kernel_rfl
theorem fa201_0 : fieldAt Tryd.prog 201 0 = some (0, 1) := by kernel_rfl
theorem fo201_0 : fieldOf Tryd.prog 201 0 = some (0, 9) := by kernel_rfl
theorem sz202 : szV Tryd.prog 202 = some 1 := by kernel_rfl
theorem zv202 : zeroV Tryd.prog 202 = some (.agg #[.string ByteArray.empty]) := by kernel_rfl
theorem ld202 (c : List Value) (off : Nat) : loadV Tryd.prog 202 c off = (cut c off 1).map fun l => .agg l.toArray := by kernel_rfl
theorem fa202_0 : fieldAt Tryd.prog 202 0 = some (0, 1) := by kernel_rfl
theorem fo202_0 : fieldOf Tryd.prog 202 0 = some (0, 9) := by kernel_rfl
theorem sz203 : szV Tryd.prog 203 = some 32 := by kernel_rfl
theorem zv203 : zeroV Tryd.prog 203 = some (.agg #[.int .u8 0, .int .u8 0, .int .u8 0, .int .u8 0, .int .u8 0, .int .u8 0, .int .u8 0, .int .u8 0, .int .u8 0, .int .u8 0, .int .u8 0, .int .u8 0, .int .u8 0, .int .u8 0, .int .u8 0, .int .u8 0, .int .u8 0, .int .u8 0, .int .u8 0, .int .u8 0, .int .u8 0, .int .u8 0, .int .u8 0, .int .u8 0, .int .u8 0, .int .u8 0, .int .u8 0, .int .u8 0, .int .u8 0, .int .u8 0, .int .u8 0, .int .u8 0]) := by kernel_rfl
theorem ld203 (c : List Value) (off : Nat) : loadV Tryd.prog 203 c off = (cut c off 32).map fun l => .agg l.toArray := by kernel_rfl
theorem ar203 : arrOf Tryd.prog 203 = some (32, 1) := by kernel_rfl
theorem sz204 : szV Tryd.prog 204 = some 64 := by kernel_rfl
theorem ld204 (c : List Value) (off : Nat) : loadV Tryd.prog 204 c off = (cut c off 64).map fun l => .agg l.toArray := by kernel_rfl
theorem ar204 : arrOf Tryd.prog 204 = some (64, 1) := by kernel_rfl
theorem sz210 : szV Tryd.prog 210 = some 1 := by kernel_rfl
theorem zv210 : zeroV Tryd.prog 210 = some (.nilFunc) := by kernel_rfl
theorem ld210 (c : List Value) (off : Nat) : loadV Tryd.prog 210 c off = at? c off := by kernel_rfl
theorem sz213 : szV Tryd.prog 213 = some 1 := by kernel_rfl
theorem zv213 : zeroV Tryd.prog 213 = some (.nilFunc) := by kernel_rfl
theorem ld213 (c : List Value) (off : Nat) : loadV Tryd.prog 213 c off = at? c off := by kernel_rfl
theorem bv13 (ps : List (Nat × Value)) : buildV Tryd.prog 13 ps = aggOf (fillL (plOf Tryd.prog 13) ps [.string ByteArray.empty, .int .u64 0]) := by kernel_rfl
theorem pl13_0 : plOf Tryd.prog 13 0 = some (0, 1) := by kernel_rfl
theorem pl13_1 : plOf Tryd.prog 13 1 = some (1, 1) := by kernel_rfl
theorem bv32 (ps : List (Nat × Value)) : buildV Tryd.prog 32 ps = aggOf (fillL (plOf Tryd.prog 32) ps [.slice none 0 0, .int .i64 0]) := by kernel_rfl
theorem pl32_0 : plOf Tryd.prog 32 0 = some (0, 1) := by kernel_rfl
theorem pl32_1 : plOf Tryd.prog 32 1 = some (1, 1) := by kernel_rfl
theorem bv33 (ps : List (Nat × Value)) : buildV Tryd.prog 33 ps = aggOf (fillL (plOf Tryd.prog 33) ps [.slice none 0 0, .int .i64 0]) := by kernel_rfl
theorem pl33_0 : plOf Tryd.prog 33 0 = some (0, 1) := by kernel_rfl
theorem pl33_1 : plOf Tryd.prog 33 1 = some (1, 1) := by kernel_rfl
theorem bv67 (ps : List (Nat × Value)) : buildV Tryd.prog 67 ps = aggOf (fillL (plOf Tryd.prog 67) ps [.int .i64 0, .int .i64 0]) := by kernel_rfl
theorem pl67_0 : plOf Tryd.prog 67 0 = some (0, 1) := by kernel_rfl
theorem pl67_1 : plOf Tryd.prog 67 1 = some (1, 1) := by kernel_rfl
theorem bv68 (ps : List (Nat × Value)) : buildV Tryd.prog 68 ps = aggOf (fillL (plOf Tryd.prog 68) ps [.int .i64 0, .int .i64 0]) := by kernel_rfl
theorem pl68_0 : plOf Tryd.prog 68 0 = some (0, 1) := by kernel_rfl
theorem pl68_1 : plOf Tryd.prog 68 1 = some (1, 1) := by kernel_rfl
theorem eq68 (a0 b0 : Int) (a1 b1 : Int) : valEq Tryd.prog 68 (.agg #[.int .i64 a0, .int .i64 a1]) (.agg #[.int .i64 b0, .int .i64 b1]) = some (decide (a0 = b0 ∧ a1 = b1)) := by
  have h : valEq Tryd.prog 68 (.agg #[.int .i64 a0, .int .i64 a1]) (.agg #[.int .i64 b0, .int .i64 b1]) = (match some (eqI a0 b0) with | some true => (match some (eqI a1 b1) with | some true => some true | some false => some false | none => none) | some false => some false | none => none) := by kernel_rfl
  rw [h]; exact eqs2 (by first | exact eqI_spec _ _ | exact bytesEq_dec _ _ | exact beq_dec _ _) (by first | exact eqI_spec _ _ | exact bytesEq_dec _ _ | exact beq_dec _ _)
theorem be68 (a0 b0 : Int) (a1 b1 : Int) : bin Tryd.prog .eql 68 (.agg #[.int .i64 a0, .int .i64 a1]) (.agg #[.int .i64 b0, .int .i64 b1]) = some (.bool (decide (a0 = b0 ∧ a1 = b1))) := bin_eql_agg (eq68 a0 b0 a1 b1)
theorem bn68 (a0 b0 : Int) (a1 b1 : Int) : bin Tryd.prog .neq 68 (.agg #[.int .i64 a0, .int .i64 a1]) (.agg #[.int .i64 b0, .int .i64 b1]) = some (.bool (decide (¬ (a0 = b0 ∧ a1 = b1)))) := bin_neq_agg (eq68 a0 b0 a1 b1)
theorem bv78 (ps : List (Nat × Value)) : buildV Tryd.prog 78 ps = aggOf (fillL (plOf Tryd.prog 78) ps [.int .i64 0, .int .i64 0]) := by kernel_rfl
theorem pl78_0 : plOf Tryd.prog 78 0 = some (0, 1) := by kernel_rfl
theorem pl78_1 : plOf Tryd.prog 78 1 = some (1, 1) := by kernel_rfl
theorem bv79 (ps : List (Nat × Value)) : buildV Tryd.prog 79 ps = aggOf (fillL (plOf Tryd.prog 79) ps [.int .i64 0, .int .i64 0]) := by kernel_rfl
theorem pl79_0 : plOf Tryd.prog 79 0 = some (0, 1) := by kernel_rfl
theorem pl79_1 : plOf Tryd.prog 79 1 = some (1, 1) := by kernel_rfl
theorem eq79 (a0 b0 : Int) (a1 b1 : Int) : valEq Tryd.prog 79 (.agg #[.int .i64 a0, .int .i64 a1]) (.agg #[.int .i64 b0, .int .i64 b1]) = some (decide (a0 = b0 ∧ a1 = b1)) := by
  have h : valEq Tryd.prog 79 (.agg #[.int .i64 a0, .int .i64 a1]) (.agg #[.int .i64 b0, .int .i64 b1]) = (match some (eqI a0 b0) with | some true => (match some (eqI a1 b1) with | some true => some true | some false => some false | none => none) | some false => some false | none => none) := by kernel_rfl
  rw [h]; exact eqs2 (by first | exact eqI_spec _ _ | exact bytesEq_dec _ _ | exact beq_dec _ _) (by first | exact eqI_spec _ _ | exact bytesEq_dec _ _ | exact beq_dec _ _)
theorem be79 (a0 b0 : Int) (a1 b1 : Int) : bin Tryd.prog .eql 79 (.agg #[.int .i64 a0, .int .i64 a1]) (.agg #[.int .i64 b0, .int .i64 b1]) = some (.bool (decide (a0 = b0 ∧ a1 = b1))) := bin_eql_agg (eq79 a0 b0 a1 b1)
theorem bn79 (a0 b0 : Int) (a1 b1 : Int) : bin Tryd.prog .neq 79 (.agg #[.int .i64 a0, .int .i64 a1]) (.agg #[.int .i64 b0, .int .i64 b1]) = some (.bool (decide (¬ (a0 = b0 ∧ a1 = b1)))) := bin_neq_agg (eq79 a0 b0 a1 b1)
theorem bv86 (ps : List (Nat × Value)) : buildV Tryd.prog 86 ps = aggOf (fillL (plOf Tryd.prog 86) ps [.string ByteArray.empty, .int .i64 0]) := by kernel_rfl
theorem pl86_0 : plOf Tryd.prog 86 0 = some (0, 1) := by kernel_rfl
theorem pl86_1 : plOf Tryd.prog 86 1 = some (1, 1) := by kernel_rfl
theorem bv87 (ps : List (Nat × Value)) : buildV Tryd.prog 87 ps = aggOf (fillL (plOf Tryd.prog 87) ps [.string ByteArray.empty, .int .i64 0]) := by kernel_rfl
theorem pl87_0 : plOf Tryd.prog 87 0 = some (0, 1) := by kernel_rfl
theorem pl87_1 : plOf Tryd.prog 87 1 = some (1, 1) := by kernel_rfl
theorem eq87 (a0 b0 : ByteArray) (a1 b1 : Int) : valEq Tryd.prog 87 (.agg #[.string a0, .int .i64 a1]) (.agg #[.string b0, .int .i64 b1]) = some (decide (a0 = b0 ∧ a1 = b1)) := by
  have h : valEq Tryd.prog 87 (.agg #[.string a0, .int .i64 a1]) (.agg #[.string b0, .int .i64 b1]) = (match some (bytesEq a0.data.toList b0.data.toList) with | some true => (match some (eqI a1 b1) with | some true => some true | some false => some false | none => none) | some false => some false | none => none) := by kernel_rfl
  rw [h]; exact eqs2 (by first | exact eqI_spec _ _ | exact bytesEq_dec _ _ | exact beq_dec _ _) (by first | exact eqI_spec _ _ | exact bytesEq_dec _ _ | exact beq_dec _ _)
theorem be87 (a0 b0 : ByteArray) (a1 b1 : Int) : bin Tryd.prog .eql 87 (.agg #[.string a0, .int .i64 a1]) (.agg #[.string b0, .int .i64 b1]) = some (.bool (decide (a0 = b0 ∧ a1 = b1))) := bin_eql_agg (eq87 a0 b0 a1 b1)
theorem bn87 (a0 b0 : ByteArray) (a1 b1 : Int) : bin Tryd.prog .neq 87 (.agg #[.string a0, .int .i64 a1]) (.agg #[.string b0, .int .i64 b1]) = some (.bool (decide (¬ (a0 = b0 ∧ a1 = b1)))) := bin_neq_agg (eq87 a0 b0 a1 b1)
theorem bv149 (ps : List (Nat × Value)) : buildV Tryd.prog 149 ps = aggOf (fillL (plOf Tryd.prog 149) ps [.pointer none, .slice none 0 0]) := by kernel_rfl
theorem pl149_0 : plOf Tryd.prog 149 0 = some (0, 1) := by kernel_rfl
theorem pl149_1 : plOf Tryd.prog 149 1 = some (1, 1) := by kernel_rfl
theorem bv150 (ps : List (Nat × Value)) : buildV Tryd.prog 150 ps = aggOf (fillL (plOf Tryd.prog 150) ps [.pointer none, .slice none 0 0]) := by kernel_rfl
theorem pl150_0 : plOf Tryd.prog 150 0 = some (0, 1) := by kernel_rfl
theorem pl150_1 : plOf Tryd.prog 150 1 = some (1, 1) := by kernel_rfl
theorem bv194 (ps : List (Nat × Value)) : buildV Tryd.prog 194 ps = aggOf (fillL (plOf Tryd.prog 194) ps [.string ByteArray.empty, .string ByteArray.empty, .nilIface]) := by kernel_rfl
theorem pl194_0 : plOf Tryd.prog 194 0 = some (0, 1) := by kernel_rfl
theorem pl194_1 : plOf Tryd.prog 194 1 = some (1, 1) := by kernel_rfl
theorem pl194_2 : plOf Tryd.prog 194 2 = some (2, 1) := by kernel_rfl
theorem bv195 (ps : List (Nat × Value)) : buildV Tryd.prog 195 ps = aggOf (fillL (plOf Tryd.prog 195) ps [.string ByteArray.empty, .string ByteArray.empty, .nilIface]) := by kernel_rfl
theorem pl195_0 : plOf Tryd.prog 195 0 = some (0, 1) := by kernel_rfl
theorem pl195_1 : plOf Tryd.prog 195 1 = some (1, 1) := by kernel_rfl
theorem pl195_2 : plOf Tryd.prog 195 2 = some (2, 1) := by kernel_rfl
theorem bv201 (ps : List (Nat × Value)) : buildV Tryd.prog 201 ps = aggOf (fillL (plOf Tryd.prog 201) ps [.string ByteArray.empty]) := by kernel_rfl
theorem pl201_0 : plOf Tryd.prog 201 0 = some (0, 1) := by kernel_rfl
theorem bv202 (ps : List (Nat × Value)) : buildV Tryd.prog 202 ps = aggOf (fillL (plOf Tryd.prog 202) ps [.string ByteArray.empty]) := by kernel_rfl
theorem pl202_0 : plOf Tryd.prog 202 0 = some (0, 1) := by kernel_rfl
attribute [push_cast] sz1 zv1 ld1 sz2 zv2 ld2 sz3 zv3 ld3 sz4 zv4 ld4 sz5 zv5 ld5 sz9 zv9 ld9 sz12 zv12 ld12 sz13 zv13 ld13 fa13_0 fo13_0 fa13_1 fo13_1 sz21 zv21 ld21 sz22 zv22 ld22 es22 sz23 zv23 ld23 sz25 zv25 ld25 sz27 zv27 ld27 sz28 zv28 ld28 sz29 zv29 ld29 sz30 zv30 ld30 sz31 zv31 ld31 sz32 zv32 ld32 fa32_0 fo32_0 fa32_1 fo32_1 sz33 zv33 ld33 fa33_0 fo33_0 fa33_1 fo33_1 sz35 zv35 ld35 sz37 zv37 ld37 sz38 zv38 ld38 sz39 zv39 ld39 sz40 zv40 ld40 sz41 zv41 ld41 sz42 zv42 ld42 sz43 zv43 ld43 sz45 zv45 ld45 sz46 zv46 ld46 sz47 zv47 ld47 sz49 zv49 ld49 sz50 zv50 ld50 sz51 zv51 ld51 ar51 sz53 zv53 ld53 sz55 zv55 ld55 sz56 zv56 ld56 sz57 zv57 ld57 sz58 zv58 ld58 sz59 zv59 ld59 es59 sz61 zv61 ld61 sz62 zv62 ld62 sz63 zv63 ld63 es63 sz65 zv65 ld65 sz66 zv66 ld66 ar66 sz67 zv67 ld67 fa67_0 fo67_0 fa67_1 fo67_1 sz68 zv68 ld68 fa68_0 fo68_0 fa68_1 fo68_1 sz70 zv70 ld70 sz71 zv71 ld71 sz73 zv73 ld73 sz74 zv74 ld74 sz75 zv75 ld75 sz76 zv76 ld76 sz77 zv77 ld77 sz78 zv78 ld78 fa78_0 fo78_0 fa78_1 fo78_1 sz79 zv79 ld79 fa79_0 fo79_0 fa79_1 fo79_1 sz80 zv80 ld80 sz81 zv81 ld81 sz82 zv82 ld82 es82 sz83 zv83 ld83 sz85 zv85 ld85 sz86 zv86 ld86 fa86_0 fo86_0 fa86_1 fo86_1 sz87 zv87 ld87 fa87_0 fo87_0 fa87_1 fo87_1 sz88 zv88 ld88 sz89 ld89 ar89 sz90 ld90 fa90_0 fo90_0 sz91 ld91 fa91_0 fo91_0 sz92 zv92 ld92 sz93 zv93 ld93 sz95 zv95 ld95 sz96 zv96 ld96 sz97 zv97 ld97 sz98 zv98 ld98 sz99 zv99 ld99 sz100 zv100 ld100 sz101 zv101 ld101 sz102 zv102 ld102 sz103 zv103 ld103 sz104 zv104 ld104 sz106 zv106 ld106 sz107 zv107 ld107 sz108 zv108 ld108 sz109 zv109 ld109 sz110 zv110 ld110 es110 sz111 zv111 ld111 sz112 zv112 ld112 sz113 zv113 ld113 sz115 zv115 ld115 sz116 zv116 ld116 sz118 zv118 ld118 sz119 zv119 ld119 sz120 zv120 ld120 sz121 zv121 ld121 sz122 zv122 ld122 sz123 zv123 ld123 sz124 zv124 ld124 sz125 zv125 ld125 sz127 zv127 ld127 sz128 zv128 ld128 sz129 zv129 ld129 sz130 zv130 ld130 sz131 zv131 ld131 es131 sz132 zv132 ld132 sz133 zv133 ld133 sz134 zv134 ld134 sz137 zv137 ld137 sz138 zv138 ld138 sz139 zv139 ld139 sz140 zv140 ld140 es140 sz141 zv141 ld141 sz142 zv142 ld142 sz143 zv143 ld143 sz144 zv144 ld144 sz145 zv145 ld145 sz146 zv146 ld146 sz147 zv147 ld147 sz148 zv148 ld148 sz149 zv149 ld149 fa149_0 fo149_0 fa149_1 fo149_1 sz150 zv150 ld150 fa150_0 fo150_0 fa150_1 fo150_1 sz151 zv151 ld151 sz153 zv153 ld153 sz155 zv155 ld155 sz156 zv156 ld156 sz157 zv157 ld157 sz158 zv158 ld158 sz159 zv159 ld159 sz160 zv160 ld160 sz161 zv161 ld161 sz162 zv162 ld162 sz163 zv163 ld163 sz164 zv164 ld164 sz165 zv165 ld165 sz166 zv166 ld166 sz167 zv167 ld167 sz168 zv168 ld168 sz169 zv169 ld169 ar169 sz170 zv170 ld170 sz171 zv171 ld171 sz173 zv173 ld173 sz174 zv174 ld174 sz175 zv175 ld175 sz176 zv176 ld176 sz177 zv177 ld177 sz180 zv180 ld180 sz181 zv181 ld181 sz182 zv182 ld182 sz183 zv183 ld183 sz184 zv184 ld184 sz185 zv185 ld185 ar185 sz186 zv186 ld186 sz187 ld187 ar187 sz188 zv188 ld188 sz190 zv190 ld190 sz192 zv192 ld192 sz193 zv193 ld193 sz194 zv194 ld194 fa194_0 fo194_0 fa194_1 fo194_1 fa194_2 fo194_2 sz195 zv195 ld195 fa195_0 fo195_0 fa195_1 fo195_1 fa195_2 fo195_2 sz196 zv196 ld196 sz197 zv197 ld197 sz198 zv198 ld198 sz199 zv199 ld199 sz200 zv200 ld200 sz201 zv201 ld201 fa201_0 fo201_0 sz202 zv202 ld202 fa202_0 fo202_0 sz203 zv203 ld203 ar203 sz204 ld204 ar204 sz210 zv210 ld210 sz213 zv213 ld213 bv13 pl13_0 pl13_1 bv32 pl32_0 pl32_1 bv33 pl33_0 pl33_1 bv67 pl67_0 pl67_1 bv68 pl68_0 pl68_1 be68 bn68 bv78 pl78_0 pl78_1 bv79 pl79_0 pl79_1 be79 bn79 bv86 pl86_0 pl86_1 bv87 pl87_0 pl87_1 be87 bn87 bv149 pl149_0 pl149_1 bv150 pl150_0 pl150_1 bv194 pl194_0 pl194_1 pl194_2 bv195 pl195_0 pl195_1 pl195_2 bv201 pl201_0 bv202 pl202_0
attribute [push_cast] Tryd.underlying1 Tryd.underlying2 Tryd.underlying3 Tryd.underlying4 Tryd.underlying5 Tryd.underlying6 Tryd.underlying7 Tryd.underlying9 Tryd.underlying12 Tryd.underlying13 Tryd.underlying15 Tryd.underlying16 Tryd.underlying17 Tryd.underlying18 Tryd.underlying19 Tryd.underlying21 Tryd.underlying22 Tryd.underlying23 Tryd.underlying25 Tryd.underlying27 Tryd.underlying28 Tryd.underlying29 Tryd.underlying30 Tryd.underlying31 Tryd.underlying32 Tryd.underlying33 Tryd.underlying35 Tryd.underlying37 Tryd.underlying38 Tryd.underlying39 Tryd.underlying40 Tryd.underlying41 Tryd.underlying42 Tryd.underlying43 Tryd.underlying45 Tryd.underlying46 Tryd.underlying47 Tryd.underlying49 Tryd.underlying50 Tryd.underlying51 Tryd.underlying53 Tryd.underlying55 Tryd.underlying56 Tryd.underlying57 Tryd.underlying58 Tryd.underlying59 Tryd.underlying61 Tryd.underlying62 Tryd.underlying63 Tryd.underlying65 Tryd.underlying66 Tryd.underlying67 Tryd.underlying68 Tryd.underlying70 Tryd.underlying71 Tryd.underlying73 Tryd.underlying74 Tryd.underlying75 Tryd.underlying76 Tryd.underlying77 Tryd.underlying78 Tryd.underlying79 Tryd.underlying80 Tryd.underlying81 Tryd.underlying82 Tryd.underlying83 Tryd.underlying85 Tryd.underlying86 Tryd.underlying87 Tryd.underlying88 Tryd.underlying89 Tryd.underlying90 Tryd.underlying91 Tryd.underlying92 Tryd.underlying93 Tryd.underlying95 Tryd.underlying96 Tryd.underlying97 Tryd.underlying98 Tryd.underlying99 Tryd.underlying100 Tryd.underlying101 Tryd.underlying102 Tryd.underlying103 Tryd.underlying104 Tryd.underlying106 Tryd.underlying107 Tryd.underlying108 Tryd.underlying109 Tryd.underlying110 Tryd.underlying111 Tryd.underlying112 Tryd.underlying113 Tryd.underlying115 Tryd.underlying116 Tryd.underlying118 Tryd.underlying119 Tryd.underlying120 Tryd.underlying121 Tryd.underlying122 Tryd.underlying123 Tryd.underlying124 Tryd.underlying125 Tryd.underlying127 Tryd.underlying128 Tryd.underlying129 Tryd.underlying130 Tryd.underlying131 Tryd.underlying132 Tryd.underlying133 Tryd.underlying134 Tryd.underlying137 Tryd.underlying138 Tryd.underlying139 Tryd.underlying140 Tryd.underlying141 Tryd.underlying142 Tryd.underlying143 Tryd.underlying144 Tryd.underlying145 Tryd.underlying146 Tryd.underlying147 Tryd.underlying148 Tryd.underlying149 Tryd.underlying150 Tryd.underlying151 Tryd.underlying155 Tryd.underlying156 Tryd.underlying157 Tryd.underlying158 Tryd.underlying159 Tryd.underlying160 Tryd.underlying161 Tryd.underlying162 Tryd.underlying163 Tryd.underlying164 Tryd.underlying165 Tryd.underlying166 Tryd.underlying167 Tryd.underlying168 Tryd.underlying169 Tryd.underlying170 Tryd.underlying171 Tryd.underlying173 Tryd.underlying174 Tryd.underlying175 Tryd.underlying176 Tryd.underlying177 Tryd.underlying178 Tryd.underlying180 Tryd.underlying181 Tryd.underlying182 Tryd.underlying183 Tryd.underlying184 Tryd.underlying185 Tryd.underlying186 Tryd.underlying187 Tryd.underlying188 Tryd.underlying190 Tryd.underlying192 Tryd.underlying193 Tryd.underlying194 Tryd.underlying195 Tryd.underlying196 Tryd.underlying197 Tryd.underlying198 Tryd.underlying199 Tryd.underlying200 Tryd.underlying201 Tryd.underlying202 Tryd.underlying203 Tryd.underlying204 Tryd.underlying205 Tryd.underlying207 Tryd.underlying208 Tryd.underlying210 Tryd.underlying211 Tryd.underlying212 Tryd.underlying213 Tryd.underlying214 Tryd.underlying215 Tryd.underlying216 Tryd.underlying217
attribute [push_cast] Tryd.results0 Tryd.results1 Tryd.results2 Tryd.results3 Tryd.results4 Tryd.results5 Tryd.results6 Tryd.results7 Tryd.results8 Tryd.results9 Tryd.results10 Tryd.results11 Tryd.results12 Tryd.results13 Tryd.results14 Tryd.results15 Tryd.results16 Tryd.results17 Tryd.results18 Tryd.results19 Tryd.results20 Tryd.results21 Tryd.results22 Tryd.results23 Tryd.results24 Tryd.results25 Tryd.results26 Tryd.results27 Tryd.results28 Tryd.results29 Tryd.results30 Tryd.results31 Tryd.results32 Tryd.results33 Tryd.results34 Tryd.results35 Tryd.results36 Tryd.results37 Tryd.results38 Tryd.results39 Tryd.results40 Tryd.results41 Tryd.results42 Tryd.results43 Tryd.results44 Tryd.results45 Tryd.results46 Tryd.results47 Tryd.results48 Tryd.results49 Tryd.results50 Tryd.results51 Tryd.results52 Tryd.results53 Tryd.results54 Tryd.results55 Tryd.results56 Tryd.results57 Tryd.results58 Tryd.results59 Tryd.results60 Tryd.results61 Tryd.results62 Tryd.results63 Tryd.results64 Tryd.results65 Tryd.results66 Tryd.results67 Tryd.results68 Tryd.results69 Tryd.results70 Tryd.results71 Tryd.results72 Tryd.results73 Tryd.results74 Tryd.results75 Tryd.results76 Tryd.results77 Tryd.results78 Tryd.results79 Tryd.results80 Tryd.results81 Tryd.results82 Tryd.results83 Tryd.results84 Tryd.results85 Tryd.results86 Tryd.results87 Tryd.results88 Tryd.results89 Tryd.results90 Tryd.results91 Tryd.results92 Tryd.results93 Tryd.results94 Tryd.results95 Tryd.results96 Tryd.results97 Tryd.results98 Tryd.results99 Tryd.results100 Tryd.results101 Tryd.results102 Tryd.results103 Tryd.results104 Tryd.results105 Tryd.results106 Tryd.results107 Tryd.results108 Tryd.results109 Tryd.results110 Tryd.results111 Tryd.results112 Tryd.results113 Tryd.results114 Tryd.results115 Tryd.results116 Tryd.results117 Tryd.results118 Tryd.results119 Tryd.results120 Tryd.results121 Tryd.results122 Tryd.results123 Tryd.results124 Tryd.results125 Tryd.results126 Tryd.results127 Tryd.results128 Tryd.results129 Tryd.results130 Tryd.results131 Tryd.results132 Tryd.results133 Tryd.results134 Tryd.results135 Tryd.results136 Tryd.results137 Tryd.results138 Tryd.results139 Tryd.results140 Tryd.results141 Tryd.results142 Tryd.results143 Tryd.results144 Tryd.results145 Tryd.results146 Tryd.results147 Tryd.results148 Tryd.results149 Tryd.results150 Tryd.results151 Tryd.results152 Tryd.results153 Tryd.results154 Tryd.results155 Tryd.results156 Tryd.results157 Tryd.results158 Tryd.results159 Tryd.results160 Tryd.results161 Tryd.results162 Tryd.results163 Tryd.results164 Tryd.results165 Tryd.results166 Tryd.results167 Tryd.results168 Tryd.results169 Tryd.results170 Tryd.results171 Tryd.results172 Tryd.results173 Tryd.results174 Tryd.results175 Tryd.results176 Tryd.results177 Tryd.results178 Tryd.results179 Tryd.results180 Tryd.results181 Tryd.results182
end Go.Proofs.YtbldcoaenhplcaaDoor
