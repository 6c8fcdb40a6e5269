/- Facts about this seat's types. -/
import Derived.Test.YtomamgmefpmnpaaW2
import Derived.Test.YtomamgmefpmnpaaRows
import Derived.KernelRfl
namespace Go.Proofs.Ytomamgmefpmnpaa
open Go.Ev
theorem sz1 : szV Try.prog 1 = some 1 := by kernel_rfl
theorem zv1 : zeroV Try.prog 1 = some (.nilFunc) := by kernel_rfl
theorem ld1 (c : List Value) (off : Nat) : loadV Try.prog 1 c off = at? c off := by kernel_rfl
theorem sz2 : szV Try.prog 2 = some 1 := by kernel_rfl
theorem zv2 : zeroV Try.prog 2 = some (.int .i64 0) := by kernel_rfl
theorem ld2 (c : List Value) (off : Nat) : loadV Try.prog 2 c off = at? c off := by kernel_rfl
theorem sz3 : szV Try.prog 3 = some 1 := by kernel_rfl
theorem zv3 : zeroV Try.prog 3 = some (.int .i64 0) := by kernel_rfl
theorem ld3 (c : List Value) (off : Nat) : loadV Try.prog 3 c off = at? c off := by kernel_rfl
theorem sz4 : szV Try.prog 4 = some 1 := by kernel_rfl
theorem zv4 : zeroV Try.prog 4 = some (.bool false) := by kernel_rfl
theorem ld4 (c : List Value) (off : Nat) : loadV Try.prog 4 c off = at? c off := by kernel_rfl
theorem sz5 : szV Try.prog 5 = some 1 := by kernel_rfl
theorem zv5 : zeroV Try.prog 5 = some (.int .u8 0) := by kernel_rfl
theorem ld5 (c : List Value) (off : Nat) : loadV Try.prog 5 c off = at? c off := by kernel_rfl
theorem sz9 : szV Try.prog 9 = some 1 := by kernel_rfl
theorem zv9 : zeroV Try.prog 9 = some (.string ByteArray.empty) := by kernel_rfl
theorem ld9 (c : List Value) (off : Nat) : loadV Try.prog 9 c off = at? c off := by kernel_rfl
theorem sz12 : szV Try.prog 12 = some 1 := by kernel_rfl
theorem zv12 : zeroV Try.prog 12 = some (.int .u64 0) := by kernel_rfl
theorem ld12 (c : List Value) (off : Nat) : loadV Try.prog 12 c off = at? c off := by kernel_rfl
theorem sz13 : szV Try.prog 13 = some 2 := by kernel_rfl
theorem zv13 : zeroV Try.prog 13 = some (.agg #[.string ByteArray.empty, .int .u64 0]) := by kernel_rfl
theorem ld13 (c : List Value) (off : Nat) : loadV Try.prog 13 c off = (cut c off 2).map fun l => .agg l.toArray := by kernel_rfl
theorem fa13_0 : fieldAt Try.prog 13 0 = some (0, 1) := by kernel_rfl
theorem fo13_0 : fieldOf Try.prog 13 0 = some (0, 9) := by kernel_rfl
theorem fa13_1 : fieldAt Try.prog 13 1 = some (1, 1) := by kernel_rfl
theorem fo13_1 : fieldOf Try.prog 13 1 = some (1, 12) := by kernel_rfl
theorem sz21 : szV Try.prog 21 = some 1 := by kernel_rfl
theorem zv21 : zeroV Try.prog 21 = some (.int .i32 0) := by kernel_rfl
theorem ld21 (c : List Value) (off : Nat) : loadV Try.prog 21 c off = at? c off := by kernel_rfl
theorem sz22 : szV Try.prog 22 = some 2 := by kernel_rfl
theorem zv22 : zeroV Try.prog 22 = some (.agg #[.int .i64 0, .int .i64 0]) := by kernel_rfl
theorem ld22 (c : List Value) (off : Nat) : loadV Try.prog 22 c off = (cut c off 2).map fun l => .agg l.toArray := by kernel_rfl
theorem fa22_0 : fieldAt Try.prog 22 0 = some (0, 1) := by kernel_rfl
theorem fo22_0 : fieldOf Try.prog 22 0 = some (0, 3) := by kernel_rfl
theorem fa22_1 : fieldAt Try.prog 22 1 = some (1, 1) := by kernel_rfl
theorem fo22_1 : fieldOf Try.prog 22 1 = some (1, 3) := by kernel_rfl
theorem sz23 : szV Try.prog 23 = some 2 := by kernel_rfl
theorem zv23 : zeroV Try.prog 23 = some (.agg #[.int .i64 0, .int .i64 0]) := by kernel_rfl
theorem ld23 (c : List Value) (off : Nat) : loadV Try.prog 23 c off = (cut c off 2).map fun l => .agg l.toArray := by kernel_rfl
theorem fa23_0 : fieldAt Try.prog 23 0 = some (0, 1) := by kernel_rfl
theorem fo23_0 : fieldOf Try.prog 23 0 = some (0, 3) := by kernel_rfl
theorem fa23_1 : fieldAt Try.prog 23 1 = some (1, 1) := by kernel_rfl
theorem fo23_1 : fieldOf Try.prog 23 1 = some (1, 3) := by kernel_rfl
theorem sz24 : szV Try.prog 24 = some 1 := by kernel_rfl
theorem zv24 : zeroV Try.prog 24 = some (.int .i64 0) := by kernel_rfl
theorem ld24 (c : List Value) (off : Nat) : loadV Try.prog 24 c off = at? c off := by kernel_rfl
theorem sz26 : szV Try.prog 26 = some 1 := by kernel_rfl
theorem zv26 : zeroV Try.prog 26 = some (.nilFunc) := by kernel_rfl
theorem ld26 (c : List Value) (off : Nat) : loadV Try.prog 26 c off = at? c off := by kernel_rfl
theorem sz27 : szV Try.prog 27 = some 1 := by kernel_rfl
theorem zv27 : zeroV Try.prog 27 = some (.nilFunc) := by kernel_rfl
theorem ld27 (c : List Value) (off : Nat) : loadV Try.prog 27 c off = at? c off := by kernel_rfl
theorem sz28 : szV Try.prog 28 = some 1 := by kernel_rfl
theorem zv28 : zeroV Try.prog 28 = some (.nilFunc) := by kernel_rfl
theorem ld28 (c : List Value) (off : Nat) : loadV Try.prog 28 c off = at? c off := by kernel_rfl
theorem sz29 : szV Try.prog 29 = some 1 := by kernel_rfl
theorem zv29 : zeroV Try.prog 29 = some (.nilFunc) := by kernel_rfl
theorem ld29 (c : List Value) (off : Nat) : loadV Try.prog 29 c off = at? c off := by kernel_rfl
theorem sz30 : szV Try.prog 30 = some 1 := by kernel_rfl
theorem zv30 : zeroV Try.prog 30 = some (.nilFunc) := by kernel_rfl
theorem ld30 (c : List Value) (off : Nat) : loadV Try.prog 30 c off = at? c off := by kernel_rfl
theorem sz31 : szV Try.prog 31 = some 1 := by kernel_rfl
theorem zv31 : zeroV Try.prog 31 = some (.nilFunc) := by kernel_rfl
theorem ld31 (c : List Value) (off : Nat) : loadV Try.prog 31 c off = at? c off := by kernel_rfl
theorem sz33 : szV Try.prog 33 = some 1 := by kernel_rfl
theorem zv33 : zeroV Try.prog 33 = some (.nilFunc) := by kernel_rfl
theorem ld33 (c : List Value) (off : Nat) : loadV Try.prog 33 c off = at? c off := by kernel_rfl
theorem sz34 : szV Try.prog 34 = some 1 := by kernel_rfl
theorem zv34 : zeroV Try.prog 34 = some (.nilFunc) := by kernel_rfl
theorem ld34 (c : List Value) (off : Nat) : loadV Try.prog 34 c off = at? c off := by kernel_rfl
theorem sz35 : szV Try.prog 35 = some 1 := by kernel_rfl
theorem zv35 : zeroV Try.prog 35 = some (.slice none 0 0) := by kernel_rfl
theorem ld35 (c : List Value) (off : Nat) : loadV Try.prog 35 c off = at? c off := by kernel_rfl
theorem es35 : eltOf Try.prog 35 = some 2 := by kernel_rfl
theorem sz36 : szV Try.prog 36 = some 1 := by kernel_rfl
theorem zv36 : zeroV Try.prog 36 = some (.nilFunc) := by kernel_rfl
theorem ld36 (c : List Value) (off : Nat) : loadV Try.prog 36 c off = at? c off := by kernel_rfl
theorem sz38 : szV Try.prog 38 = some 1 := by kernel_rfl
theorem zv38 : zeroV Try.prog 38 = some (.nilFunc) := by kernel_rfl
theorem ld38 (c : List Value) (off : Nat) : loadV Try.prog 38 c off = at? c off := by kernel_rfl
theorem sz39 : szV Try.prog 39 = some 1 := by kernel_rfl
theorem zv39 : zeroV Try.prog 39 = some (.nilFunc) := by kernel_rfl
theorem ld39 (c : List Value) (off : Nat) : loadV Try.prog 39 c off = at? c off := by kernel_rfl
theorem sz40 : szV Try.prog 40 = some 1 := by kernel_rfl
theorem zv40 : zeroV Try.prog 40 = some (.slice none 0 0) := by kernel_rfl
theorem ld40 (c : List Value) (off : Nat) : loadV Try.prog 40 c off = at? c off := by kernel_rfl
theorem es40 : eltOf Try.prog 40 = some 2 := by kernel_rfl
theorem sz41 : szV Try.prog 41 = some 2 := by kernel_rfl
theorem zv41 : zeroV Try.prog 41 = some (.agg #[.string ByteArray.empty, .slice none 0 0]) := by kernel_rfl
theorem ld41 (c : List Value) (off : Nat) : loadV Try.prog 41 c off = (cut c off 2).map fun l => .agg l.toArray := by kernel_rfl
theorem fa41_0 : fieldAt Try.prog 41 0 = some (0, 1) := by kernel_rfl
theorem fo41_0 : fieldOf Try.prog 41 0 = some (0, 9) := by kernel_rfl
theorem fa41_1 : fieldAt Try.prog 41 1 = some (1, 1) := by kernel_rfl
theorem fo41_1 : fieldOf Try.prog 41 1 = some (1, 40) := by kernel_rfl
theorem sz42 : szV Try.prog 42 = some 2 := by kernel_rfl
theorem zv42 : zeroV Try.prog 42 = some (.agg #[.string ByteArray.empty, .slice none 0 0]) := by kernel_rfl
theorem ld42 (c : List Value) (off : Nat) : loadV Try.prog 42 c off = (cut c off 2).map fun l => .agg l.toArray := by kernel_rfl
theorem fa42_0 : fieldAt Try.prog 42 0 = some (0, 1) := by kernel_rfl
theorem fo42_0 : fieldOf Try.prog 42 0 = some (0, 9) := by kernel_rfl
theorem fa42_1 : fieldAt Try.prog 42 1 = some (1, 1) := by kernel_rfl
theorem fo42_1 : fieldOf Try.prog 42 1 = some (1, 40) := by kernel_rfl
theorem sz43 : szV Try.prog 43 = some 1 := by kernel_rfl
theorem zv43 : zeroV Try.prog 43 = some (.nilFunc) := by kernel_rfl
theorem ld43 (c : List Value) (off : Nat) : loadV Try.prog 43 c off = at? c off := by kernel_rfl
theorem sz44 : szV Try.prog 44 = some 1 := by kernel_rfl
theorem zv44 : zeroV Try.prog 44 = some (.nilFunc) := by kernel_rfl
theorem ld44 (c : List Value) (off : Nat) : loadV Try.prog 44 c off = at? c off := by kernel_rfl
theorem sz45 : szV Try.prog 45 = some 1 := by kernel_rfl
theorem zv45 : zeroV Try.prog 45 = some (.nilFunc) := by kernel_rfl
theorem ld45 (c : List Value) (off : Nat) : loadV Try.prog 45 c off = at? c off := by kernel_rfl
theorem sz46 : szV Try.prog 46 = some 1 := by kernel_rfl
theorem zv46 : zeroV Try.prog 46 = some (.nilFunc) := by kernel_rfl
theorem ld46 (c : List Value) (off : Nat) : loadV Try.prog 46 c off = at? c off := by kernel_rfl
theorem sz47 : szV Try.prog 47 = some 1 := by kernel_rfl
theorem zv47 : zeroV Try.prog 47 = some (.nilFunc) := by kernel_rfl
theorem ld47 (c : List Value) (off : Nat) : loadV Try.prog 47 c off = at? c off := by kernel_rfl
theorem sz48 : szV Try.prog 48 = some 1 := by kernel_rfl
theorem zv48 : zeroV Try.prog 48 = some (.slice none 0 0) := by kernel_rfl
theorem ld48 (c : List Value) (off : Nat) : loadV Try.prog 48 c off = at? c off := by kernel_rfl
theorem es48 : eltOf Try.prog 48 = some 1 := by kernel_rfl
theorem sz50 : szV Try.prog 50 = some 1 := by kernel_rfl
theorem zv50 : zeroV Try.prog 50 = some (.nilFunc) := by kernel_rfl
theorem ld50 (c : List Value) (off : Nat) : loadV Try.prog 50 c off = at? c off := by kernel_rfl
theorem sz51 : szV Try.prog 51 = some 1 := by kernel_rfl
theorem zv51 : zeroV Try.prog 51 = some (.nilFunc) := by kernel_rfl
theorem ld51 (c : List Value) (off : Nat) : loadV Try.prog 51 c off = at? c off := by kernel_rfl
theorem sz52 : szV Try.prog 52 = some 1 := by kernel_rfl
theorem zv52 : zeroV Try.prog 52 = some (.nilFunc) := by kernel_rfl
theorem ld52 (c : List Value) (off : Nat) : loadV Try.prog 52 c off = at? c off := by kernel_rfl
theorem sz53 : szV Try.prog 53 = some 1 := by kernel_rfl
theorem zv53 : zeroV Try.prog 53 = some (.nilFunc) := by kernel_rfl
theorem ld53 (c : List Value) (off : Nat) : loadV Try.prog 53 c off = at? c off := by kernel_rfl
theorem sz54 : szV Try.prog 54 = some 1 := by kernel_rfl
theorem zv54 : zeroV Try.prog 54 = some (.nilFunc) := by kernel_rfl
theorem ld54 (c : List Value) (off : Nat) : loadV Try.prog 54 c off = at? c off := by kernel_rfl
theorem sz55 : szV Try.prog 55 = some 1 := by kernel_rfl
theorem zv55 : zeroV Try.prog 55 = some (.nilFunc) := by kernel_rfl
theorem ld55 (c : List Value) (off : Nat) : loadV Try.prog 55 c off = at? c off := by kernel_rfl
theorem sz56 : szV Try.prog 56 = some 1 := by kernel_rfl
theorem zv56 : zeroV Try.prog 56 = some (.nilFunc) := by kernel_rfl
theorem ld56 (c : List Value) (off : Nat) : loadV Try.prog 56 c off = at? c off := by kernel_rfl
theorem sz58 : szV Try.prog 58 = some 1 := by kernel_rfl
theorem zv58 : zeroV Try.prog 58 = some (.nilFunc) := by kernel_rfl
theorem ld58 (c : List Value) (off : Nat) : loadV Try.prog 58 c off = at? c off := by kernel_rfl
theorem sz59 : szV Try.prog 59 = some 1 := by kernel_rfl
theorem zv59 : zeroV Try.prog 59 = some (.nilFunc) := by kernel_rfl
theorem ld59 (c : List Value) (off : Nat) : loadV Try.prog 59 c off = at? c off := by kernel_rfl
theorem sz60 : szV Try.prog 60 = some 1 := by kernel_rfl
theorem zv60 : zeroV Try.prog 60 = some (.slice none 0 0) := by kernel_rfl
theorem ld60 (c : List Value) (off : Nat) : loadV Try.prog 60 c off = at? c off := by kernel_rfl
theorem es60 : eltOf Try.prog 60 = some 2 := by kernel_rfl
theorem sz61 : szV Try.prog 61 = some 1 := by kernel_rfl
theorem zv61 : zeroV Try.prog 61 = some (.slice none 0 0) := by kernel_rfl
theorem ld61 (c : List Value) (off : Nat) : loadV Try.prog 61 c off = at? c off := by kernel_rfl
theorem es61 : eltOf Try.prog 61 = some 6 := by kernel_rfl
theorem sz62 : szV Try.prog 62 = some 1 := by kernel_rfl
theorem zv62 : zeroV Try.prog 62 = some (.slice none 0 0) := by kernel_rfl
theorem ld62 (c : List Value) (off : Nat) : loadV Try.prog 62 c off = at? c off := by kernel_rfl
theorem es62 : eltOf Try.prog 62 = some 1 := by kernel_rfl
theorem sz63 : szV Try.prog 63 = some 1 := by kernel_rfl
theorem zv63 : zeroV Try.prog 63 = some (.slice none 0 0) := by kernel_rfl
theorem ld63 (c : List Value) (off : Nat) : loadV Try.prog 63 c off = at? c off := by kernel_rfl
theorem es63 : eltOf Try.prog 63 = some 2 := by kernel_rfl
theorem sz64 : szV Try.prog 64 = some 4 := by kernel_rfl
theorem zv64 : zeroV Try.prog 64 = some (.agg #[.slice none 0 0, .slice none 0 0, .slice none 0 0, .slice none 0 0]) := by kernel_rfl
theorem ld64 (c : List Value) (off : Nat) : loadV Try.prog 64 c off = (cut c off 4).map fun l => .agg l.toArray := by kernel_rfl
theorem fa64_0 : fieldAt Try.prog 64 0 = some (0, 1) := by kernel_rfl
theorem fo64_0 : fieldOf Try.prog 64 0 = some (0, 60) := by kernel_rfl
theorem fa64_1 : fieldAt Try.prog 64 1 = some (1, 1) := by kernel_rfl
theorem fo64_1 : fieldOf Try.prog 64 1 = some (1, 61) := by kernel_rfl
theorem fa64_2 : fieldAt Try.prog 64 2 = some (2, 1) := by kernel_rfl
theorem fo64_2 : fieldOf Try.prog 64 2 = some (2, 62) := by kernel_rfl
theorem fa64_3 : fieldAt Try.prog 64 3 = some (3, 1) := by kernel_rfl
theorem fo64_3 : fieldOf Try.prog 64 3 = some (3, 63) := by kernel_rfl
theorem sz65 : szV Try.prog 65 = some 4 := by kernel_rfl
theorem zv65 : zeroV Try.prog 65 = some (.agg #[.slice none 0 0, .slice none 0 0, .slice none 0 0, .slice none 0 0]) := by kernel_rfl
theorem ld65 (c : List Value) (off : Nat) : loadV Try.prog 65 c off = (cut c off 4).map fun l => .agg l.toArray := by kernel_rfl
theorem fa65_0 : fieldAt Try.prog 65 0 = some (0, 1) := by kernel_rfl
theorem fo65_0 : fieldOf Try.prog 65 0 = some (0, 60) := by kernel_rfl
theorem fa65_1 : fieldAt Try.prog 65 1 = some (1, 1) := by kernel_rfl
theorem fo65_1 : fieldOf Try.prog 65 1 = some (1, 61) := by kernel_rfl
theorem fa65_2 : fieldAt Try.prog 65 2 = some (2, 1) := by kernel_rfl
theorem fo65_2 : fieldOf Try.prog 65 2 = some (2, 62) := by kernel_rfl
theorem fa65_3 : fieldAt Try.prog 65 3 = some (3, 1) := by kernel_rfl
theorem fo65_3 : fieldOf Try.prog 65 3 = some (3, 63) := by kernel_rfl
theorem sz66 : szV Try.prog 66 = some 1 := by kernel_rfl
theorem zv66 : zeroV Try.prog 66 = some (.pointer none) := by kernel_rfl
theorem ld66 (c : List Value) (off : Nat) : loadV Try.prog 66 c off = at? c off := by kernel_rfl
theorem sz68 : szV Try.prog 68 = some 1 := by kernel_rfl
theorem zv68 : zeroV Try.prog 68 = some (.nilFunc) := by kernel_rfl
theorem ld68 (c : List Value) (off : Nat) : loadV Try.prog 68 c off = at? c off := by kernel_rfl
theorem sz69 : szV Try.prog 69 = some 1 := by kernel_rfl
theorem zv69 : zeroV Try.prog 69 = some (.pointer none) := by kernel_rfl
theorem ld69 (c : List Value) (off : Nat) : loadV Try.prog 69 c off = at? c off := by kernel_rfl
theorem sz71 : szV Try.prog 71 = some 1 := by kernel_rfl
theorem zv71 : zeroV Try.prog 71 = some (.nilFunc) := by kernel_rfl
theorem ld71 (c : List Value) (off : Nat) : loadV Try.prog 71 c off = at? c off := by kernel_rfl
theorem sz72 : szV Try.prog 72 = some 1 := by kernel_rfl
theorem zv72 : zeroV Try.prog 72 = some (.nilFunc) := by kernel_rfl
theorem ld72 (c : List Value) (off : Nat) : loadV Try.prog 72 c off = at? c off := by kernel_rfl
theorem sz73 : szV Try.prog 73 = some 1 := by kernel_rfl
theorem zv73 : zeroV Try.prog 73 = some (.nilFunc) := by kernel_rfl
theorem ld73 (c : List Value) (off : Nat) : loadV Try.prog 73 c off = at? c off := by kernel_rfl
theorem sz75 : szV Try.prog 75 = some 1 := by kernel_rfl
theorem zv75 : zeroV Try.prog 75 = some (.nilFunc) := by kernel_rfl
theorem ld75 (c : List Value) (off : Nat) : loadV Try.prog 75 c off = at? c off := by kernel_rfl
theorem sz76 : szV Try.prog 76 = some 1 := by kernel_rfl
theorem zv76 : zeroV Try.prog 76 = some (.nilFunc) := by kernel_rfl
theorem ld76 (c : List Value) (off : Nat) : loadV Try.prog 76 c off = at? c off := by kernel_rfl
theorem sz77 : szV Try.prog 77 = some 1 := by kernel_rfl
theorem zv77 : zeroV Try.prog 77 = some (.nilFunc) := by kernel_rfl
theorem ld77 (c : List Value) (off : Nat) : loadV Try.prog 77 c off = at? c off := by kernel_rfl
theorem sz78 : szV Try.prog 78 = some 1 := by kernel_rfl
theorem zv78 : zeroV Try.prog 78 = some (.nilFunc) := by kernel_rfl
theorem ld78 (c : List Value) (off : Nat) : loadV Try.prog 78 c off = at? c off := by kernel_rfl
theorem sz79 : szV Try.prog 79 = some 1 := by kernel_rfl
theorem zv79 : zeroV Try.prog 79 = some (.nilFunc) := by kernel_rfl
theorem ld79 (c : List Value) (off : Nat) : loadV Try.prog 79 c off = at? c off := by kernel_rfl
theorem sz80 : szV Try.prog 80 = some 2 := by kernel_rfl
theorem zv80 : zeroV Try.prog 80 = some (.agg #[.string ByteArray.empty, .int .i64 0]) := by kernel_rfl
theorem ld80 (c : List Value) (off : Nat) : loadV Try.prog 80 c off = (cut c off 2).map fun l => .agg l.toArray := by kernel_rfl
theorem fa80_0 : fieldAt Try.prog 80 0 = some (0, 1) := by kernel_rfl
theorem fo80_0 : fieldOf Try.prog 80 0 = some (0, 9) := by kernel_rfl
theorem fa80_1 : fieldAt Try.prog 80 1 = some (1, 1) := by kernel_rfl
theorem fo80_1 : fieldOf Try.prog 80 1 = some (1, 3) := by kernel_rfl
theorem sz81 : szV Try.prog 81 = some 2 := by kernel_rfl
theorem zv81 : zeroV Try.prog 81 = some (.agg #[.string ByteArray.empty, .int .i64 0]) := by kernel_rfl
theorem ld81 (c : List Value) (off : Nat) : loadV Try.prog 81 c off = (cut c off 2).map fun l => .agg l.toArray := by kernel_rfl
theorem fa81_0 : fieldAt Try.prog 81 0 = some (0, 1) := by kernel_rfl
theorem fo81_0 : fieldOf Try.prog 81 0 = some (0, 9) := by kernel_rfl
theorem fa81_1 : fieldAt Try.prog 81 1 = some (1, 1) := by kernel_rfl
theorem fo81_1 : fieldOf Try.prog 81 1 = some (1, 3) := by kernel_rfl
theorem sz82 : szV Try.prog 82 = some 1 := by kernel_rfl
theorem zv82 : zeroV Try.prog 82 = some (.nilFunc) := by kernel_rfl
theorem ld82 (c : List Value) (off : Nat) : loadV Try.prog 82 c off = at? c off := by kernel_rfl
theorem sz83 : szV Try.prog 83 = some 2 := by kernel_rfl
theorem zv83 : zeroV Try.prog 83 = some (.agg #[.int .i64 0, .int .i64 0]) := by kernel_rfl
theorem ld83 (c : List Value) (off : Nat) : loadV Try.prog 83 c off = (cut c off 2).map fun l => .agg l.toArray := by kernel_rfl
theorem ar83 : arrOf Try.prog 83 = some (2, 1) := by kernel_rfl
theorem sz85 : szV Try.prog 85 = some 1 := by kernel_rfl
theorem zv85 : zeroV Try.prog 85 = some (.nilFunc) := by kernel_rfl
theorem ld85 (c : List Value) (off : Nat) : loadV Try.prog 85 c off = at? c off := by kernel_rfl
theorem sz86 : szV Try.prog 86 = some 1 := by kernel_rfl
theorem zv86 : zeroV Try.prog 86 = some (.nilFunc) := by kernel_rfl
theorem ld86 (c : List Value) (off : Nat) : loadV Try.prog 86 c off = at? c off := by kernel_rfl
theorem sz87 : szV Try.prog 87 = some 1 := by kernel_rfl
theorem zv87 : zeroV Try.prog 87 = some (.nilFunc) := by kernel_rfl
theorem ld87 (c : List Value) (off : Nat) : loadV Try.prog 87 c off = at? c off := by kernel_rfl
theorem sz88 : szV Try.prog 88 = some 1 := by kernel_rfl
theorem zv88 : zeroV Try.prog 88 = some (.nilFunc) := by kernel_rfl
theorem ld88 (c : List Value) (off : Nat) : loadV Try.prog 88 c off = at? c off := by kernel_rfl
theorem sz89 : szV Try.prog 89 = some 1 := by kernel_rfl
theorem zv89 : zeroV Try.prog 89 = some (.slice none 0 0) := by kernel_rfl
theorem ld89 (c : List Value) (off : Nat) : loadV Try.prog 89 c off = at? c off := by kernel_rfl
theorem es89 : eltOf Try.prog 89 = some 2 := by kernel_rfl
theorem sz90 : szV Try.prog 90 = some 1 := by kernel_rfl
theorem zv90 : zeroV Try.prog 90 = some (.nilFunc) := by kernel_rfl
theorem ld90 (c : List Value) (off : Nat) : loadV Try.prog 90 c off = at? c off := by kernel_rfl
theorem sz91 : szV Try.prog 91 = some 1 := by kernel_rfl
theorem zv91 : zeroV Try.prog 91 = some (.nilFunc) := by kernel_rfl
theorem ld91 (c : List Value) (off : Nat) : loadV Try.prog 91 c off = at? c off := by kernel_rfl
theorem sz92 : szV Try.prog 92 = some 1 := by kernel_rfl
theorem zv92 : zeroV Try.prog 92 = some (.nilFunc) := by kernel_rfl
theorem ld92 (c : List Value) (off : Nat) : loadV Try.prog 92 c off = at? c off := by kernel_rfl
theorem sz93 : szV Try.prog 93 = some 2 := by kernel_rfl
theorem zv93 : zeroV Try.prog 93 = some (.agg #[.string ByteArray.empty, .int .i64 0]) := by kernel_rfl
theorem ld93 (c : List Value) (off : Nat) : loadV Try.prog 93 c off = (cut c off 2).map fun l => .agg l.toArray := by kernel_rfl
theorem fa93_0 : fieldAt Try.prog 93 0 = some (0, 1) := by kernel_rfl
theorem fo93_0 : fieldOf Try.prog 93 0 = some (0, 9) := by kernel_rfl
theorem fa93_1 : fieldAt Try.prog 93 1 = some (1, 1) := by kernel_rfl
theorem fo93_1 : fieldOf Try.prog 93 1 = some (1, 3) := by kernel_rfl
theorem sz94 : szV Try.prog 94 = some 2 := by kernel_rfl
theorem zv94 : zeroV Try.prog 94 = some (.agg #[.string ByteArray.empty, .int .i64 0]) := by kernel_rfl
theorem ld94 (c : List Value) (off : Nat) : loadV Try.prog 94 c off = (cut c off 2).map fun l => .agg l.toArray := by kernel_rfl
theorem fa94_0 : fieldAt Try.prog 94 0 = some (0, 1) := by kernel_rfl
theorem fo94_0 : fieldOf Try.prog 94 0 = some (0, 9) := by kernel_rfl
theorem fa94_1 : fieldAt Try.prog 94 1 = some (1, 1) := by kernel_rfl
theorem fo94_1 : fieldOf Try.prog 94 1 = some (1, 3) := by kernel_rfl
theorem sz95 : szV Try.prog 95 = some 1 := by kernel_rfl
theorem zv95 : zeroV Try.prog 95 = some (.nilFunc) := by kernel_rfl
theorem ld95 (c : List Value) (off : Nat) : loadV Try.prog 95 c off = at? c off := by kernel_rfl
theorem sz96 : szV Try.prog 96 = some 1 := by kernel_rfl
theorem zv96 : zeroV Try.prog 96 = some (.int .u64 0) := by kernel_rfl
theorem ld96 (c : List Value) (off : Nat) : loadV Try.prog 96 c off = at? c off := by kernel_rfl
theorem sz97 : szV Try.prog 97 = some 1 := by kernel_rfl
theorem zv97 : zeroV Try.prog 97 = some (.nilFunc) := by kernel_rfl
theorem ld97 (c : List Value) (off : Nat) : loadV Try.prog 97 c off = at? c off := by kernel_rfl
theorem sz98 : szV Try.prog 98 = some 1 := by kernel_rfl
theorem zv98 : zeroV Try.prog 98 = some (.nilFunc) := by kernel_rfl
theorem ld98 (c : List Value) (off : Nat) : loadV Try.prog 98 c off = at? c off := by kernel_rfl
theorem sz99 : szV Try.prog 99 = some 1 := by kernel_rfl
theorem zv99 : zeroV Try.prog 99 = some (.nilFunc) := by kernel_rfl
theorem ld99 (c : List Value) (off : Nat) : loadV Try.prog 99 c off = at? c off := by kernel_rfl
theorem sz100 : szV Try.prog 100 = some 1 := by kernel_rfl
theorem zv100 : zeroV Try.prog 100 = some (.nilFunc) := by kernel_rfl
theorem ld100 (c : List Value) (off : Nat) : loadV Try.prog 100 c off = at? c off := by kernel_rfl
theorem sz101 : szV Try.prog 101 = some 1 := by kernel_rfl
theorem zv101 : zeroV Try.prog 101 = some (.nilFunc) := by kernel_rfl
theorem ld101 (c : List Value) (off : Nat) : loadV Try.prog 101 c off = at? c off := by kernel_rfl
theorem sz102 : szV Try.prog 102 = some 1 := by kernel_rfl
theorem zv102 : zeroV Try.prog 102 = some (.nilFunc) := by kernel_rfl
theorem ld102 (c : List Value) (off : Nat) : loadV Try.prog 102 c off = at? c off := by kernel_rfl
theorem sz103 : szV Try.prog 103 = some 1 := by kernel_rfl
theorem zv103 : zeroV Try.prog 103 = some (.nilFunc) := by kernel_rfl
theorem ld103 (c : List Value) (off : Nat) : loadV Try.prog 103 c off = at? c off := by kernel_rfl
theorem sz105 : szV Try.prog 105 = some 1 := by kernel_rfl
theorem zv105 : zeroV Try.prog 105 = some (.nilFunc) := by kernel_rfl
theorem ld105 (c : List Value) (off : Nat) : loadV Try.prog 105 c off = at? c off := by kernel_rfl
theorem sz106 : szV Try.prog 106 = some 1 := by kernel_rfl
theorem zv106 : zeroV Try.prog 106 = some (.nilFunc) := by kernel_rfl
theorem ld106 (c : List Value) (off : Nat) : loadV Try.prog 106 c off = at? c off := by kernel_rfl
theorem sz107 : szV Try.prog 107 = some 1 := by kernel_rfl
theorem zv107 : zeroV Try.prog 107 = some (.nilFunc) := by kernel_rfl
theorem ld107 (c : List Value) (off : Nat) : loadV Try.prog 107 c off = at? c off := by kernel_rfl
theorem sz108 : szV Try.prog 108 = some 2 := by kernel_rfl
theorem zv108 : zeroV Try.prog 108 = some (.agg #[.slice none 0 0, .slice none 0 0]) := by kernel_rfl
theorem ld108 (c : List Value) (off : Nat) : loadV Try.prog 108 c off = (cut c off 2).map fun l => .agg l.toArray := by kernel_rfl
theorem fa108_0 : fieldAt Try.prog 108 0 = some (0, 1) := by kernel_rfl
theorem fo108_0 : fieldOf Try.prog 108 0 = some (0, 48) := by kernel_rfl
theorem fa108_1 : fieldAt Try.prog 108 1 = some (1, 1) := by kernel_rfl
theorem fo108_1 : fieldOf Try.prog 108 1 = some (1, 48) := by kernel_rfl
theorem sz109 : szV Try.prog 109 = some 2 := by kernel_rfl
theorem zv109 : zeroV Try.prog 109 = some (.agg #[.slice none 0 0, .slice none 0 0]) := by kernel_rfl
theorem ld109 (c : List Value) (off : Nat) : loadV Try.prog 109 c off = (cut c off 2).map fun l => .agg l.toArray := by kernel_rfl
theorem fa109_0 : fieldAt Try.prog 109 0 = some (0, 1) := by kernel_rfl
theorem fo109_0 : fieldOf Try.prog 109 0 = some (0, 48) := by kernel_rfl
theorem fa109_1 : fieldAt Try.prog 109 1 = some (1, 1) := by kernel_rfl
theorem fo109_1 : fieldOf Try.prog 109 1 = some (1, 48) := by kernel_rfl
theorem sz110 : szV Try.prog 110 = some 1 := by kernel_rfl
theorem zv110 : zeroV Try.prog 110 = some (.nilFunc) := by kernel_rfl
theorem ld110 (c : List Value) (off : Nat) : loadV Try.prog 110 c off = at? c off := by kernel_rfl
theorem sz111 : szV Try.prog 111 = some 1 := by kernel_rfl
theorem zv111 : zeroV Try.prog 111 = some (.nilFunc) := by kernel_rfl
theorem ld111 (c : List Value) (off : Nat) : loadV Try.prog 111 c off = at? c off := by kernel_rfl
theorem sz112 : szV Try.prog 112 = some 1 := by kernel_rfl
theorem zv112 : zeroV Try.prog 112 = some (.nilFunc) := by kernel_rfl
theorem ld112 (c : List Value) (off : Nat) : loadV Try.prog 112 c off = at? c off := by kernel_rfl
theorem sz113 : szV Try.prog 113 = some 1 := by kernel_rfl
theorem zv113 : zeroV Try.prog 113 = some (.pointer none) := by kernel_rfl
theorem ld113 (c : List Value) (off : Nat) : loadV Try.prog 113 c off = at? c off := by kernel_rfl
theorem sz114 : szV Try.prog 114 = some 1 := by kernel_rfl
theorem zv114 : zeroV Try.prog 114 = some (.slice none 0 0) := by kernel_rfl
theorem ld114 (c : List Value) (off : Nat) : loadV Try.prog 114 c off = at? c off := by kernel_rfl
theorem es114 : eltOf Try.prog 114 = some 1 := by kernel_rfl
theorem sz115 : szV Try.prog 115 = some 3 := by kernel_rfl
theorem zv115 : zeroV Try.prog 115 = some (.agg #[.bool false, .slice none 0 0, .slice none 0 0]) := by kernel_rfl
theorem ld115 (c : List Value) (off : Nat) : loadV Try.prog 115 c off = (cut c off 3).map fun l => .agg l.toArray := by kernel_rfl
theorem fa115_0 : fieldAt Try.prog 115 0 = some (0, 1) := by kernel_rfl
theorem fo115_0 : fieldOf Try.prog 115 0 = some (0, 4) := by kernel_rfl
theorem fa115_1 : fieldAt Try.prog 115 1 = some (1, 1) := by kernel_rfl
theorem fo115_1 : fieldOf Try.prog 115 1 = some (1, 114) := by kernel_rfl
theorem fa115_2 : fieldAt Try.prog 115 2 = some (2, 1) := by kernel_rfl
theorem fo115_2 : fieldOf Try.prog 115 2 = some (2, 114) := by kernel_rfl
theorem sz116 : szV Try.prog 116 = some 3 := by kernel_rfl
theorem zv116 : zeroV Try.prog 116 = some (.agg #[.bool false, .slice none 0 0, .slice none 0 0]) := by kernel_rfl
theorem ld116 (c : List Value) (off : Nat) : loadV Try.prog 116 c off = (cut c off 3).map fun l => .agg l.toArray := by kernel_rfl
theorem fa116_0 : fieldAt Try.prog 116 0 = some (0, 1) := by kernel_rfl
theorem fo116_0 : fieldOf Try.prog 116 0 = some (0, 4) := by kernel_rfl
theorem fa116_1 : fieldAt Try.prog 116 1 = some (1, 1) := by kernel_rfl
theorem fo116_1 : fieldOf Try.prog 116 1 = some (1, 114) := by kernel_rfl
theorem fa116_2 : fieldAt Try.prog 116 2 = some (2, 1) := by kernel_rfl
theorem fo116_2 : fieldOf Try.prog 116 2 = some (2, 114) := by kernel_rfl
theorem sz117 : szV Try.prog 117 = some 1 := by kernel_rfl
theorem zv117 : zeroV Try.prog 117 = some (.nilFunc) := by kernel_rfl
theorem ld117 (c : List Value) (off : Nat) : loadV Try.prog 117 c off = at? c off := by kernel_rfl
theorem sz118 : szV Try.prog 118 = some 1 := by kernel_rfl
theorem zv118 : zeroV Try.prog 118 = some (.nilFunc) := by kernel_rfl
theorem ld118 (c : List Value) (off : Nat) : loadV Try.prog 118 c off = at? c off := by kernel_rfl
theorem sz119 : szV Try.prog 119 = some 1 := by kernel_rfl
theorem zv119 : zeroV Try.prog 119 = some (.nilFunc) := by kernel_rfl
theorem ld119 (c : List Value) (off : Nat) : loadV Try.prog 119 c off = at? c off := by kernel_rfl
theorem sz120 : szV Try.prog 120 = some 1 := by kernel_rfl
theorem zv120 : zeroV Try.prog 120 = some (.nilFunc) := by kernel_rfl
theorem ld120 (c : List Value) (off : Nat) : loadV Try.prog 120 c off = at? c off := by kernel_rfl
theorem sz121 : szV Try.prog 121 = some 1 := by kernel_rfl
theorem zv121 : zeroV Try.prog 121 = some (.nilFunc) := by kernel_rfl
theorem ld121 (c : List Value) (off : Nat) : loadV Try.prog 121 c off = at? c off := by kernel_rfl
theorem sz123 : szV Try.prog 123 = some 1 := by kernel_rfl
theorem zv123 : zeroV Try.prog 123 = some (.nilFunc) := by kernel_rfl
theorem ld123 (c : List Value) (off : Nat) : loadV Try.prog 123 c off = at? c off := by kernel_rfl
theorem sz124 : szV Try.prog 124 = some 1 := by kernel_rfl
theorem zv124 : zeroV Try.prog 124 = some (.nilFunc) := by kernel_rfl
theorem ld124 (c : List Value) (off : Nat) : loadV Try.prog 124 c off = at? c off := by kernel_rfl
theorem sz125 : szV Try.prog 125 = some 1 := by kernel_rfl
theorem zv125 : zeroV Try.prog 125 = some (.nilFunc) := by kernel_rfl
theorem ld125 (c : List Value) (off : Nat) : loadV Try.prog 125 c off = at? c off := by kernel_rfl
theorem sz126 : szV Try.prog 126 = some 1 := by kernel_rfl
theorem zv126 : zeroV Try.prog 126 = some (.nilFunc) := by kernel_rfl
theorem ld126 (c : List Value) (off : Nat) : loadV Try.prog 126 c off = at? c off := by kernel_rfl
theorem sz127 : szV Try.prog 127 = some 1 := by kernel_rfl
theorem zv127 : zeroV Try.prog 127 = some (.nilFunc) := by kernel_rfl
theorem ld127 (c : List Value) (off : Nat) : loadV Try.prog 127 c off = at? c off := by kernel_rfl
theorem sz128 : szV Try.prog 128 = some 1 := by kernel_rfl
theorem zv128 : zeroV Try.prog 128 = some (.nilFunc) := by kernel_rfl
theorem ld128 (c : List Value) (off : Nat) : loadV Try.prog 128 c off = at? c off := by kernel_rfl
theorem sz129 : szV Try.prog 129 = some 1 := by kernel_rfl
theorem zv129 : zeroV Try.prog 129 = some (.nilFunc) := by kernel_rfl
theorem ld129 (c : List Value) (off : Nat) : loadV Try.prog 129 c off = at? c off := by kernel_rfl
theorem sz130 : szV Try.prog 130 = some 1 := by kernel_rfl
theorem zv130 : zeroV Try.prog 130 = some (.map none) := by kernel_rfl
theorem ld130 (c : List Value) (off : Nat) : loadV Try.prog 130 c off = at? c off := by kernel_rfl
theorem sz131 : szV Try.prog 131 = some 1 := by kernel_rfl
theorem zv131 : zeroV Try.prog 131 = some (.map none) := by kernel_rfl
theorem ld131 (c : List Value) (off : Nat) : loadV Try.prog 131 c off = at? c off := by kernel_rfl
theorem sz132 : szV Try.prog 132 = some 3 := by kernel_rfl
theorem zv132 : zeroV Try.prog 132 = some (.agg #[.slice none 0 0, .map none, .map none]) := by kernel_rfl
theorem ld132 (c : List Value) (off : Nat) : loadV Try.prog 132 c off = (cut c off 3).map fun l => .agg l.toArray := by kernel_rfl
theorem fa132_0 : fieldAt Try.prog 132 0 = some (0, 1) := by kernel_rfl
theorem fo132_0 : fieldOf Try.prog 132 0 = some (0, 62) := by kernel_rfl
theorem fa132_1 : fieldAt Try.prog 132 1 = some (1, 1) := by kernel_rfl
theorem fo132_1 : fieldOf Try.prog 132 1 = some (1, 130) := by kernel_rfl
theorem fa132_2 : fieldAt Try.prog 132 2 = some (2, 1) := by kernel_rfl
theorem fo132_2 : fieldOf Try.prog 132 2 = some (2, 131) := by kernel_rfl
theorem sz133 : szV Try.prog 133 = some 3 := by kernel_rfl
theorem zv133 : zeroV Try.prog 133 = some (.agg #[.slice none 0 0, .map none, .map none]) := by kernel_rfl
theorem ld133 (c : List Value) (off : Nat) : loadV Try.prog 133 c off = (cut c off 3).map fun l => .agg l.toArray := by kernel_rfl
theorem fa133_0 : fieldAt Try.prog 133 0 = some (0, 1) := by kernel_rfl
theorem fo133_0 : fieldOf Try.prog 133 0 = some (0, 62) := by kernel_rfl
theorem fa133_1 : fieldAt Try.prog 133 1 = some (1, 1) := by kernel_rfl
theorem fo133_1 : fieldOf Try.prog 133 1 = some (1, 130) := by kernel_rfl
theorem fa133_2 : fieldAt Try.prog 133 2 = some (2, 1) := by kernel_rfl
theorem fo133_2 : fieldOf Try.prog 133 2 = some (2, 131) := by kernel_rfl
theorem sz134 : szV Try.prog 134 = some 6 := by kernel_rfl
theorem zv134 : zeroV Try.prog 134 = some (.agg #[.string ByteArray.empty, .string ByteArray.empty, .string ByteArray.empty, .string ByteArray.empty, .int .i64 0, .int .i64 0]) := by kernel_rfl
theorem ld134 (c : List Value) (off : Nat) : loadV Try.prog 134 c off = (cut c off 6).map fun l => .agg l.toArray := by kernel_rfl
theorem fa134_0 : fieldAt Try.prog 134 0 = some (0, 1) := by kernel_rfl
theorem fo134_0 : fieldOf Try.prog 134 0 = some (0, 9) := by kernel_rfl
theorem fa134_1 : fieldAt Try.prog 134 1 = some (1, 1) := by kernel_rfl
theorem fo134_1 : fieldOf Try.prog 134 1 = some (1, 9) := by kernel_rfl
theorem fa134_2 : fieldAt Try.prog 134 2 = some (2, 1) := by kernel_rfl
theorem fo134_2 : fieldOf Try.prog 134 2 = some (2, 9) := by kernel_rfl
theorem fa134_3 : fieldAt Try.prog 134 3 = some (3, 1) := by kernel_rfl
theorem fo134_3 : fieldOf Try.prog 134 3 = some (3, 9) := by kernel_rfl
theorem fa134_4 : fieldAt Try.prog 134 4 = some (4, 2) := by kernel_rfl
theorem fo134_4 : fieldOf Try.prog 134 4 = some (4, 23) := by kernel_rfl
theorem sz135 : szV Try.prog 135 = some 6 := by kernel_rfl
theorem zv135 : zeroV Try.prog 135 = some (.agg #[.string ByteArray.empty, .string ByteArray.empty, .string ByteArray.empty, .string ByteArray.empty, .int .i64 0, .int .i64 0]) := by kernel_rfl
theorem ld135 (c : List Value) (off : Nat) : loadV Try.prog 135 c off = (cut c off 6).map fun l => .agg l.toArray := by kernel_rfl
theorem fa135_0 : fieldAt Try.prog 135 0 = some (0, 1) := by kernel_rfl
theorem fo135_0 : fieldOf Try.prog 135 0 = some (0, 9) := by kernel_rfl
theorem fa135_1 : fieldAt Try.prog 135 1 = some (1, 1) := by kernel_rfl
theorem fo135_1 : fieldOf Try.prog 135 1 = some (1, 9) := by kernel_rfl
theorem fa135_2 : fieldAt Try.prog 135 2 = some (2, 1) := by kernel_rfl
theorem fo135_2 : fieldOf Try.prog 135 2 = some (2, 9) := by kernel_rfl
theorem fa135_3 : fieldAt Try.prog 135 3 = some (3, 1) := by kernel_rfl
theorem fo135_3 : fieldOf Try.prog 135 3 = some (3, 9) := by kernel_rfl
theorem fa135_4 : fieldAt Try.prog 135 4 = some (4, 2) := by kernel_rfl
theorem fo135_4 : fieldOf Try.prog 135 4 = some (4, 23) := by kernel_rfl
theorem sz136 : szV Try.prog 136 = some 1 := by kernel_rfl
theorem zv136 : zeroV Try.prog 136 = some (.nilFunc) := by kernel_rfl
theorem ld136 (c : List Value) (off : Nat) : loadV Try.prog 136 c off = at? c off := by kernel_rfl
theorem sz137 : szV Try.prog 137 = some 2 := by kernel_rfl
theorem zv137 : zeroV Try.prog 137 = some (.agg #[.slice none 0 0, .slice none 0 0]) := by kernel_rfl
theorem ld137 (c : List Value) (off : Nat) : loadV Try.prog 137 c off = (cut c off 2).map fun l => .agg l.toArray := by kernel_rfl
theorem fa137_0 : fieldAt Try.prog 137 0 = some (0, 1) := by kernel_rfl
theorem fo137_0 : fieldOf Try.prog 137 0 = some (0, 60) := by kernel_rfl
theorem fa137_1 : fieldAt Try.prog 137 1 = some (1, 1) := by kernel_rfl
theorem fo137_1 : fieldOf Try.prog 137 1 = some (1, 61) := by kernel_rfl
theorem sz138 : szV Try.prog 138 = some 2 := by kernel_rfl
theorem zv138 : zeroV Try.prog 138 = some (.agg #[.slice none 0 0, .slice none 0 0]) := by kernel_rfl
theorem ld138 (c : List Value) (off : Nat) : loadV Try.prog 138 c off = (cut c off 2).map fun l => .agg l.toArray := by kernel_rfl
theorem fa138_0 : fieldAt Try.prog 138 0 = some (0, 1) := by kernel_rfl
theorem fo138_0 : fieldOf Try.prog 138 0 = some (0, 60) := by kernel_rfl
theorem fa138_1 : fieldAt Try.prog 138 1 = some (1, 1) := by kernel_rfl
theorem fo138_1 : fieldOf Try.prog 138 1 = some (1, 61) := by kernel_rfl
theorem sz139 : szV Try.prog 139 = some 1 := by kernel_rfl
theorem zv139 : zeroV Try.prog 139 = some (.nilFunc) := by kernel_rfl
theorem ld139 (c : List Value) (off : Nat) : loadV Try.prog 139 c off = at? c off := by kernel_rfl
theorem sz140 : szV Try.prog 140 = some 1 := by kernel_rfl
theorem zv140 : zeroV Try.prog 140 = some (.nilFunc) := by kernel_rfl
theorem ld140 (c : List Value) (off : Nat) : loadV Try.prog 140 c off = at? c off := by kernel_rfl
theorem sz141 : szV Try.prog 141 = some 1 := by kernel_rfl
theorem zv141 : zeroV Try.prog 141 = some (.nilFunc) := by kernel_rfl
theorem ld141 (c : List Value) (off : Nat) : loadV Try.prog 141 c off = at? c off := by kernel_rfl
theorem sz143 : szV Try.prog 143 = some 1 := by kernel_rfl
theorem zv143 : zeroV Try.prog 143 = some (.nilFunc) := by kernel_rfl
theorem ld143 (c : List Value) (off : Nat) : loadV Try.prog 143 c off = at? c off := by kernel_rfl
theorem sz144 : szV Try.prog 144 = some 1 := by kernel_rfl
theorem zv144 : zeroV Try.prog 144 = some (.slice none 0 0) := by kernel_rfl
theorem ld144 (c : List Value) (off : Nat) : loadV Try.prog 144 c off = at? c off := by kernel_rfl
theorem es144 : eltOf Try.prog 144 = some 2 := by kernel_rfl
theorem sz146 : szV Try.prog 146 = some 1 := by kernel_rfl
theorem zv146 : zeroV Try.prog 146 = some (.nilFunc) := by kernel_rfl
theorem ld146 (c : List Value) (off : Nat) : loadV Try.prog 146 c off = at? c off := by kernel_rfl
theorem sz147 : szV Try.prog 147 = some 1 := by kernel_rfl
theorem zv147 : zeroV Try.prog 147 = some (.nilFunc) := by kernel_rfl
theorem ld147 (c : List Value) (off : Nat) : loadV Try.prog 147 c off = at? c off := by kernel_rfl
theorem sz148 : szV Try.prog 148 = some 1 := by kernel_rfl
theorem zv148 : zeroV Try.prog 148 = some (.nilFunc) := by kernel_rfl
theorem ld148 (c : List Value) (off : Nat) : loadV Try.prog 148 c off = at? c off := by kernel_rfl
theorem sz150 : szV Try.prog 150 = some 1 := by kernel_rfl
theorem zv150 : zeroV Try.prog 150 = some (.nilFunc) := by kernel_rfl
theorem ld150 (c : List Value) (off : Nat) : loadV Try.prog 150 c off = at? c off := by kernel_rfl
theorem sz151 : szV Try.prog 151 = some 1 := by kernel_rfl
theorem zv151 : zeroV Try.prog 151 = some (.nilFunc) := by kernel_rfl
theorem ld151 (c : List Value) (off : Nat) : loadV Try.prog 151 c off = at? c off := by kernel_rfl
theorem sz153 : szV Try.prog 153 = some 1 := by kernel_rfl
theorem zv153 : zeroV Try.prog 153 = some (.nilFunc) := by kernel_rfl
theorem ld153 (c : List Value) (off : Nat) : loadV Try.prog 153 c off = at? c off := by kernel_rfl
theorem sz154 : szV Try.prog 154 = some 1 := by kernel_rfl
theorem zv154 : zeroV Try.prog 154 = some (.nilFunc) := by kernel_rfl
theorem ld154 (c : List Value) (off : Nat) : loadV Try.prog 154 c off = at? c off := by kernel_rfl
theorem sz155 : szV Try.prog 155 = some 1 := by kernel_rfl
theorem zv155 : zeroV Try.prog 155 = some (.nilFunc) := by kernel_rfl
theorem ld155 (c : List Value) (off : Nat) : loadV Try.prog 155 c off = at? c off := by kernel_rfl
theorem sz156 : szV Try.prog 156 = some 1 := by kernel_rfl
theorem zv156 : zeroV Try.prog 156 = some (.nilFunc) := by kernel_rfl
theorem ld156 (c : List Value) (off : Nat) : loadV Try.prog 156 c off = at? c off := by kernel_rfl
theorem sz157 : szV Try.prog 157 = some 1 := by kernel_rfl
theorem zv157 : zeroV Try.prog 157 = some (.slice none 0 0) := by kernel_rfl
theorem ld157 (c : List Value) (off : Nat) : loadV Try.prog 157 c off = at? c off := by kernel_rfl
theorem es157 : eltOf Try.prog 157 = some 1 := by kernel_rfl
theorem sz158 : szV Try.prog 158 = some 1 := by kernel_rfl
theorem zv158 : zeroV Try.prog 158 = some (.nilFunc) := by kernel_rfl
theorem ld158 (c : List Value) (off : Nat) : loadV Try.prog 158 c off = at? c off := by kernel_rfl
theorem sz159 : szV Try.prog 159 = some 1 := by kernel_rfl
theorem zv159 : zeroV Try.prog 159 = some (.slice none 0 0) := by kernel_rfl
theorem ld159 (c : List Value) (off : Nat) : loadV Try.prog 159 c off = at? c off := by kernel_rfl
theorem es159 : eltOf Try.prog 159 = some 3 := by kernel_rfl
theorem sz160 : szV Try.prog 160 = some 3 := by kernel_rfl
theorem zv160 : zeroV Try.prog 160 = some (.agg #[.string ByteArray.empty, .slice none 0 0, .slice none 0 0]) := by kernel_rfl
theorem ld160 (c : List Value) (off : Nat) : loadV Try.prog 160 c off = (cut c off 3).map fun l => .agg l.toArray := by kernel_rfl
theorem fa160_0 : fieldAt Try.prog 160 0 = some (0, 1) := by kernel_rfl
theorem fo160_0 : fieldOf Try.prog 160 0 = some (0, 9) := by kernel_rfl
theorem fa160_1 : fieldAt Try.prog 160 1 = some (1, 2) := by kernel_rfl
theorem fo160_1 : fieldOf Try.prog 160 1 = some (1, 109) := by kernel_rfl
theorem sz161 : szV Try.prog 161 = some 3 := by kernel_rfl
theorem zv161 : zeroV Try.prog 161 = some (.agg #[.string ByteArray.empty, .slice none 0 0, .slice none 0 0]) := by kernel_rfl
theorem ld161 (c : List Value) (off : Nat) : loadV Try.prog 161 c off = (cut c off 3).map fun l => .agg l.toArray := by kernel_rfl
theorem fa161_0 : fieldAt Try.prog 161 0 = some (0, 1) := by kernel_rfl
theorem fo161_0 : fieldOf Try.prog 161 0 = some (0, 9) := by kernel_rfl
theorem fa161_1 : fieldAt Try.prog 161 1 = some (1, 2) := by kernel_rfl
theorem fo161_1 : fieldOf Try.prog 161 1 = some (1, 109) := by kernel_rfl
theorem sz162 : szV Try.prog 162 = some 1 := by kernel_rfl
theorem zv162 : zeroV Try.prog 162 = some (.nilFunc) := by kernel_rfl
theorem ld162 (c : List Value) (off : Nat) : loadV Try.prog 162 c off = at? c off := by kernel_rfl
theorem sz164 : szV Try.prog 164 = some 1 := by kernel_rfl
theorem zv164 : zeroV Try.prog 164 = some (.nilFunc) := by kernel_rfl
theorem ld164 (c : List Value) (off : Nat) : loadV Try.prog 164 c off = at? c off := by kernel_rfl
theorem sz165 : szV Try.prog 165 = some 1 := by kernel_rfl
theorem zv165 : zeroV Try.prog 165 = some (.slice none 0 0) := by kernel_rfl
theorem ld165 (c : List Value) (off : Nat) : loadV Try.prog 165 c off = at? c off := by kernel_rfl
theorem es165 : eltOf Try.prog 165 = some 1 := by kernel_rfl
theorem sz166 : szV Try.prog 166 = some 2 := by kernel_rfl
theorem zv166 : zeroV Try.prog 166 = some (.agg #[.int .i64 0, .slice none 0 0]) := by kernel_rfl
theorem ld166 (c : List Value) (off : Nat) : loadV Try.prog 166 c off = (cut c off 2).map fun l => .agg l.toArray := by kernel_rfl
theorem fa166_0 : fieldAt Try.prog 166 0 = some (0, 1) := by kernel_rfl
theorem fo166_0 : fieldOf Try.prog 166 0 = some (0, 3) := by kernel_rfl
theorem fa166_1 : fieldAt Try.prog 166 1 = some (1, 1) := by kernel_rfl
theorem fo166_1 : fieldOf Try.prog 166 1 = some (1, 144) := by kernel_rfl
theorem sz167 : szV Try.prog 167 = some 2 := by kernel_rfl
theorem zv167 : zeroV Try.prog 167 = some (.agg #[.int .i64 0, .slice none 0 0]) := by kernel_rfl
theorem ld167 (c : List Value) (off : Nat) : loadV Try.prog 167 c off = (cut c off 2).map fun l => .agg l.toArray := by kernel_rfl
theorem fa167_0 : fieldAt Try.prog 167 0 = some (0, 1) := by kernel_rfl
theorem fo167_0 : fieldOf Try.prog 167 0 = some (0, 3) := by kernel_rfl
theorem fa167_1 : fieldAt Try.prog 167 1 = some (1, 1) := by kernel_rfl
theorem fo167_1 : fieldOf Try.prog 167 1 = some (1, 144) := by kernel_rfl
theorem sz168 : szV Try.prog 168 = some 1 := by kernel_rfl
theorem zv168 : zeroV Try.prog 168 = some (.slice none 0 0) := by kernel_rfl
theorem ld168 (c : List Value) (off : Nat) : loadV Try.prog 168 c off = at? c off := by kernel_rfl
theorem es168 : eltOf Try.prog 168 = some 2 := by kernel_rfl
theorem sz169 : szV Try.prog 169 = some 1 := by kernel_rfl
theorem zv169 : zeroV Try.prog 169 = some (.nilFunc) := by kernel_rfl
theorem ld169 (c : List Value) (off : Nat) : loadV Try.prog 169 c off = at? c off := by kernel_rfl
theorem sz170 : szV Try.prog 170 = some 2 := by kernel_rfl
theorem zv170 : zeroV Try.prog 170 = some (.agg #[.int .i64 0, .bool false]) := by kernel_rfl
theorem ld170 (c : List Value) (off : Nat) : loadV Try.prog 170 c off = (cut c off 2).map fun l => .agg l.toArray := by kernel_rfl
theorem fa170_0 : fieldAt Try.prog 170 0 = some (0, 1) := by kernel_rfl
theorem fo170_0 : fieldOf Try.prog 170 0 = some (0, 3) := by kernel_rfl
theorem fa170_1 : fieldAt Try.prog 170 1 = some (1, 1) := by kernel_rfl
theorem fo170_1 : fieldOf Try.prog 170 1 = some (1, 4) := by kernel_rfl
theorem sz171 : szV Try.prog 171 = some 2 := by kernel_rfl
theorem zv171 : zeroV Try.prog 171 = some (.agg #[.int .i64 0, .bool false]) := by kernel_rfl
theorem ld171 (c : List Value) (off : Nat) : loadV Try.prog 171 c off = (cut c off 2).map fun l => .agg l.toArray := by kernel_rfl
theorem fa171_0 : fieldAt Try.prog 171 0 = some (0, 1) := by kernel_rfl
theorem fo171_0 : fieldOf Try.prog 171 0 = some (0, 3) := by kernel_rfl
theorem fa171_1 : fieldAt Try.prog 171 1 = some (1, 1) := by kernel_rfl
theorem fo171_1 : fieldOf Try.prog 171 1 = some (1, 4) := by kernel_rfl
theorem sz172 : szV Try.prog 172 = some 1 := by kernel_rfl
theorem zv172 : zeroV Try.prog 172 = some (.nilFunc) := by kernel_rfl
theorem ld172 (c : List Value) (off : Nat) : loadV Try.prog 172 c off = at? c off := by kernel_rfl
theorem sz173 : szV Try.prog 173 = some 1 := by kernel_rfl
theorem zv173 : zeroV Try.prog 173 = some (.slice none 0 0) := by kernel_rfl
theorem ld173 (c : List Value) (off : Nat) : loadV Try.prog 173 c off = at? c off := by kernel_rfl
theorem es173 : eltOf Try.prog 173 = some 1 := by kernel_rfl
theorem sz174 : szV Try.prog 174 = some 1 := by kernel_rfl
theorem zv174 : zeroV Try.prog 174 = some (.nilFunc) := by kernel_rfl
theorem ld174 (c : List Value) (off : Nat) : loadV Try.prog 174 c off = at? c off := by kernel_rfl
theorem sz175 : szV Try.prog 175 = some 1 := by kernel_rfl
theorem zv175 : zeroV Try.prog 175 = some (.nilFunc) := by kernel_rfl
theorem ld175 (c : List Value) (off : Nat) : loadV Try.prog 175 c off = at? c off := by kernel_rfl
theorem sz176 : szV Try.prog 176 = some 1 := by kernel_rfl
theorem zv176 : zeroV Try.prog 176 = some (.nilFunc) := by kernel_rfl
theorem ld176 (c : List Value) (off : Nat) : loadV Try.prog 176 c off = at? c off := by kernel_rfl
theorem sz182 : szV Try.prog 182 = some 1 := by kernel_rfl
theorem zv182 : zeroV Try.prog 182 = some (.nilFunc) := by kernel_rfl
theorem ld182 (c : List Value) (off : Nat) : loadV Try.prog 182 c off = at? c off := by kernel_rfl
theorem sz183 : szV Try.prog 183 = some 1 := by kernel_rfl
theorem zv183 : zeroV Try.prog 183 = some (.int .u32 0) := by kernel_rfl
theorem ld183 (c : List Value) (off : Nat) : loadV Try.prog 183 c off = at? c off := by kernel_rfl
theorem sz186 : szV Try.prog 186 = some 1 := by kernel_rfl
theorem zv186 : zeroV Try.prog 186 = some (.nilFunc) := by kernel_rfl
theorem ld186 (c : List Value) (off : Nat) : loadV Try.prog 186 c off = at? c off := by kernel_rfl
theorem sz187 : szV Try.prog 187 = some 1 := by kernel_rfl
theorem zv187 : zeroV Try.prog 187 = some (.pointer none) := by kernel_rfl
theorem ld187 (c : List Value) (off : Nat) : loadV Try.prog 187 c off = at? c off := by kernel_rfl
theorem sz192 : szV Try.prog 192 = some 1 := by kernel_rfl
theorem zv192 : zeroV Try.prog 192 = some (.pointer none) := by kernel_rfl
theorem ld192 (c : List Value) (off : Nat) : loadV Try.prog 192 c off = at? c off := by kernel_rfl
theorem bv13 (ps : List (Nat × Value)) : buildV Try.prog 13 ps = aggOf (fillL (plOf Try.prog 13) ps [.string ByteArray.empty, .int .u64 0]) := by kernel_rfl
theorem pl13_0 : plOf Try.prog 13 0 = some (0, 1) := by kernel_rfl
theorem pl13_1 : plOf Try.prog 13 1 = some (1, 1) := by kernel_rfl
theorem bv22 (ps : List (Nat × Value)) : buildV Try.prog 22 ps = aggOf (fillL (plOf Try.prog 22) ps [.int .i64 0, .int .i64 0]) := by kernel_rfl
theorem pl22_0 : plOf Try.prog 22 0 = some (0, 1) := by kernel_rfl
theorem pl22_1 : plOf Try.prog 22 1 = some (1, 1) := by kernel_rfl
theorem bv23 (ps : List (Nat × Value)) : buildV Try.prog 23 ps = aggOf (fillL (plOf Try.prog 23) ps [.int .i64 0, .int .i64 0]) := by kernel_rfl
theorem pl23_0 : plOf Try.prog 23 0 = some (0, 1) := by kernel_rfl
theorem pl23_1 : plOf Try.prog 23 1 = some (1, 1) := by kernel_rfl
theorem eq23 (a0 b0 : Int) (a1 b1 : Int) : valEq Try.prog 23 (.agg #[.int .i64 a0, .int .i64 a1]) (.agg #[.int .i64 b0, .int .i64 b1]) = some (decide (a0 = b0 ∧ a1 = b1)) := by
  have h : valEq Try.prog 23 (.agg #[.int .i64 a0, .int .i64 a1]) (.agg #[.int .i64 b0, .int .i64 b1]) = (match some (eqI a0 b0) with | some true => (match some (eqI a1 b1) with | some true => some true | some false => some false | none => none) | some false => some false | none => none) := by kernel_rfl
  rw [h]; exact eqs2 (by first | exact eqI_spec _ _ | exact bytesEq_dec _ _ | exact beq_dec _ _) (by first | exact eqI_spec _ _ | exact bytesEq_dec _ _ | exact beq_dec _ _)
theorem be23 (a0 b0 : Int) (a1 b1 : Int) : bin Try.prog .eql 23 (.agg #[.int .i64 a0, .int .i64 a1]) (.agg #[.int .i64 b0, .int .i64 b1]) = some (.bool (decide (a0 = b0 ∧ a1 = b1))) := bin_eql_agg (eq23 a0 b0 a1 b1)
theorem bn23 (a0 b0 : Int) (a1 b1 : Int) : bin Try.prog .neq 23 (.agg #[.int .i64 a0, .int .i64 a1]) (.agg #[.int .i64 b0, .int .i64 b1]) = some (.bool (decide (¬ (a0 = b0 ∧ a1 = b1)))) := bin_neq_agg (eq23 a0 b0 a1 b1)
theorem bv41 (ps : List (Nat × Value)) : buildV Try.prog 41 ps = aggOf (fillL (plOf Try.prog 41) ps [.string ByteArray.empty, .slice none 0 0]) := by kernel_rfl
theorem pl41_0 : plOf Try.prog 41 0 = some (0, 1) := by kernel_rfl
theorem pl41_1 : plOf Try.prog 41 1 = some (1, 1) := by kernel_rfl
theorem bv42 (ps : List (Nat × Value)) : buildV Try.prog 42 ps = aggOf (fillL (plOf Try.prog 42) ps [.string ByteArray.empty, .slice none 0 0]) := by kernel_rfl
theorem pl42_0 : plOf Try.prog 42 0 = some (0, 1) := by kernel_rfl
theorem pl42_1 : plOf Try.prog 42 1 = some (1, 1) := by kernel_rfl
theorem bv64 (ps : List (Nat × Value)) : buildV Try.prog 64 ps = aggOf (fillL (plOf Try.prog 64) ps [.slice none 0 0, .slice none 0 0, .slice none 0 0, .slice none 0 0]) := by kernel_rfl
theorem pl64_0 : plOf Try.prog 64 0 = some (0, 1) := by kernel_rfl
theorem pl64_1 : plOf Try.prog 64 1 = some (1, 1) := by kernel_rfl
theorem pl64_2 : plOf Try.prog 64 2 = some (2, 1) := by kernel_rfl
theorem pl64_3 : plOf Try.prog 64 3 = some (3, 1) := by kernel_rfl
theorem bv65 (ps : List (Nat × Value)) : buildV Try.prog 65 ps = aggOf (fillL (plOf Try.prog 65) ps [.slice none 0 0, .slice none 0 0, .slice none 0 0, .slice none 0 0]) := by kernel_rfl
theorem pl65_0 : plOf Try.prog 65 0 = some (0, 1) := by kernel_rfl
theorem pl65_1 : plOf Try.prog 65 1 = some (1, 1) := by kernel_rfl
theorem pl65_2 : plOf Try.prog 65 2 = some (2, 1) := by kernel_rfl
theorem pl65_3 : plOf Try.prog 65 3 = some (3, 1) := by kernel_rfl
theorem bv80 (ps : List (Nat × Value)) : buildV Try.prog 80 ps = aggOf (fillL (plOf Try.prog 80) ps [.string ByteArray.empty, .int .i64 0]) := by kernel_rfl
theorem pl80_0 : plOf Try.prog 80 0 = some (0, 1) := by kernel_rfl
theorem pl80_1 : plOf Try.prog 80 1 = some (1, 1) := by kernel_rfl
theorem bv81 (ps : List (Nat × Value)) : buildV Try.prog 81 ps = aggOf (fillL (plOf Try.prog 81) ps [.string ByteArray.empty, .int .i64 0]) := by kernel_rfl
theorem pl81_0 : plOf Try.prog 81 0 = some (0, 1) := by kernel_rfl
theorem pl81_1 : plOf Try.prog 81 1 = some (1, 1) := by kernel_rfl
theorem eq81 (a0 b0 : ByteArray) (a1 b1 : Int) : valEq Try.prog 81 (.agg #[.string a0, .int .i64 a1]) (.agg #[.string b0, .int .i64 b1]) = some (decide (a0 = b0 ∧ a1 = b1)) := by
  have h : valEq Try.prog 81 (.agg #[.string a0, .int .i64 a1]) (.agg #[.string b0, .int .i64 b1]) = (match some (bytesEq a0.data.toList b0.data.toList) with | some true => (match some (eqI a1 b1) with | some true => some true | some false => some false | none => none) | some false => some false | none => none) := by kernel_rfl
  rw [h]; exact eqs2 (by first | exact eqI_spec _ _ | exact bytesEq_dec _ _ | exact beq_dec _ _) (by first | exact eqI_spec _ _ | exact bytesEq_dec _ _ | exact beq_dec _ _)
theorem be81 (a0 b0 : ByteArray) (a1 b1 : Int) : bin Try.prog .eql 81 (.agg #[.string a0, .int .i64 a1]) (.agg #[.string b0, .int .i64 b1]) = some (.bool (decide (a0 = b0 ∧ a1 = b1))) := bin_eql_agg (eq81 a0 b0 a1 b1)
theorem bn81 (a0 b0 : ByteArray) (a1 b1 : Int) : bin Try.prog .neq 81 (.agg #[.string a0, .int .i64 a1]) (.agg #[.string b0, .int .i64 b1]) = some (.bool (decide (¬ (a0 = b0 ∧ a1 = b1)))) := bin_neq_agg (eq81 a0 b0 a1 b1)
theorem bv93 (ps : List (Nat × Value)) : buildV Try.prog 93 ps = aggOf (fillL (plOf Try.prog 93) ps [.string ByteArray.empty, .int .i64 0]) := by kernel_rfl
theorem pl93_0 : plOf Try.prog 93 0 = some (0, 1) := by kernel_rfl
theorem pl93_1 : plOf Try.prog 93 1 = some (1, 1) := by kernel_rfl
theorem bv94 (ps : List (Nat × Value)) : buildV Try.prog 94 ps = aggOf (fillL (plOf Try.prog 94) ps [.string ByteArray.empty, .int .i64 0]) := by kernel_rfl
theorem pl94_0 : plOf Try.prog 94 0 = some (0, 1) := by kernel_rfl
theorem pl94_1 : plOf Try.prog 94 1 = some (1, 1) := by kernel_rfl
theorem eq94 (a0 b0 : ByteArray) (a1 b1 : Int) : valEq Try.prog 94 (.agg #[.string a0, .int .i64 a1]) (.agg #[.string b0, .int .i64 b1]) = some (decide (a0 = b0 ∧ a1 = b1)) := by
  have h : valEq Try.prog 94 (.agg #[.string a0, .int .i64 a1]) (.agg #[.string b0, .int .i64 b1]) = (match some (bytesEq a0.data.toList b0.data.toList) with | some true => (match some (eqI a1 b1) with | some true => some true | some false => some false | none => none) | some false => some false | none => none) := by kernel_rfl
  rw [h]; exact eqs2 (by first | exact eqI_spec _ _ | exact bytesEq_dec _ _ | exact beq_dec _ _) (by first | exact eqI_spec _ _ | exact bytesEq_dec _ _ | exact beq_dec _ _)
theorem be94 (a0 b0 : ByteArray) (a1 b1 : Int) : bin Try.prog .eql 94 (.agg #[.string a0, .int .i64 a1]) (.agg #[.string b0, .int .i64 b1]) = some (.bool (decide (a0 = b0 ∧ a1 = b1))) := bin_eql_agg (eq94 a0 b0 a1 b1)
theorem bn94 (a0 b0 : ByteArray) (a1 b1 : Int) : bin Try.prog .neq 94 (.agg #[.string a0, .int .i64 a1]) (.agg #[.string b0, .int .i64 b1]) = some (.bool (decide (¬ (a0 = b0 ∧ a1 = b1)))) := bin_neq_agg (eq94 a0 b0 a1 b1)
theorem bv108 (ps : List (Nat × Value)) : buildV Try.prog 108 ps = aggOf (fillL (plOf Try.prog 108) ps [.slice none 0 0, .slice none 0 0]) := by kernel_rfl
theorem pl108_0 : plOf Try.prog 108 0 = some (0, 1) := by kernel_rfl
theorem pl108_1 : plOf Try.prog 108 1 = some (1, 1) := by kernel_rfl
theorem bv109 (ps : List (Nat × Value)) : buildV Try.prog 109 ps = aggOf (fillL (plOf Try.prog 109) ps [.slice none 0 0, .slice none 0 0]) := by kernel_rfl
theorem pl109_0 : plOf Try.prog 109 0 = some (0, 1) := by kernel_rfl
theorem pl109_1 : plOf Try.prog 109 1 = some (1, 1) := by kernel_rfl
theorem bv115 (ps : List (Nat × Value)) : buildV Try.prog 115 ps = aggOf (fillL (plOf Try.prog 115) ps [.bool false, .slice none 0 0, .slice none 0 0]) := by kernel_rfl
theorem pl115_0 : plOf Try.prog 115 0 = some (0, 1) := by kernel_rfl
theorem pl115_1 : plOf Try.prog 115 1 = some (1, 1) := by kernel_rfl
theorem pl115_2 : plOf Try.prog 115 2 = some (2, 1) := by kernel_rfl
theorem bv116 (ps : List (Nat × Value)) : buildV Try.prog 116 ps = aggOf (fillL (plOf Try.prog 116) ps [.bool false, .slice none 0 0, .slice none 0 0]) := by kernel_rfl
theorem pl116_0 : plOf Try.prog 116 0 = some (0, 1) := by kernel_rfl
theorem pl116_1 : plOf Try.prog 116 1 = some (1, 1) := by kernel_rfl
theorem pl116_2 : plOf Try.prog 116 2 = some (2, 1) := by kernel_rfl
theorem bv132 (ps : List (Nat × Value)) : buildV Try.prog 132 ps = aggOf (fillL (plOf Try.prog 132) ps [.slice none 0 0, .map none, .map none]) := by kernel_rfl
theorem pl132_0 : plOf Try.prog 132 0 = some (0, 1) := by kernel_rfl
theorem pl132_1 : plOf Try.prog 132 1 = some (1, 1) := by kernel_rfl
theorem pl132_2 : plOf Try.prog 132 2 = some (2, 1) := by kernel_rfl
theorem bv133 (ps : List (Nat × Value)) : buildV Try.prog 133 ps = aggOf (fillL (plOf Try.prog 133) ps [.slice none 0 0, .map none, .map none]) := by kernel_rfl
theorem pl133_0 : plOf Try.prog 133 0 = some (0, 1) := by kernel_rfl
theorem pl133_1 : plOf Try.prog 133 1 = some (1, 1) := by kernel_rfl
theorem pl133_2 : plOf Try.prog 133 2 = some (2, 1) := by kernel_rfl
theorem bv134 (ps : List (Nat × Value)) : buildV Try.prog 134 ps = aggOf (fillL (plOf Try.prog 134) ps [.string ByteArray.empty, .string ByteArray.empty, .string ByteArray.empty, .string ByteArray.empty, .int .i64 0, .int .i64 0]) := by kernel_rfl
theorem pl134_0 : plOf Try.prog 134 0 = some (0, 1) := by kernel_rfl
theorem pl134_1 : plOf Try.prog 134 1 = some (1, 1) := by kernel_rfl
theorem pl134_2 : plOf Try.prog 134 2 = some (2, 1) := by kernel_rfl
theorem pl134_3 : plOf Try.prog 134 3 = some (3, 1) := by kernel_rfl
theorem pl134_4 : plOf Try.prog 134 4 = some (4, 2) := by kernel_rfl
theorem bv135 (ps : List (Nat × Value)) : buildV Try.prog 135 ps = aggOf (fillL (plOf Try.prog 135) ps [.string ByteArray.empty, .string ByteArray.empty, .string ByteArray.empty, .string ByteArray.empty, .int .i64 0, .int .i64 0]) := by kernel_rfl
theorem pl135_0 : plOf Try.prog 135 0 = some (0, 1) := by kernel_rfl
theorem pl135_1 : plOf Try.prog 135 1 = some (1, 1) := by kernel_rfl
theorem pl135_2 : plOf Try.prog 135 2 = some (2, 1) := by kernel_rfl
theorem pl135_3 : plOf Try.prog 135 3 = some (3, 1) := by kernel_rfl
theorem pl135_4 : plOf Try.prog 135 4 = some (4, 2) := by kernel_rfl
theorem bv137 (ps : List (Nat × Value)) : buildV Try.prog 137 ps = aggOf (fillL (plOf Try.prog 137) ps [.slice none 0 0, .slice none 0 0]) := by kernel_rfl
theorem pl137_0 : plOf Try.prog 137 0 = some (0, 1) := by kernel_rfl
theorem pl137_1 : plOf Try.prog 137 1 = some (1, 1) := by kernel_rfl
theorem bv138 (ps : List (Nat × Value)) : buildV Try.prog 138 ps = aggOf (fillL (plOf Try.prog 138) ps [.slice none 0 0, .slice none 0 0]) := by kernel_rfl
theorem pl138_0 : plOf Try.prog 138 0 = some (0, 1) := by kernel_rfl
theorem pl138_1 : plOf Try.prog 138 1 = some (1, 1) := by kernel_rfl
theorem bv160 (ps : List (Nat × Value)) : buildV Try.prog 160 ps = aggOf (fillL (plOf Try.prog 160) ps [.string ByteArray.empty, .slice none 0 0, .slice none 0 0]) := by kernel_rfl
theorem pl160_0 : plOf Try.prog 160 0 = some (0, 1) := by kernel_rfl
theorem pl160_1 : plOf Try.prog 160 1 = some (1, 2) := by kernel_rfl
theorem bv161 (ps : List (Nat × Value)) : buildV Try.prog 161 ps = aggOf (fillL (plOf Try.prog 161) ps [.string ByteArray.empty, .slice none 0 0, .slice none 0 0]) := by kernel_rfl
theorem pl161_0 : plOf Try.prog 161 0 = some (0, 1) := by kernel_rfl
theorem pl161_1 : plOf Try.prog 161 1 = some (1, 2) := by kernel_rfl
theorem bv166 (ps : List (Nat × Value)) : buildV Try.prog 166 ps = aggOf (fillL (plOf Try.prog 166) ps [.int .i64 0, .slice none 0 0]) := by kernel_rfl
theorem pl166_0 : plOf Try.prog 166 0 = some (0, 1) := by kernel_rfl
theorem pl166_1 : plOf Try.prog 166 1 = some (1, 1) := by kernel_rfl
theorem bv167 (ps : List (Nat × Value)) : buildV Try.prog 167 ps = aggOf (fillL (plOf Try.prog 167) ps [.int .i64 0, .slice none 0 0]) := by kernel_rfl
theorem pl167_0 : plOf Try.prog 167 0 = some (0, 1) := by kernel_rfl
theorem pl167_1 : plOf Try.prog 167 1 = some (1, 1) := by kernel_rfl
theorem bv170 (ps : List (Nat × Value)) : buildV Try.prog 170 ps = aggOf (fillL (plOf Try.prog 170) ps [.int .i64 0, .bool false]) := by kernel_rfl
theorem pl170_0 : plOf Try.prog 170 0 = some (0, 1) := by kernel_rfl
theorem pl170_1 : plOf Try.prog 170 1 = some (1, 1) := by kernel_rfl
theorem bv171 (ps : List (Nat × Value)) : buildV Try.prog 171 ps = aggOf (fillL (plOf Try.prog 171) ps [.int .i64 0, .bool false]) := by kernel_rfl
theorem pl171_0 : plOf Try.prog 171 0 = some (0, 1) := by kernel_rfl
theorem pl171_1 : plOf Try.prog 171 1 = some (1, 1) := by kernel_rfl
theorem eq171 (a0 b0 : Int) (a1 b1 : Bool) : valEq Try.prog 171 (.agg #[.int .i64 a0, .bool a1]) (.agg #[.int .i64 b0, .bool b1]) = some (decide (a0 = b0 ∧ a1 = b1)) := by
  have h : valEq Try.prog 171 (.agg #[.int .i64 a0, .bool a1]) (.agg #[.int .i64 b0, .bool b1]) = (match some (eqI a0 b0) with | some true => (match some (a1 == b1) with | some true => some true | some false => some false | none => none) | some false => some false | none => none) := by kernel_rfl
  rw [h]; exact eqs2 (by first | exact eqI_spec _ _ | exact bytesEq_dec _ _ | exact beq_dec _ _) (by first | exact eqI_spec _ _ | exact bytesEq_dec _ _ | exact beq_dec _ _)
theorem be171 (a0 b0 : Int) (a1 b1 : Bool) : bin Try.prog .eql 171 (.agg #[.int .i64 a0, .bool a1]) (.agg #[.int .i64 b0, .bool b1]) = some (.bool (decide (a0 = b0 ∧ a1 = b1))) := bin_eql_agg (eq171 a0 b0 a1 b1)
theorem bn171 (a0 b0 : Int) (a1 b1 : Bool) : bin Try.prog .neq 171 (.agg #[.int .i64 a0, .bool a1]) (.agg #[.int .i64 b0, .bool b1]) = some (.bool (decide (¬ (a0 = b0 ∧ a1 = b1)))) := bin_neq_agg (eq171 a0 b0 a1 b1)
attribute [push_cast] sz1 zv1 ld1 sz2 zv2 ld2 sz3 zv3 ld3 sz4 zv4 ld4 sz5 zv5 ld5 sz9 zv9 ld9 sz12 zv12 ld12 sz13 zv13 ld13 fa13_0 fo13_0 fa13_1 fo13_1 sz21 zv21 ld21 sz22 zv22 ld22 fa22_0 fo22_0 fa22_1 fo22_1 sz23 zv23 ld23 fa23_0 fo23_0 fa23_1 fo23_1 sz24 zv24 ld24 sz26 zv26 ld26 sz27 zv27 ld27 sz28 zv28 ld28 sz29 zv29 ld29 sz30 zv30 ld30 sz31 zv31 ld31 sz33 zv33 ld33 sz34 zv34 ld34 sz35 zv35 ld35 es35 sz36 zv36 ld36 sz38 zv38 ld38 sz39 zv39 ld39 sz40 zv40 ld40 es40 sz41 zv41 ld41 fa41_0 fo41_0 fa41_1 fo41_1 sz42 zv42 ld42 fa42_0 fo42_0 fa42_1 fo42_1 sz43 zv43 ld43 sz44 zv44 ld44 sz45 zv45 ld45 sz46 zv46 ld46 sz47 zv47 ld47 sz48 zv48 ld48 es48 sz50 zv50 ld50 sz51 zv51 ld51 sz52 zv52 ld52 sz53 zv53 ld53 sz54 zv54 ld54 sz55 zv55 ld55 sz56 zv56 ld56 sz58 zv58 ld58 sz59 zv59 ld59 sz60 zv60 ld60 es60 sz61 zv61 ld61 es61 sz62 zv62 ld62 es62 sz63 zv63 ld63 es63 sz64 zv64 ld64 fa64_0 fo64_0 fa64_1 fo64_1 fa64_2 fo64_2 fa64_3 fo64_3 sz65 zv65 ld65 fa65_0 fo65_0 fa65_1 fo65_1 fa65_2 fo65_2 fa65_3 fo65_3 sz66 zv66 ld66 sz68 zv68 ld68 sz69 zv69 ld69 sz71 zv71 ld71 sz72 zv72 ld72 sz73 zv73 ld73 sz75 zv75 ld75 sz76 zv76 ld76 sz77 zv77 ld77 sz78 zv78 ld78 sz79 zv79 ld79 sz80 zv80 ld80 fa80_0 fo80_0 fa80_1 fo80_1 sz81 zv81 ld81 fa81_0 fo81_0 fa81_1 fo81_1 sz82 zv82 ld82 sz83 zv83 ld83 ar83 sz85 zv85 ld85 sz86 zv86 ld86 sz87 zv87 ld87 sz88 zv88 ld88 sz89 zv89 ld89 es89 sz90 zv90 ld90 sz91 zv91 ld91 sz92 zv92 ld92 sz93 zv93 ld93 fa93_0 fo93_0 fa93_1 fo93_1 sz94 zv94 ld94 fa94_0 fo94_0 fa94_1 fo94_1 sz95 zv95 ld95 sz96 zv96 ld96 sz97 zv97 ld97 sz98 zv98 ld98 sz99 zv99 ld99 sz100 zv100 ld100 sz101 zv101 ld101 sz102 zv102 ld102 sz103 zv103 ld103 sz105 zv105 ld105 sz106 zv106 ld106 sz107 zv107 ld107 sz108 zv108 ld108 fa108_0 fo108_0 fa108_1 fo108_1 sz109 zv109 ld109 fa109_0 fo109_0 fa109_1 fo109_1 sz110 zv110 ld110 sz111 zv111 ld111 sz112 zv112 ld112 sz113 zv113 ld113 sz114 zv114 ld114 es114 sz115 zv115 ld115 fa115_0 fo115_0 fa115_1 fo115_1 fa115_2 fo115_2 sz116 zv116 ld116 fa116_0 fo116_0 fa116_1 fo116_1 fa116_2 fo116_2 sz117 zv117 ld117 sz118 zv118 ld118 sz119 zv119 ld119 sz120 zv120 ld120 sz121 zv121 ld121 sz123 zv123 ld123 sz124 zv124 ld124 sz125 zv125 ld125 sz126 zv126 ld126 sz127 zv127 ld127 sz128 zv128 ld128 sz129 zv129 ld129 sz130 zv130 ld130 sz131 zv131 ld131 sz132 zv132 ld132 fa132_0 fo132_0 fa132_1 fo132_1 fa132_2 fo132_2 sz133 zv133 ld133 fa133_0 fo133_0 fa133_1 fo133_1 fa133_2 fo133_2 sz134 zv134 ld134 fa134_0 fo134_0 fa134_1 fo134_1 fa134_2 fo134_2 fa134_3 fo134_3 fa134_4 fo134_4 sz135 zv135 ld135 fa135_0 fo135_0 fa135_1 fo135_1 fa135_2 fo135_2 fa135_3 fo135_3 fa135_4 fo135_4 sz136 zv136 ld136 sz137 zv137 ld137 fa137_0 fo137_0 fa137_1 fo137_1 sz138 zv138 ld138 fa138_0 fo138_0 fa138_1 fo138_1 sz139 zv139 ld139 sz140 zv140 ld140 sz141 zv141 ld141 sz143 zv143 ld143 sz144 zv144 ld144 es144 sz146 zv146 ld146 sz147 zv147 ld147 sz148 zv148 ld148 sz150 zv150 ld150 sz151 zv151 ld151 sz153 zv153 ld153 sz154 zv154 ld154 sz155 zv155 ld155 sz156 zv156 ld156 sz157 zv157 ld157 es157 sz158 zv158 ld158 sz159 zv159 ld159 es159 sz160 zv160 ld160 fa160_0 fo160_0 fa160_1 fo160_1 sz161 zv161 ld161 fa161_0 fo161_0 fa161_1 fo161_1 sz162 zv162 ld162 sz164 zv164 ld164 sz165 zv165 ld165 es165 sz166 zv166 ld166 fa166_0 fo166_0 fa166_1 fo166_1 sz167 zv167 ld167 fa167_0 fo167_0 fa167_1 fo167_1 sz168 zv168 ld168 es168 sz169 zv169 ld169 sz170 zv170 ld170 fa170_0 fo170_0 fa170_1 fo170_1 sz171 zv171 ld171 fa171_0 fo171_0 fa171_1 fo171_1 sz172 zv172 ld172 sz173 zv173 ld173 es173 sz174 zv174 ld174 sz175 zv175 ld175 sz176 zv176 ld176 sz182 zv182 ld182 sz183 zv183 ld183 sz186 zv186 ld186 sz187 zv187 ld187 sz192 zv192 ld192 bv13 pl13_0 pl13_1 bv22 pl22_0 pl22_1 bv23 pl23_0 pl23_1 be23 bn23 bv41 pl41_0 pl41_1 bv42 pl42_0 pl42_1 bv64 pl64_0 pl64_1 pl64_2 pl64_3 bv65 pl65_0 pl65_1 pl65_2 pl65_3 bv80 pl80_0 pl80_1 bv81 pl81_0 pl81_1 be81 bn81 bv93 pl93_0 pl93_1 bv94 pl94_0 pl94_1 be94 bn94 bv108 pl108_0 pl108_1 bv109 pl109_0 pl109_1 bv115 pl115_0 pl115_1 pl115_2 bv116 pl116_0 pl116_1 pl116_2 bv132 pl132_0 pl132_1 pl132_2 bv133 pl133_0 pl133_1 pl133_2 bv134 pl134_0 pl134_1 pl134_2 pl134_3 pl134_4 bv135 pl135_0 pl135_1 pl135_2 pl135_3 pl135_4 bv137 pl137_0 pl137_1 bv138 pl138_0 pl138_1 bv160 pl160_0 pl160_1 bv161 pl161_0 pl161_1 bv166 pl166_0 pl166_1 bv167 pl167_0 pl167_1 bv170 pl170_0 pl170_1 bv171 pl171_0 pl171_1 be171 bn171
attribute [push_cast] Try.underlying1 Try.underlying2 Try.underlying3 Try.underlying4 Try.underlying5 Try.underlying6 Try.underlying7 Try.underlying9 Try.underlying12 Try.underlying13 Try.underlying15 Try.underlying16 Try.underlying17 Try.underlying18 Try.underlying19 Try.underlying21 Try.underlying22 Try.underlying23 Try.underlying24 Try.underlying26 Try.underlying27 Try.underlying28 Try.underlying29 Try.underlying30 Try.underlying31 Try.underlying33 Try.underlying34 Try.underlying35 Try.underlying36 Try.underlying38 Try.underlying39 Try.underlying40 Try.underlying41 Try.underlying42 Try.underlying43 Try.underlying44 Try.underlying45 Try.underlying46 Try.underlying47 Try.underlying48 Try.underlying50 Try.underlying51 Try.underlying52 Try.underlying53 Try.underlying54 Try.underlying55 Try.underlying56 Try.underlying58 Try.underlying59 Try.underlying60 Try.underlying61 Try.underlying62 Try.underlying63 Try.underlying64 Try.underlying65 Try.underlying66 Try.underlying68 Try.underlying69 Try.underlying71 Try.underlying72 Try.underlying73 Try.underlying75 Try.underlying76 Try.underlying77 Try.underlying78 Try.underlying79 Try.underlying80 Try.underlying81 Try.underlying82 Try.underlying83 Try.underlying85 Try.underlying86 Try.underlying87 Try.underlying88 Try.underlying89 Try.underlying90 Try.underlying91 Try.underlying92 Try.underlying93 Try.underlying94 Try.underlying95 Try.underlying96 Try.underlying97 Try.underlying98 Try.underlying99 Try.underlying100 Try.underlying101 Try.underlying102 Try.underlying103 Try.underlying105 Try.underlying106 Try.underlying107 Try.underlying108 Try.underlying109 Try.underlying110 Try.underlying111 Try.underlying112 Try.underlying113 Try.underlying114 Try.underlying115 Try.underlying116 Try.underlying117 Try.underlying118 Try.underlying119 Try.underlying120 Try.underlying121 Try.underlying123 Try.underlying124 Try.underlying125 Try.underlying126 Try.underlying127 Try.underlying128 Try.underlying129 Try.underlying130 Try.underlying131 Try.underlying132 Try.underlying133 Try.underlying134 Try.underlying135 Try.underlying136 Try.underlying137 Try.underlying138 Try.underlying139 Try.underlying140 Try.underlying141 Try.underlying143 Try.underlying144 Try.underlying146 Try.underlying147 Try.underlying148 Try.underlying150 Try.underlying151 Try.underlying153 Try.underlying154 Try.underlying155 Try.underlying156 Try.underlying157 Try.underlying158 Try.underlying159 Try.underlying160 Try.underlying161 Try.underlying162 Try.underlying164 Try.underlying165 Try.underlying166 Try.underlying167 Try.underlying168 Try.underlying169 Try.underlying170 Try.underlying171 Try.underlying172 Try.underlying173 Try.underlying174 Try.underlying175 Try.underlying176 Try.underlying177 Try.underlying179 Try.underlying180 Try.underlying182 Try.underlying183 Try.underlying184 Try.underlying185 Try.underlying186 Try.underlying187 Try.underlying188 Try.underlying189 Try.underlying190 Try.underlying191 Try.underlying192
attribute [push_cast] Try.results0 Try.results1 Try.results2 Try.results3 Try.results4 Try.results5 Try.results6 Try.results7 Try.results8 Try.results9 Try.results10 Try.results11 Try.results12 Try.results13 Try.results14 Try.results15 Try.results16 Try.results17 Try.results18 Try.results19 Try.results20 Try.results21 Try.results22 Try.results23 Try.results24 Try.results25 Try.results26 Try.results27 Try.results28 Try.results29 Try.results30 Try.results31 Try.results32 Try.results33 Try.results34 Try.results35 Try.results36 Try.results37 Try.results38 Try.results39 Try.results40 Try.results41 Try.results42 Try.results43 Try.results44 Try.results45 Try.results46 Try.results47 Try.results48 Try.results49 Try.results50 Try.results51 Try.results52 Try.results53 Try.results54 Try.results55 Try.results56 Try.results57 Try.results58 Try.results59 Try.results60 Try.results61 Try.results62 Try.results63 Try.results64 Try.results65 Try.results66 Try.results67 Try.results68 Try.results69 Try.results70 Try.results71 Try.results72 Try.results73 Try.results74 Try.results75 Try.results76 Try.results77 Try.results78 Try.results79 Try.results80 Try.results81 Try.results82 Try.results83 Try.results84 Try.results85 Try.results86 Try.results87 Try.results88 Try.results89 Try.results90 Try.results91 Try.results92 Try.results93 Try.results94 Try.results95 Try.results96 Try.results97 Try.results98 Try.results99 Try.results100 Try.results101 Try.results102 Try.results103 Try.results104 Try.results105 Try.results106 Try.results107 Try.results108 Try.results109 Try.results110 Try.results111 Try.results112 Try.results113 Try.results114 Try.results115 Try.results116 Try.results117 Try.results118 Try.results119 Try.results120 Try.results121 Try.results122 Try.results123 Try.results124 Try.results125 Try.results126 Try.results127 Try.results128 Try.results129 Try.results130 Try.results131 Try.results132 Try.results133 Try.results134 Try.results135 Try.results136 Try.results137 Try.results138 Try.results139 Try.results140 Try.results141 Try.results142 Try.results143 Try.results144 Try.results145 Try.results146 Try.results147 Try.results148 Try.results149 Try.results150 Try.results151 Try.results152
end Go.Proofs.Ytomamgmefpmnpaa
