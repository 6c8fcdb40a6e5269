/- Facts about this seat's types. -/
import Derived.Test.YtelepfablohdmaaGreatDoorW2
import Derived.Test.YtelepfablohdmaaGreatDoorRows
import Derived.KernelRfl
namespace Go.Proofs.YtelepfablohdmaaGreatDoor
open Go.Ev
theorem sz1 : szV Tryz.prog 1 = some 1 := by kernel_rfl
theorem zv1 : zeroV Tryz.prog 1 = some (.nilFunc) := by kernel_rfl
theorem ld1 (c : List Value) (off : Nat) : loadV Tryz.prog 1 c off = at? c off := by kernel_rfl
theorem sz3 : szV Tryz.prog 3 = some 1 := by kernel_rfl
theorem zv3 : zeroV Tryz.prog 3 = some (.int .i64 0) := by kernel_rfl
theorem ld3 (c : List Value) (off : Nat) : loadV Tryz.prog 3 c off = at? c off := by kernel_rfl
theorem sz4 : szV Tryz.prog 4 = some 1 := by kernel_rfl
theorem zv4 : zeroV Tryz.prog 4 = some (.bool false) := by kernel_rfl
theorem ld4 (c : List Value) (off : Nat) : loadV Tryz.prog 4 c off = at? c off := by kernel_rfl
theorem sz5 : szV Tryz.prog 5 = some 1 := by kernel_rfl
theorem zv5 : zeroV Tryz.prog 5 = some (.int .u8 0) := by kernel_rfl
theorem ld5 (c : List Value) (off : Nat) : loadV Tryz.prog 5 c off = at? c off := by kernel_rfl
theorem sz22 : szV Tryz.prog 22 = some 1 := by kernel_rfl
theorem zv22 : zeroV Tryz.prog 22 = some (.slice none 0 0) := by kernel_rfl
theorem ld22 (c : List Value) (off : Nat) : loadV Tryz.prog 22 c off = at? c off := by kernel_rfl
theorem es22 : eltOf Tryz.prog 22 = some 1 := by kernel_rfl
theorem sz24 : szV Tryz.prog 24 = some 1 := by kernel_rfl
theorem zv24 : zeroV Tryz.prog 24 = some (.int .i64 0) := by kernel_rfl
theorem ld24 (c : List Value) (off : Nat) : loadV Tryz.prog 24 c off = at? c off := by kernel_rfl
theorem sz36 : szV Tryz.prog 36 = some 1 := by kernel_rfl
theorem zv36 : zeroV Tryz.prog 36 = some (.slice none 0 0) := by kernel_rfl
theorem ld36 (c : List Value) (off : Nat) : loadV Tryz.prog 36 c off = at? c off := by kernel_rfl
theorem es36 : eltOf Tryz.prog 36 = some 2 := by kernel_rfl
theorem sz41 : szV Tryz.prog 41 = some 2 := by kernel_rfl
theorem zv41 : zeroV Tryz.prog 41 = some (.agg #[.slice none 0 0, .int .i64 0]) := by kernel_rfl
theorem ld41 (c : List Value) (off : Nat) : loadV Tryz.prog 41 c off = (cut c off 2).map fun l => .agg l.toArray := by kernel_rfl
theorem fa41_0 : fieldAt Tryz.prog 41 0 = some (0, 1) := by kernel_rfl
theorem fo41_0 : fieldOf Tryz.prog 41 0 = some (0, 22) := by kernel_rfl
theorem fa41_1 : fieldAt Tryz.prog 41 1 = some (1, 1) := by kernel_rfl
theorem fo41_1 : fieldOf Tryz.prog 41 1 = some (1, 3) := by kernel_rfl
theorem sz46 : szV Tryz.prog 46 = some 1 := by kernel_rfl
theorem zv46 : zeroV Tryz.prog 46 = some (.slice none 0 0) := by kernel_rfl
theorem ld46 (c : List Value) (off : Nat) : loadV Tryz.prog 46 c off = at? c off := by kernel_rfl
theorem es46 : eltOf Tryz.prog 46 = some 2 := by kernel_rfl
theorem sz52 : szV Tryz.prog 52 = some 1 := by kernel_rfl
theorem zv52 : zeroV Tryz.prog 52 = some (.nilFunc) := by kernel_rfl
theorem ld52 (c : List Value) (off : Nat) : loadV Tryz.prog 52 c off = at? c off := by kernel_rfl
theorem sz59 : szV Tryz.prog 59 = some 2 := by kernel_rfl
theorem zv59 : zeroV Tryz.prog 59 = some (.agg #[.int .i64 0, .int .i64 0]) := by kernel_rfl
theorem ld59 (c : List Value) (off : Nat) : loadV Tryz.prog 59 c off = (cut c off 2).map fun l => .agg l.toArray := by kernel_rfl
theorem fa59_0 : fieldAt Tryz.prog 59 0 = some (0, 1) := by kernel_rfl
theorem fo59_0 : fieldOf Tryz.prog 59 0 = some (0, 3) := by kernel_rfl
theorem fa59_1 : fieldAt Tryz.prog 59 1 = some (1, 1) := by kernel_rfl
theorem fo59_1 : fieldOf Tryz.prog 59 1 = some (1, 3) := by kernel_rfl
theorem sz64 : szV Tryz.prog 64 = some 3 := by kernel_rfl
theorem zv64 : zeroV Tryz.prog 64 = some (.agg #[.int .i64 0, .int .i64 0, .int .i64 0]) := by kernel_rfl
theorem ld64 (c : List Value) (off : Nat) : loadV Tryz.prog 64 c off = (cut c off 3).map fun l => .agg l.toArray := by kernel_rfl
theorem ar64 : arrOf Tryz.prog 64 = some (3, 1) := by kernel_rfl
theorem sz69 : szV Tryz.prog 69 = some 2 := by kernel_rfl
theorem zv69 : zeroV Tryz.prog 69 = some (.agg #[.slice none 0 0, .slice none 0 0]) := by kernel_rfl
theorem ld69 (c : List Value) (off : Nat) : loadV Tryz.prog 69 c off = (cut c off 2).map fun l => .agg l.toArray := by kernel_rfl
theorem fa69_0 : fieldAt Tryz.prog 69 0 = some (0, 1) := by kernel_rfl
theorem fo69_0 : fieldOf Tryz.prog 69 0 = some (0, 22) := by kernel_rfl
theorem fa69_1 : fieldAt Tryz.prog 69 1 = some (1, 1) := by kernel_rfl
theorem fo69_1 : fieldOf Tryz.prog 69 1 = some (1, 22) := by kernel_rfl
theorem sz82 : szV Tryz.prog 82 = some 1 := by kernel_rfl
theorem zv82 : zeroV Tryz.prog 82 = some (.slice none 0 0) := by kernel_rfl
theorem ld82 (c : List Value) (off : Nat) : loadV Tryz.prog 82 c off = at? c off := by kernel_rfl
theorem es82 : eltOf Tryz.prog 82 = some 1 := by kernel_rfl
theorem sz85 : szV Tryz.prog 85 = some 146 := by kernel_rfl
theorem ld85 (c : List Value) (off : Nat) : loadV Tryz.prog 85 c off = (cut c off 146).map fun l => .agg l.toArray := by kernel_rfl
theorem ar85 : arrOf Tryz.prog 85 = some (146, 1) := by kernel_rfl
theorem sz87 : szV Tryz.prog 87 = some 146 := by kernel_rfl
theorem ld87 (c : List Value) (off : Nat) : loadV Tryz.prog 87 c off = (cut c off 146).map fun l => .agg l.toArray := by kernel_rfl
theorem fa87_0 : fieldAt Tryz.prog 87 0 = some (0, 146) := by kernel_rfl
theorem fo87_0 : fieldOf Tryz.prog 87 0 = some (0, 85) := by kernel_rfl
theorem sz92 : szV Tryz.prog 92 = some 1 := by kernel_rfl
theorem zv92 : zeroV Tryz.prog 92 = some (.nilFunc) := by kernel_rfl
theorem ld92 (c : List Value) (off : Nat) : loadV Tryz.prog 92 c off = at? c off := by kernel_rfl
theorem sz95 : szV Tryz.prog 95 = some 2 := by kernel_rfl
theorem zv95 : zeroV Tryz.prog 95 = some (.agg #[.int .i64 0, .int .i64 0]) := by kernel_rfl
theorem ld95 (c : List Value) (off : Nat) : loadV Tryz.prog 95 c off = (cut c off 2).map fun l => .agg l.toArray := by kernel_rfl
theorem fa95_0 : fieldAt Tryz.prog 95 0 = some (0, 1) := by kernel_rfl
theorem fo95_0 : fieldOf Tryz.prog 95 0 = some (0, 24) := by kernel_rfl
theorem fa95_1 : fieldAt Tryz.prog 95 1 = some (1, 1) := by kernel_rfl
theorem fo95_1 : fieldOf Tryz.prog 95 1 = some (1, 3) := by kernel_rfl
theorem sz104 : szV Tryz.prog 104 = some 1 := by kernel_rfl
theorem zv104 : zeroV Tryz.prog 104 = some (.nilFunc) := by kernel_rfl
theorem ld104 (c : List Value) (off : Nat) : loadV Tryz.prog 104 c off = at? c off := by kernel_rfl
theorem sz117 : szV Tryz.prog 117 = some 1 := by kernel_rfl
theorem zv117 : zeroV Tryz.prog 117 = some (.nilFunc) := by kernel_rfl
theorem ld117 (c : List Value) (off : Nat) : loadV Tryz.prog 117 c off = at? c off := by kernel_rfl
theorem sz118 : szV Tryz.prog 118 = some 1 := by kernel_rfl
theorem zv118 : zeroV Tryz.prog 118 = some (.nilFunc) := by kernel_rfl
theorem ld118 (c : List Value) (off : Nat) : loadV Tryz.prog 118 c off = at? c off := by kernel_rfl
theorem sz130 : szV Tryz.prog 130 = some 1 := by kernel_rfl
theorem zv130 : zeroV Tryz.prog 130 = some (.nilFunc) := by kernel_rfl
theorem ld130 (c : List Value) (off : Nat) : loadV Tryz.prog 130 c off = at? c off := by kernel_rfl
theorem sz131 : szV Tryz.prog 131 = some 1 := by kernel_rfl
theorem zv131 : zeroV Tryz.prog 131 = some (.nilFunc) := by kernel_rfl
theorem ld131 (c : List Value) (off : Nat) : loadV Tryz.prog 131 c off = at? c off := by kernel_rfl
theorem sz133 : szV Tryz.prog 133 = some 1 := by kernel_rfl
theorem zv133 : zeroV Tryz.prog 133 = some (.slice none 0 0) := by kernel_rfl
theorem ld133 (c : List Value) (off : Nat) : loadV Tryz.prog 133 c off = at? c off := by kernel_rfl
theorem es133 : eltOf Tryz.prog 133 = some 1 := by kernel_rfl
theorem sz150 : szV Tryz.prog 150 = some 1 := by kernel_rfl
theorem zv150 : zeroV Tryz.prog 150 = some (.int .u64 0) := by kernel_rfl
theorem ld150 (c : List Value) (off : Nat) : loadV Tryz.prog 150 c off = at? c off := by kernel_rfl
theorem sz158 : szV Tryz.prog 158 = some 1 := by kernel_rfl
theorem zv158 : zeroV Tryz.prog 158 = some (.nilFunc) := by kernel_rfl
theorem ld158 (c : List Value) (off : Nat) : loadV Tryz.prog 158 c off = at? c off := by kernel_rfl
theorem bv41 (ps : List (Nat × Value)) : buildV Tryz.prog 41 ps = aggOf (fillL (plOf Tryz.prog 41) ps [.slice none 0 0, .int .i64 0]) := by kernel_rfl
theorem pl41_0 : plOf Tryz.prog 41 0 = some (0, 1) := by kernel_rfl
theorem pl41_1 : plOf Tryz.prog 41 1 = some (1, 1) := by kernel_rfl
theorem bv59 (ps : List (Nat × Value)) : buildV Tryz.prog 59 ps = aggOf (fillL (plOf Tryz.prog 59) ps [.int .i64 0, .int .i64 0]) := by kernel_rfl
theorem pl59_0 : plOf Tryz.prog 59 0 = some (0, 1) := by kernel_rfl
theorem pl59_1 : plOf Tryz.prog 59 1 = some (1, 1) := by kernel_rfl
theorem eq59 (a0 b0 : Int) (a1 b1 : Int) : valEq Tryz.prog 59 (.agg #[.int .i64 a0, .int .i64 a1]) (.agg #[.int .i64 b0, .int .i64 b1]) = some (decide (a0 = b0 ∧ a1 = b1)) := by
  have h : valEq Tryz.prog 59 (.agg #[.int .i64 a0, .int .i64 a1]) (.agg #[.int .i64 b0, .int .i64 b1]) = (match some (eqI a0 b0) with | some true => (match some (eqI a1 b1) with | some true => some true | some false => some false | none => none) | some false => some false | none => none) := by kernel_rfl
  rw [h]; exact eqs2 (by first | exact eqI_spec _ _ | exact bytesEq_dec _ _ | exact beq_dec _ _) (by first | exact eqI_spec _ _ | exact bytesEq_dec _ _ | exact beq_dec _ _)
theorem be59 (a0 b0 : Int) (a1 b1 : Int) : bin Tryz.prog .eql 59 (.agg #[.int .i64 a0, .int .i64 a1]) (.agg #[.int .i64 b0, .int .i64 b1]) = some (.bool (decide (a0 = b0 ∧ a1 = b1))) := bin_eql_agg (eq59 a0 b0 a1 b1)
theorem bn59 (a0 b0 : Int) (a1 b1 : Int) : bin Tryz.prog .neq 59 (.agg #[.int .i64 a0, .int .i64 a1]) (.agg #[.int .i64 b0, .int .i64 b1]) = some (.bool (decide (¬ (a0 = b0 ∧ a1 = b1)))) := bin_neq_agg (eq59 a0 b0 a1 b1)
theorem bv69 (ps : List (Nat × Value)) : buildV Tryz.prog 69 ps = aggOf (fillL (plOf Tryz.prog 69) ps [.slice none 0 0, .slice none 0 0]) := by kernel_rfl
theorem pl69_0 : plOf Tryz.prog 69 0 = some (0, 1) := by kernel_rfl
theorem pl69_1 : plOf Tryz.prog 69 1 = some (1, 1) := by kernel_rfl
theorem bv95 (ps : List (Nat × Value)) : buildV Tryz.prog 95 ps = aggOf (fillL (plOf Tryz.prog 95) ps [.int .i64 0, .int .i64 0]) := by kernel_rfl
theorem pl95_0 : plOf Tryz.prog 95 0 = some (0, 1) := by kernel_rfl
theorem pl95_1 : plOf Tryz.prog 95 1 = some (1, 1) := by kernel_rfl
theorem eq95 (a0 b0 : Int) (a1 b1 : Int) : valEq Tryz.prog 95 (.agg #[.int .i64 a0, .int .i64 a1]) (.agg #[.int .i64 b0, .int .i64 b1]) = some (decide (a0 = b0 ∧ a1 = b1)) := by
  have h : valEq Tryz.prog 95 (.agg #[.int .i64 a0, .int .i64 a1]) (.agg #[.int .i64 b0, .int .i64 b1]) = (match some (eqI a0 b0) with | some true => (match some (eqI a1 b1) with | some true => some true | some false => some false | none => none) | some false => some false | none => none) := by kernel_rfl
  rw [h]; exact eqs2 (by first | exact eqI_spec _ _ | exact bytesEq_dec _ _ | exact beq_dec _ _) (by first | exact eqI_spec _ _ | exact bytesEq_dec _ _ | exact beq_dec _ _)
theorem be95 (a0 b0 : Int) (a1 b1 : Int) : bin Tryz.prog .eql 95 (.agg #[.int .i64 a0, .int .i64 a1]) (.agg #[.int .i64 b0, .int .i64 b1]) = some (.bool (decide (a0 = b0 ∧ a1 = b1))) := bin_eql_agg (eq95 a0 b0 a1 b1)
theorem bn95 (a0 b0 : Int) (a1 b1 : Int) : bin Tryz.prog .neq 95 (.agg #[.int .i64 a0, .int .i64 a1]) (.agg #[.int .i64 b0, .int .i64 b1]) = some (.bool (decide (¬ (a0 = b0 ∧ a1 = b1)))) := bin_neq_agg (eq95 a0 b0 a1 b1)
attribute [push_cast] sz1 zv1 ld1 sz3 zv3 ld3 sz4 zv4 ld4 sz5 zv5 ld5 sz22 zv22 ld22 es22 sz24 zv24 ld24 sz36 zv36 ld36 es36 sz41 zv41 ld41 fa41_0 fo41_0 fa41_1 fo41_1 sz46 zv46 ld46 es46 sz52 zv52 ld52 sz59 zv59 ld59 fa59_0 fo59_0 fa59_1 fo59_1 sz64 zv64 ld64 ar64 sz69 zv69 ld69 fa69_0 fo69_0 fa69_1 fo69_1 sz82 zv82 ld82 es82 sz85 ld85 ar85 sz87 ld87 fa87_0 fo87_0 sz92 zv92 ld92 sz95 zv95 ld95 fa95_0 fo95_0 fa95_1 fo95_1 sz104 zv104 ld104 sz117 zv117 ld117 sz118 zv118 ld118 sz130 zv130 ld130 sz131 zv131 ld131 sz133 zv133 ld133 es133 sz150 zv150 ld150 sz158 zv158 ld158 bv41 pl41_0 pl41_1 bv59 pl59_0 pl59_1 be59 bn59 bv69 pl69_0 pl69_1 bv95 pl95_0 pl95_1 be95 bn95
attribute [push_cast] Tryz.underlying1 Tryz.underlying3 Tryz.underlying4 Tryz.underlying5 Tryz.underlying22 Tryz.underlying24 Tryz.underlying36 Tryz.underlying41 Tryz.underlying46 Tryz.underlying52 Tryz.underlying59 Tryz.underlying64 Tryz.underlying69 Tryz.underlying82 Tryz.underlying85 Tryz.underlying87 Tryz.underlying92 Tryz.underlying95 Tryz.underlying104 Tryz.underlying117 Tryz.underlying118 Tryz.underlying130 Tryz.underlying131 Tryz.underlying133 Tryz.underlying150 Tryz.underlying158
attribute [push_cast] Tryz.results5 Tryz.results8 Tryz.results9 Tryz.results10 Tryz.results11 Tryz.results18 Tryz.results19 Tryz.results20 Tryz.results24 Tryz.results26 Tryz.results27 Tryz.results29 Tryz.results31 Tryz.results34 Tryz.results37 Tryz.results39 Tryz.results41 Tryz.results42 Tryz.results43 Tryz.results44 Tryz.results45 Tryz.results46 Tryz.results47 Tryz.results49 Tryz.results51 Tryz.results54 Tryz.results61 Tryz.results62 Tryz.results63 Tryz.results64 Tryz.results65 Tryz.results66 Tryz.results67 Tryz.results71 Tryz.results72 Tryz.results73 Tryz.results74 Tryz.results75 Tryz.results76 Tryz.results77 Tryz.results79 Tryz.results80 Tryz.results81 Tryz.results84 Tryz.results85 Tryz.results87 Tryz.results88 Tryz.results89 Tryz.results90 Tryz.results91 Tryz.results92 Tryz.results94 Tryz.results95 Tryz.results97 Tryz.results98 Tryz.results99 Tryz.results101 Tryz.results102 Tryz.results103 Tryz.results104 Tryz.results105 Tryz.results106 Tryz.results107 Tryz.results108 Tryz.results109 Tryz.results119 Tryz.results120 Tryz.results121 Tryz.results122 Tryz.results123 Tryz.results124 Tryz.results125 Tryz.results126 Tryz.results127 Tryz.results129 Tryz.results130 Tryz.results131 Tryz.results132 Tryz.results133 Tryz.results134 Tryz.results135 Tryz.results136 Tryz.results137 Tryz.results143
end Go.Proofs.YtelepfablohdmaaGreatDoor
