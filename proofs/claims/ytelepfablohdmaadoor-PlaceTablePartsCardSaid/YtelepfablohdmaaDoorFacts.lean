/- Facts about this seat's types. -/
import Derived.Test.YtelepfablohdmaaDoorW2
import Derived.Test.YtelepfablohdmaaDoorRows
import Derived.KernelRfl
namespace Go.Proofs.YtelepfablohdmaaDoor
open Go.Ev
theorem sz1 : szV Tryd.prog 1 = some 1 := by kernel_rfl
theorem zv1 : zeroV Tryd.prog 1 = some (.nilFunc) := by kernel_rfl
theorem ld1 (c : List Value) (off : Nat) : loadV Tryd.prog 1 c off = at? c off := by kernel_rfl
theorem sz2 : szV Tryd.prog 2 = some 1 := by kernel_rfl
theorem zv2 : zeroV Tryd.prog 2 = some (.int .i64 0) := by kernel_rfl
theorem ld2 (c : List Value) (off : Nat) : loadV Tryd.prog 2 c off = at? c off := by kernel_rfl
theorem sz3 : szV Tryd.prog 3 = some 1 := by kernel_rfl
theorem zv3 : zeroV Tryd.prog 3 = some (.int .i64 0) := by kernel_rfl
theorem ld3 (c : List Value) (off : Nat) : loadV Tryd.prog 3 c off = at? c off := by kernel_rfl
theorem sz4 : szV Tryd.prog 4 = some 1 := by kernel_rfl
theorem zv4 : zeroV Tryd.prog 4 = some (.bool false) := by kernel_rfl
theorem ld4 (c : List Value) (off : Nat) : loadV Tryd.prog 4 c off = at? c off := by kernel_rfl
theorem sz5 : szV Tryd.prog 5 = some 1 := by kernel_rfl
theorem zv5 : zeroV Tryd.prog 5 = some (.int .u8 0) := by kernel_rfl
theorem ld5 (c : List Value) (off : Nat) : loadV Tryd.prog 5 c off = at? c off := by kernel_rfl
theorem sz22 : szV Tryd.prog 22 = some 1 := by kernel_rfl
theorem zv22 : zeroV Tryd.prog 22 = some (.slice none 0 0) := by kernel_rfl
theorem ld22 (c : List Value) (off : Nat) : loadV Tryd.prog 22 c off = at? c off := by kernel_rfl
theorem es22 : eltOf Tryd.prog 22 = some 1 := by kernel_rfl
theorem sz23 : szV Tryd.prog 23 = some 1 := by kernel_rfl
theorem zv23 : zeroV Tryd.prog 23 = some (.int .i64 0) := by kernel_rfl
theorem ld23 (c : List Value) (off : Nat) : loadV Tryd.prog 23 c off = at? c off := by kernel_rfl
theorem sz33 : szV Tryd.prog 33 = some 2 := by kernel_rfl
theorem zv33 : zeroV Tryd.prog 33 = some (.agg #[.slice none 0 0, .int .i64 0]) := by kernel_rfl
theorem ld33 (c : List Value) (off : Nat) : loadV Tryd.prog 33 c off = (cut c off 2).map fun l => .agg l.toArray := by kernel_rfl
theorem fa33_0 : fieldAt Tryd.prog 33 0 = some (0, 1) := by kernel_rfl
theorem fo33_0 : fieldOf Tryd.prog 33 0 = some (0, 22) := by kernel_rfl
theorem fa33_1 : fieldAt Tryd.prog 33 1 = some (1, 1) := by kernel_rfl
theorem fo33_1 : fieldOf Tryd.prog 33 1 = some (1, 3) := by kernel_rfl
theorem sz39 : szV Tryd.prog 39 = some 1 := by kernel_rfl
theorem zv39 : zeroV Tryd.prog 39 = some (.nilFunc) := by kernel_rfl
theorem ld39 (c : List Value) (off : Nat) : loadV Tryd.prog 39 c off = at? c off := by kernel_rfl
theorem sz51 : szV Tryd.prog 51 = some 3 := by kernel_rfl
theorem zv51 : zeroV Tryd.prog 51 = some (.agg #[.int .i64 0, .int .i64 0, .int .i64 0]) := by kernel_rfl
theorem ld51 (c : List Value) (off : Nat) : loadV Tryd.prog 51 c off = (cut c off 3).map fun l => .agg l.toArray := by kernel_rfl
theorem ar51 : arrOf Tryd.prog 51 = some (3, 1) := by kernel_rfl
theorem sz59 : szV Tryd.prog 59 = some 1 := by kernel_rfl
theorem zv59 : zeroV Tryd.prog 59 = some (.slice none 0 0) := by kernel_rfl
theorem ld59 (c : List Value) (off : Nat) : loadV Tryd.prog 59 c off = at? c off := by kernel_rfl
theorem es59 : eltOf Tryd.prog 59 = some 2 := by kernel_rfl
theorem sz63 : szV Tryd.prog 63 = some 1 := by kernel_rfl
theorem zv63 : zeroV Tryd.prog 63 = some (.slice none 0 0) := by kernel_rfl
theorem ld63 (c : List Value) (off : Nat) : loadV Tryd.prog 63 c off = at? c off := by kernel_rfl
theorem es63 : eltOf Tryd.prog 63 = some 1 := by kernel_rfl
theorem sz66 : szV Tryd.prog 66 = some 2 := by kernel_rfl
theorem zv66 : zeroV Tryd.prog 66 = some (.agg #[.int .i64 0, .int .i64 0]) := by kernel_rfl
theorem ld66 (c : List Value) (off : Nat) : loadV Tryd.prog 66 c off = (cut c off 2).map fun l => .agg l.toArray := by kernel_rfl
theorem ar66 : arrOf Tryd.prog 66 = some (2, 1) := by kernel_rfl
theorem sz68 : szV Tryd.prog 68 = some 2 := by kernel_rfl
theorem zv68 : zeroV Tryd.prog 68 = some (.agg #[.int .i64 0, .int .i64 0]) := by kernel_rfl
theorem ld68 (c : List Value) (off : Nat) : loadV Tryd.prog 68 c off = (cut c off 2).map fun l => .agg l.toArray := by kernel_rfl
theorem fa68_0 : fieldAt Tryd.prog 68 0 = some (0, 1) := by kernel_rfl
theorem fo68_0 : fieldOf Tryd.prog 68 0 = some (0, 3) := by kernel_rfl
theorem fa68_1 : fieldAt Tryd.prog 68 1 = some (1, 1) := by kernel_rfl
theorem fo68_1 : fieldOf Tryd.prog 68 1 = some (1, 3) := by kernel_rfl
theorem sz79 : szV Tryd.prog 79 = some 2 := by kernel_rfl
theorem zv79 : zeroV Tryd.prog 79 = some (.agg #[.int .i64 0, .int .i64 0]) := by kernel_rfl
theorem ld79 (c : List Value) (off : Nat) : loadV Tryd.prog 79 c off = (cut c off 2).map fun l => .agg l.toArray := by kernel_rfl
theorem fa79_0 : fieldAt Tryd.prog 79 0 = some (0, 1) := by kernel_rfl
theorem fo79_0 : fieldOf Tryd.prog 79 0 = some (0, 23) := by kernel_rfl
theorem fa79_1 : fieldAt Tryd.prog 79 1 = some (1, 1) := by kernel_rfl
theorem fo79_1 : fieldOf Tryd.prog 79 1 = some (1, 3) := by kernel_rfl
theorem sz89 : szV Tryd.prog 89 = some 146 := by kernel_rfl
theorem ld89 (c : List Value) (off : Nat) : loadV Tryd.prog 89 c off = (cut c off 146).map fun l => .agg l.toArray := by kernel_rfl
theorem ar89 : arrOf Tryd.prog 89 = some (146, 1) := by kernel_rfl
theorem sz91 : szV Tryd.prog 91 = some 146 := by kernel_rfl
theorem ld91 (c : List Value) (off : Nat) : loadV Tryd.prog 91 c off = (cut c off 146).map fun l => .agg l.toArray := by kernel_rfl
theorem fa91_0 : fieldAt Tryd.prog 91 0 = some (0, 146) := by kernel_rfl
theorem fo91_0 : fieldOf Tryd.prog 91 0 = some (0, 89) := by kernel_rfl
theorem sz96 : szV Tryd.prog 96 = some 1 := by kernel_rfl
theorem zv96 : zeroV Tryd.prog 96 = some (.nilFunc) := by kernel_rfl
theorem ld96 (c : List Value) (off : Nat) : loadV Tryd.prog 96 c off = at? c off := by kernel_rfl
theorem sz107 : szV Tryd.prog 107 = some 1 := by kernel_rfl
theorem zv107 : zeroV Tryd.prog 107 = some (.nilFunc) := by kernel_rfl
theorem ld107 (c : List Value) (off : Nat) : loadV Tryd.prog 107 c off = at? c off := by kernel_rfl
theorem sz120 : szV Tryd.prog 120 = some 1 := by kernel_rfl
theorem zv120 : zeroV Tryd.prog 120 = some (.nilFunc) := by kernel_rfl
theorem ld120 (c : List Value) (off : Nat) : loadV Tryd.prog 120 c off = at? c off := by kernel_rfl
theorem sz128 : szV Tryd.prog 128 = some 1 := by kernel_rfl
theorem zv128 : zeroV Tryd.prog 128 = some (.nilFunc) := by kernel_rfl
theorem ld128 (c : List Value) (off : Nat) : loadV Tryd.prog 128 c off = at? c off := by kernel_rfl
theorem sz129 : szV Tryd.prog 129 = some 1 := by kernel_rfl
theorem zv129 : zeroV Tryd.prog 129 = some (.nilFunc) := by kernel_rfl
theorem ld129 (c : List Value) (off : Nat) : loadV Tryd.prog 129 c off = at? c off := by kernel_rfl
theorem sz131 : szV Tryd.prog 131 = some 1 := by kernel_rfl
theorem zv131 : zeroV Tryd.prog 131 = some (.slice none 0 0) := by kernel_rfl
theorem ld131 (c : List Value) (off : Nat) : loadV Tryd.prog 131 c off = at? c off := by kernel_rfl
theorem es131 : eltOf Tryd.prog 131 = some 1 := by kernel_rfl
theorem sz134 : szV Tryd.prog 134 = some 1 := by kernel_rfl
theorem zv134 : zeroV Tryd.prog 134 = some (.nilFunc) := by kernel_rfl
theorem ld134 (c : List Value) (off : Nat) : loadV Tryd.prog 134 c off = at? c off := by kernel_rfl
theorem sz140 : szV Tryd.prog 140 = some 1 := by kernel_rfl
theorem zv140 : zeroV Tryd.prog 140 = some (.slice none 0 0) := by kernel_rfl
theorem ld140 (c : List Value) (off : Nat) : loadV Tryd.prog 140 c off = at? c off := by kernel_rfl
theorem es140 : eltOf Tryd.prog 140 = some 1 := by kernel_rfl
theorem sz141 : szV Tryd.prog 141 = some 1 := by kernel_rfl
theorem zv141 : zeroV Tryd.prog 141 = some (.nilFunc) := by kernel_rfl
theorem ld141 (c : List Value) (off : Nat) : loadV Tryd.prog 141 c off = at? c off := by kernel_rfl
theorem sz142 : szV Tryd.prog 142 = some 1 := by kernel_rfl
theorem zv142 : zeroV Tryd.prog 142 = some (.nilFunc) := by kernel_rfl
theorem ld142 (c : List Value) (off : Nat) : loadV Tryd.prog 142 c off = at? c off := by kernel_rfl
theorem sz159 : szV Tryd.prog 159 = some 1 := by kernel_rfl
theorem zv159 : zeroV Tryd.prog 159 = some (.int .u64 0) := by kernel_rfl
theorem ld159 (c : List Value) (off : Nat) : loadV Tryd.prog 159 c off = at? c off := by kernel_rfl
theorem sz162 : szV Tryd.prog 162 = some 1 := by kernel_rfl
theorem zv162 : zeroV Tryd.prog 162 = some (.nilFunc) := by kernel_rfl
theorem ld162 (c : List Value) (off : Nat) : loadV Tryd.prog 162 c off = at? c off := by kernel_rfl
theorem bv33 (ps : List (Nat × Value)) : buildV Tryd.prog 33 ps = aggOf (fillL (plOf Tryd.prog 33) ps [.slice none 0 0, .int .i64 0]) := by kernel_rfl
theorem pl33_0 : plOf Tryd.prog 33 0 = some (0, 1) := by kernel_rfl
theorem pl33_1 : plOf Tryd.prog 33 1 = some (1, 1) := by kernel_rfl
theorem bv68 (ps : List (Nat × Value)) : buildV Tryd.prog 68 ps = aggOf (fillL (plOf Tryd.prog 68) ps [.int .i64 0, .int .i64 0]) := by kernel_rfl
theorem pl68_0 : plOf Tryd.prog 68 0 = some (0, 1) := by kernel_rfl
theorem pl68_1 : plOf Tryd.prog 68 1 = some (1, 1) := by kernel_rfl
theorem eq68 (a0 b0 : Int) (a1 b1 : Int) : valEq Tryd.prog 68 (.agg #[.int .i64 a0, .int .i64 a1]) (.agg #[.int .i64 b0, .int .i64 b1]) = some (decide (a0 = b0 ∧ a1 = b1)) := by
  have h : valEq Tryd.prog 68 (.agg #[.int .i64 a0, .int .i64 a1]) (.agg #[.int .i64 b0, .int .i64 b1]) = (match some (eqI a0 b0) with | some true => (match some (eqI a1 b1) with | some true => some true | some false => some false | none => none) | some false => some false | none => none) := by kernel_rfl
  rw [h]; exact eqs2 (by first | exact eqI_spec _ _ | exact bytesEq_dec _ _ | exact beq_dec _ _) (by first | exact eqI_spec _ _ | exact bytesEq_dec _ _ | exact beq_dec _ _)
theorem be68 (a0 b0 : Int) (a1 b1 : Int) : bin Tryd.prog .eql 68 (.agg #[.int .i64 a0, .int .i64 a1]) (.agg #[.int .i64 b0, .int .i64 b1]) = some (.bool (decide (a0 = b0 ∧ a1 = b1))) := bin_eql_agg (eq68 a0 b0 a1 b1)
theorem bn68 (a0 b0 : Int) (a1 b1 : Int) : bin Tryd.prog .neq 68 (.agg #[.int .i64 a0, .int .i64 a1]) (.agg #[.int .i64 b0, .int .i64 b1]) = some (.bool (decide (¬ (a0 = b0 ∧ a1 = b1)))) := bin_neq_agg (eq68 a0 b0 a1 b1)
theorem bv79 (ps : List (Nat × Value)) : buildV Tryd.prog 79 ps = aggOf (fillL (plOf Tryd.prog 79) ps [.int .i64 0, .int .i64 0]) := by kernel_rfl
theorem pl79_0 : plOf Tryd.prog 79 0 = some (0, 1) := by kernel_rfl
theorem pl79_1 : plOf Tryd.prog 79 1 = some (1, 1) := by kernel_rfl
theorem eq79 (a0 b0 : Int) (a1 b1 : Int) : valEq Tryd.prog 79 (.agg #[.int .i64 a0, .int .i64 a1]) (.agg #[.int .i64 b0, .int .i64 b1]) = some (decide (a0 = b0 ∧ a1 = b1)) := by
  have h : valEq Tryd.prog 79 (.agg #[.int .i64 a0, .int .i64 a1]) (.agg #[.int .i64 b0, .int .i64 b1]) = (match some (eqI a0 b0) with | some true => (match some (eqI a1 b1) with | some true => some true | some false => some false | none => none) | some false => some false | none => none) := by kernel_rfl
  rw [h]; exact eqs2 (by first | exact eqI_spec _ _ | exact bytesEq_dec _ _ | exact beq_dec _ _) (by first | exact eqI_spec _ _ | exact bytesEq_dec _ _ | exact beq_dec _ _)
theorem be79 (a0 b0 : Int) (a1 b1 : Int) : bin Tryd.prog .eql 79 (.agg #[.int .i64 a0, .int .i64 a1]) (.agg #[.int .i64 b0, .int .i64 b1]) = some (.bool (decide (a0 = b0 ∧ a1 = b1))) := bin_eql_agg (eq79 a0 b0 a1 b1)
theorem bn79 (a0 b0 : Int) (a1 b1 : Int) : bin Tryd.prog .neq 79 (.agg #[.int .i64 a0, .int .i64 a1]) (.agg #[.int .i64 b0, .int .i64 b1]) = some (.bool (decide (¬ (a0 = b0 ∧ a1 = b1)))) := bin_neq_agg (eq79 a0 b0 a1 b1)
attribute [push_cast] sz1 zv1 ld1 sz2 zv2 ld2 sz3 zv3 ld3 sz4 zv4 ld4 sz5 zv5 ld5 sz22 zv22 ld22 es22 sz23 zv23 ld23 sz33 zv33 ld33 fa33_0 fo33_0 fa33_1 fo33_1 sz39 zv39 ld39 sz51 zv51 ld51 ar51 sz59 zv59 ld59 es59 sz63 zv63 ld63 es63 sz66 zv66 ld66 ar66 sz68 zv68 ld68 fa68_0 fo68_0 fa68_1 fo68_1 sz79 zv79 ld79 fa79_0 fo79_0 fa79_1 fo79_1 sz89 ld89 ar89 sz91 ld91 fa91_0 fo91_0 sz96 zv96 ld96 sz107 zv107 ld107 sz120 zv120 ld120 sz128 zv128 ld128 sz129 zv129 ld129 sz131 zv131 ld131 es131 sz134 zv134 ld134 sz140 zv140 ld140 es140 sz141 zv141 ld141 sz142 zv142 ld142 sz159 zv159 ld159 sz162 zv162 ld162 bv33 pl33_0 pl33_1 bv68 pl68_0 pl68_1 be68 bn68 bv79 pl79_0 pl79_1 be79 bn79
attribute [push_cast] Tryd.underlying1 Tryd.underlying2 Tryd.underlying3 Tryd.underlying4 Tryd.underlying5 Tryd.underlying22 Tryd.underlying23 Tryd.underlying33 Tryd.underlying39 Tryd.underlying51 Tryd.underlying59 Tryd.underlying63 Tryd.underlying66 Tryd.underlying68 Tryd.underlying79 Tryd.underlying89 Tryd.underlying91 Tryd.underlying96 Tryd.underlying107 Tryd.underlying120 Tryd.underlying128 Tryd.underlying129 Tryd.underlying131 Tryd.underlying134 Tryd.underlying140 Tryd.underlying141 Tryd.underlying142 Tryd.underlying159 Tryd.underlying162
attribute [push_cast] Tryd.results0 Tryd.results1 Tryd.results2 Tryd.results3 Tryd.results4 Tryd.results5 Tryd.results6 Tryd.results7 Tryd.results8 Tryd.results9 Tryd.results10 Tryd.results11 Tryd.results12 Tryd.results13 Tryd.results14 Tryd.results15 Tryd.results16 Tryd.results17 Tryd.results18 Tryd.results19 Tryd.results20 Tryd.results21 Tryd.results22 Tryd.results23 Tryd.results24 Tryd.results25 Tryd.results26 Tryd.results27 Tryd.results28 Tryd.results29 Tryd.results30 Tryd.results31 Tryd.results32 Tryd.results33 Tryd.results34 Tryd.results35 Tryd.results36 Tryd.results37 Tryd.results38 Tryd.results39 Tryd.results40 Tryd.results41 Tryd.results42 Tryd.results43 Tryd.results44 Tryd.results45 Tryd.results46 Tryd.results47 Tryd.results48 Tryd.results49 Tryd.results50 Tryd.results51 Tryd.results52 Tryd.results53 Tryd.results54 Tryd.results55 Tryd.results56 Tryd.results57 Tryd.results58 Tryd.results59 Tryd.results60 Tryd.results61 Tryd.results62 Tryd.results63 Tryd.results64 Tryd.results65 Tryd.results66 Tryd.results67 Tryd.results68 Tryd.results69 Tryd.results70 Tryd.results71 Tryd.results72 Tryd.results73 Tryd.results74 Tryd.results75 Tryd.results76 Tryd.results77 Tryd.results78 Tryd.results79 Tryd.results80 Tryd.results81 Tryd.results82 Tryd.results83 Tryd.results84 Tryd.results85 Tryd.results86 Tryd.results87 Tryd.results88 Tryd.results89 Tryd.results90 Tryd.results91 Tryd.results92 Tryd.results93 Tryd.results94 Tryd.results95 Tryd.results96 Tryd.results97 Tryd.results98 Tryd.results99 Tryd.results100 Tryd.results101 Tryd.results102 Tryd.results103 Tryd.results104 Tryd.results105 Tryd.results106 Tryd.results107 Tryd.results108 Tryd.results109 Tryd.results110 Tryd.results111 Tryd.results112 Tryd.results113 Tryd.results114 Tryd.results115 Tryd.results116 Tryd.results117 Tryd.results118 Tryd.results119 Tryd.results120 Tryd.results121 Tryd.results122 Tryd.results123 Tryd.results124 Tryd.results125 Tryd.results126 Tryd.results127 Tryd.results128 Tryd.results129 Tryd.results130 Tryd.results131 Tryd.results132 Tryd.results133 Tryd.results134 Tryd.results135 Tryd.results136 Tryd.results137 Tryd.results138 Tryd.results139 Tryd.results140 Tryd.results141 Tryd.results142 Tryd.results143 Tryd.results144 Tryd.results145 Tryd.results146 Tryd.results147 Tryd.results148 Tryd.results149 Tryd.results150 Tryd.results151 Tryd.results152 Tryd.results153 Tryd.results154 Tryd.results155 Tryd.results156 Tryd.results157 Tryd.results158 Tryd.results159 Tryd.results160 Tryd.results161 Tryd.results162 Tryd.results163 Tryd.results164 Tryd.results165 Tryd.results166 Tryd.results167 Tryd.results168 Tryd.results169 Tryd.results170 Tryd.results171 Tryd.results172 Tryd.results173 Tryd.results174 Tryd.results175 Tryd.results176 Tryd.results177 Tryd.results178 Tryd.results179 Tryd.results180 Tryd.results181 Tryd.results182
end Go.Proofs.YtelepfablohdmaaDoor
