/- Contract: Ratio of a place-value number. -/
import Derived.Test.YtcfohcpcepeolaaGreatDoorVA
import Derived.Test.YtcfohcpcepeolaaGreatDoorVJ
set_option linter.unusedSimpArgs false
set_option linter.unusedVariables false
/- Contracts: metro: magnitude, gcd, Ratio, IsRatio. -/
namespace Go.Proofs.YtcfohcpcepeolaaGreatDoor
open Go.Ev
/-- a ratio's parts and an error, as a call hands them back -/
def ratV (x : Int × Int × Int) : Value := .tuple #[.agg #[.int .i64 x.1, .int .i64 x.2.1], .int .i64 x.2.2]
theorem ratV_0 (x : Int × Int × Int) : extractV (ratV x) 0 = some (.agg #[.int .i64 x.1, .int .i64 x.2.1]) := rfl
theorem ratV_1 (x : Int × Int × Int) : extractV (ratV x) 1 = some (.int .i64 x.2.2) := rfl
attribute [push_cast] ratV_0 ratV_1
def IsR (n d : Int) : Prop := 1 ≤ d ∧ d ≤ 1048576 ∧ n.natAbs ≤ 1099511627776 ∧ n.natAbs.gcd d.natAbs = 1
instance (n d : Int) : Decidable (IsR n d) := by unfold IsR; infer_instance
end Go.Proofs.YtcfohcpcepeolaaGreatDoor
/- Divisions by 2, 2, 3 and 5 in rounds; fractions that are equal. -/
namespace Go.Proofs.YtcfohcpcepeolaaGreatDoor
open Go.Ev
def rstep (s : Option (Nat × Nat)) (p : Nat) : Option (Nat × Nat) := match s with
  | none => none
  | some (t, b) => if t % p = 0 then some (t / p, b) else if 1048576 < b * p then none else some (t, b * p)
def rfold (ps : List Nat) (s : Option (Nat × Nat)) : Option (Nat × Nat) := ps.foldl rstep s
def rr : Nat → Option (Nat × Nat) → Option (Nat × Nat)
  | 0, s => s
  | k + 1, s => rr k (rfold [2, 2, 3, 5] s)
end Go.Proofs.YtcfohcpcepeolaaGreatDoor
namespace Go.Proofs.YtcfohcpcepeolaaGreatDoor
open Go.Ev
theorem max2 {P : Program} (h : AHeap) (ts : List TypeId) (a b : Int) : builtinOp P h .max ts [.int .i64 a, .int .i64 b] = some (.int .i64 (max a b), h) := by
  show some (Value.int .i64 (cond (ltI a b) b a), h) = _
  rw [ltI_spec]
  congr 3
  by_cases hab : a < b
  · rw [decide_eq_true hab, cond_true]; omega
  · rw [decide_eq_false hab, cond_false]; omega
theorem min2 {P : Program} (h : AHeap) (ts : List TypeId) (a b : Int) : builtinOp P h .min ts [.int .i64 a, .int .i64 b] = some (.int .i64 (min a b), h) := by
  show some (Value.int .i64 (cond (ltI b a) b a), h) = _
  rw [ltI_spec]
  congr 3
  by_cases hab : b < a
  · rw [decide_eq_true hab, cond_true]; omega
  · rw [decide_eq_false hab, cond_false]; omega
end Go.Proofs.YtcfohcpcepeolaaGreatDoor
