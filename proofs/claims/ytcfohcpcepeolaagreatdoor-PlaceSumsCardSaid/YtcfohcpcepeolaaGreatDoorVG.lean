/- Contracts: exponents, inverse. -/
import Derived.Test.YtcfohcpcepeolaaGreatDoorVF
set_option linter.unusedSimpArgs false
set_option linter.unusedVariables false
/- Contracts: times, Mul. -/
namespace Go.Proofs.YtcfohcpcepeolaaGreatDoor
open Go.Ev
theorem digsN_lt {X k : Nat} (hX : X < 60 ^ 146) (h : digsN X k) : X < 60 ^ k := by
  have := top_zero hX h
  rcases Nat.lt_or_ge X (60 ^ k) with q | q
  · exact q
  · have := Nat.div_pos q (pow60_pos k)
    omega
theorem ints_okL (k : IntKind) : ∀ l : List Int, okL (ints k l) = true
  | [] => rfl
  | x :: l => by
    show (okC (.int k x) && okL (ints k l)) = true
    rw [ints_okL k l]; rfl
theorem same_ints (k : IntKind) (l : List Int) : same (.agg (ints k l).toArray) (.agg (ints k l).toArray) = true := same_of rfl (ints_okL k l)
theorem len0 {l : List Int} : ((l.length : Int) = 0) ↔ l = [] := by
  constructor
  · intro h; exact List.eq_nil_of_length_eq_zero (by omega)
  · intro h; rw [h]; rfl
end Go.Proofs.YtcfohcpcepeolaaGreatDoor
/- Contract: over. -/
namespace Go.Proofs.YtcfohcpcepeolaaGreatDoor
open Go.Ev
end Go.Proofs.YtcfohcpcepeolaaGreatDoor
/- Contracts: multiply of bytes by integers, multiple, scaled. -/
namespace Go.Proofs.YtcfohcpcepeolaaGreatDoor
open Go.Ev
end Go.Proofs.YtcfohcpcepeolaaGreatDoor
/- Contracts: without, isOne, exponents. -/
namespace Go.Proofs.YtcfohcpcepeolaaGreatDoor
open Go.Ev
theorem cells_dec (d : TypeDesc) (k : IntKind) (hd : d = .int .u8) (hk : kindEq k k = true) : ∀ (l m : List Int), l.length = m.length → cellsEq d l.length (ints k l) (ints k m) = some (decide (l = m))
  | [], [], _ => rfl
  | [], _ :: _, h => by cases h
  | _ :: _, [], h => by cases h
  | x :: l, y :: m, h => by
    subst hd
    have e : cellEq (.int .u8) (.int k x) (.int k y) = some (eqI x y) := by
      show cond (kindEq k k) (some (eqI x y)) none = _
      rw [hk]; rfl
    show (match cellEq (.int .u8) (.int k x) (.int k y) with
      | some true => cellsEq (.int .u8) l.length (ints k l) (ints k m)
      | some false => some false
      | none => none) = _
    rw [e]
    by_cases hxy : x = y
    · subst hxy
      have : eqI x x = true := by rw [eqI_spec]; simp
      rw [this]
      show cellsEq (.int .u8) l.length (ints k l) (ints k m) = _
      rw [cells_dec (.int .u8) k rfl hk l m (by simpa using h)]
      congr 1
      exact decide_eq_decide.2 (by simp)
    · have : eqI x y = false := by rw [eqI_spec]; simpa using hxy
      rw [this]
      show some false = _
      congr 1
      exact (decide_eq_false (by simp [hxy])).symm
set_option maxRecDepth 100000 in
theorem arr_eq {l m : List Int} (hl : l.length = 146) (hm : m.length = 146) : bin Tryz.prog .eql 85 (.agg (ints .u8 l).toArray) (.agg (ints .u8 m).toArray) = some (.bool (decide (l = m))) := by
  have h1 : Tryz.prog.underlying 85 = some (.array 146 5) := by kernel_rfl
  have h2 : Tryz.prog.underlying 5 = some (.int .u8) := by kernel_rfl
  have h3 : (aggD (.int .u8) || Tryz.prog.eqGuardType Tryz.prog.depth 85 || !(Nat.beq (Tryz.prog.cellsOf 5) 1) || (Tryz.prog.info? 5).isNone) = false := by kernel_rfl
  show (valEq Tryz.prog 85 (.agg (ints .u8 l).toArray) (.agg (ints .u8 m).toArray)).map Value.bool = _
  unfold valEq
  rw [h1]
  dsimp only
  rw [h2]
  dsimp only
  rw [h3]
  have := cells_dec (.int .u8) .u8 rfl rfl l m (by omega)
  rw [hl] at this
  rw [if_neg (by decide), this]
  rfl
end Go.Proofs.YtcfohcpcepeolaaGreatDoor
namespace Go.Proofs.YtcfohcpcepeolaaGreatDoor
open Go.Ev
end Go.Proofs.YtcfohcpcepeolaaGreatDoor
