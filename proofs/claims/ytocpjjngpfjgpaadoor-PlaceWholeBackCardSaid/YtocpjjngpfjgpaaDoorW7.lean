/- Strings: bytes, equality. -/
import Derived.Test.YtocpjjngpfjgpaaDoorW6
set_option linter.unusedSimpArgs false
set_option linter.unusedVariables false
namespace Go.Ev
variable {P : Program} {E : Loc} {h : AHeap}
theorem str_eql (t : TypeId) (a b : ByteArray) : bin P .eql t (.string a) (.string b) = some (.bool (decide (a = b))) := by
  show some (Value.bool (bytesEq a.data.toList b.data.toList)) = _
  rw [bytesEq_dec]
theorem str_neq (t : TypeId) (a b : ByteArray) : bin P .neq t (.string a) (.string b) = some (.bool (decide (¬ a = b))) := by
  show some (Value.bool (!bytesEq a.data.toList b.data.toList)) = _
  rw [bytesEq_dec, not_dec]
/-- byte i of a string -/
def byteAt (s : ByteArray) (i : Nat) : Int := ((s.data.toList[i]?.getD 0).toNat : Int)
theorem byteAt_bd (s : ByteArray) (i : Nat) : 0 ≤ byteAt s i ∧ byteAt s i ≤ 255 := by
  unfold byteAt
  have := (s.data.toList[i]?.getD 0).toNat_lt
  omega
def strIx (d : Option TypeDesc) (s : ByteArray) (i : Option Nat) : Option Value :=
  match d, i with
  | some .string, some i => if i < s.size then some (.int .u8 (byteAt s i)) else none
  | _, _ => none
theorem strIx_some (s : ByteArray) (i : Nat) (hi : i < s.size) : strIx (some .string) s (some i) = some (.int .u8 (byteAt s i)) := if_pos hi
theorem index_str (t : TypeId) (s : ByteArray) (ix : Value) : indexV P t (.string s) ix = strIx (P.underlying t) s (natOf ix) := by
  unfold indexV strIx
  cases natOf ix with
  | none => cases P.underlying t with
    | none => rfl
    | some d => cases d <;> rfl
  | some i =>
    dsimp only
    cases P.underlying t with
    | none => rfl
    | some d =>
      cases d with
      | string =>
        dsimp only
        rw [at?_eq]
        have hsz : s.size = s.data.toList.length := by rw [Array.length_toList]; rfl
        by_cases hi : i < s.size
        · rw [if_pos hi, List.getElem?_eq_getElem (by omega)]
          unfold byteAt
          rw [List.getElem?_eq_getElem (by omega)]
          rfl
        · rw [if_neg hi, List.getElem?_eq_none (by omega)]
      | _ => rfl
/-- a string's size is a length -/
theorem byte_ext {a b : ByteArray} (h1 : a.size = b.size) (h2 : ∀ i, i < a.size → byteAt a i = byteAt b i) : a = b := by
  have e : a.data.toList = b.data.toList := by
    have l1 : a.size = a.data.toList.length := by rw [Array.length_toList]; rfl
    have l2 : b.size = b.data.toList.length := by rw [Array.length_toList]; rfl
    refine List.ext_getElem (by omega) fun i hi1 hi2 => ?_
    have := h2 i (by omega)
    unfold byteAt at this
    rw [List.getElem?_eq_getElem (by omega), List.getElem?_eq_getElem (by omega)] at this
    simp only [Option.getD_some] at this
    exact UInt8.toNat_inj.1 (by omega)
  cases a; cases b
  simp_all [Array.toList_inj]
attribute [push_cast] str_eql str_neq index_str strIx_some
end Go.Ev
