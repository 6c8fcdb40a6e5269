/- The seat of the place laws: its externs, and calls that are known. -/
import Derived.Test.YtelepfablohdmaaGreatDoorXA
import Derived.Test.YtelepfablohdmaaGreatDoorEv27
import Derived.Test.YtelepfablohdmaaGreatDoorRows
import Derived.Lib.Bytealg
set_option linter.unusedSimpArgs false
set_option linter.unusedVariables false
namespace Go.Proofs.YtelepfablohdmaaGreatDoor
open Go.Ev
theorem orders : Tryz.prog.follows .mixedOrders = true := by kernel_rfl
theorem noNum : NoNum Tryz.prog := noNum_of (by kernel_rfl)
noncomputable def pm : Prim := fun f args => cond (Nat.beq f 190) (match args with
  | [.string s, .int .u8 c] => some (.int .i64 (Lib.indexByte s.data.toList c.toNat.toUInt8))
  | _ => none) none
noncomputable def fn190 : Func := (Tryz.prog.funcs[190]?).getD default
theorem pmOk : PrimOk Tryz.prog pm := by
  intro f args args' v ρ w h ha
  unfold pm at h
  cases hb : Nat.beq f 190 with
  | false => rw [hb] at h; cases h
  | true =>
    rw [hb, cond_true] at h
    have hf := Nat.eq_of_beq_eq_true hb
    subst hf
    split at h
    · rename_i s c
      cases h
      cases ha with
      | cons h1 t =>
        cases h1
        cases t with
        | cons h2 t =>
          cases h2
          cases t
          refine ⟨_, ?_, .int _ _⟩
          rw [run_callFunc_extern (fn := fn190) (e := Extern.BytealgIndexByte.indexByte) (by kernel_rfl) (by kernel_rfl) (by kernel_rfl) (by kernel_rfl) (by kernel_rfl), Lib.run_indexByteString]
          rfl
    · cases h
/-- a number whose digits these are -/
noncomputable def num (l : List Nat) : Value := .agg ⟨(l ++ List.replicate (146 - l.length) 0).map fun n => .int .u8 (Int.ofNat n)⟩
noncomputable def int (n : Nat) : Value := .int .i64 (Int.ofNat n)
theorem knows {M : Memo} (hM : MemoOk Tryz.prog M) {f : FuncId} {args : List Value} {v : Value} (hmo : (memoAt M f args).isNone = true) (hbd : hasBody Tryz.prog f = true) (ha : allB pl2 args = true) (hv : pl3 v = true) (hr : isV (resultX Tryz.prog pm [] M f args) v = true) : Knows Tryz.prog f args v :=
  knows_of hM (by revert hmo; cases memoAt M f args with | none => intro _; rfl | some _ => intro h; cases h) pmOk orders noNum (shut_nil _) rfl hbd ha hv (isV_eq hr)
end Go.Proofs.YtelepfablohdmaaGreatDoor
