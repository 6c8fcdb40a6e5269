/- From the evaluator's calls to the model's. -/
import Derived.Test.YtemdclffpnejjaaG0
set_option linter.unusedSimpArgs false
set_option linter.unusedVariables false
namespace Go.Proofs.Ytemdclffpnejjaa
open Go.Ev
theorem true_calls {f : FuncId} {fn : Func} {body : Code} {args args' : List Value} (hf : Try.prog.funcs[f]? = some fn) (hb : fn.body = some body) (hno : isIn pr.K f = false) (ha : VRels (fun _ => none) args args') (c : Wc pr (.func f) args (emptyHeap pr.P) fun v _ => v = .bool true) (w : World) :
    Calls Try.prog f args'.toArray w fun e w' => e = .returned (.bool true) ∧ RowKit.Below w.heap.size w w' := by
  refine (Wc.calls (p := pr) orders noNum known21 hf hb hno ha (sim_empty pr.P w) c).mono ?_
  rintro e w' ⟨ρ', v, v', h', rfl, hv, hw, rfl⟩
  exact ⟨by rw [hv.bool_inv], hw.ext.below⟩
end Go.Proofs.Ytemdclffpnejjaa
