/- This seat's program, and the closed calls that are known. -/
import Derived.Test.YtomamgmefpmnpaaFacts
import Derived.Test.YtomamgmefpmnpaaW3
import Derived.Test.YtomamgmefpmnpaaEx
set_option linter.unusedSimpArgs false
set_option linter.unusedVariables false
namespace Go.Proofs.Ytomamgmefpmnpaa
open Go.Ev
noncomputable def pr : Pr := ⟨Try.prog, [21]⟩
theorem pr_P : pr.P = Try.prog := rfl
theorem func_p (p : Pr) (f n : Nat) : (Fx.func p f n).p = p := rfl
theorem func_size (p : Pr) (f n : Nat) : (Fx.func p f n).size = n := rfl
attribute [push_cast] pr_P func_p func_size
theorem known21 : ShutAll pr.P pr.K := shut_cons works_shut (by kernel_rfl) (shut_nil _)
end Go.Proofs.Ytomamgmefpmnpaa
