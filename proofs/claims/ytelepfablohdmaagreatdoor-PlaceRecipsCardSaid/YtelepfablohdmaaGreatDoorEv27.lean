/- The evaluator: what a program has to keep for it. -/
import Derived.Test.YtelepfablohdmaaGreatDoorEv26
import Derived.KernelRfl
set_option linter.unusedSimpArgs false
set_option linter.unusedVariables false
namespace Go.Ev

noncomputable def noNumB (l : List Func) : Bool :=
  List.rec (motive := fun _ => Bool) true (fun fn _ ih => Bool.rec (motive := fun _ => Bool) ih (Bool.rec (motive := fun _ => Bool) false ih (fn.name != "runtime.NumGoroutine")) fn.body.isSome) l

theorem noNumB_spec : ∀ {l : List Func}, noNumB l = true → ∀ fn ∈ l, fn.body.isSome = true → (fn.name == "runtime.NumGoroutine") = false
  | [], _, fn, h => by cases h
  | x :: l, h, fn, hm => by
    have h' : (Bool.rec (motive := fun _ => Bool) (noNumB l) (Bool.rec (motive := fun _ => Bool) false (noNumB l) (x.name != "runtime.NumGoroutine")) x.body.isSome : Bool) = true := h
    intro hb
    cases hm with
    | head =>
      rw [hb] at h'
      cases hn : (x.name != "runtime.NumGoroutine") with
      | false => rw [hn] at h'; cases h'
      | true => simpa [bne] using hn
    | tail _ hm =>
      refine noNumB_spec (l := l) ?_ fn hm hb
      cases hb' : x.body.isSome with
      | false => rw [hb'] at h'; exact h'
      | true =>
        rw [hb'] at h'
        cases hn : (x.name != "runtime.NumGoroutine") with
        | false => rw [hn] at h'; cases h'
        | true => rw [hn] at h'; exact h'

theorem noNum_of {P : Program} (h : noNumB P.funcs.toList = true) : NoNum P := fun f fn hf hb =>
  noNumB_spec h fn (Array.mem_toList_iff.2 (Array.mem_of_getElem? hf)) hb
end Go.Ev
