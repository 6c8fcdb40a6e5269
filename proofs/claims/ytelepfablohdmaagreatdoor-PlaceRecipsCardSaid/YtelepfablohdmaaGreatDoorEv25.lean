/- The evaluator: calls, and a closed call's result. -/
import Derived.Test.YtelepfablohdmaaGreatDoorEv24
set_option linter.unusedSimpArgs false
set_option linter.unusedVariables false
namespace Go.Ev

variable {P : Program} {base : Nat} {ρ : Ren} {w : World}

/-- no function that has a body goes by the one name that is told apart -/
def NoNum (P : Program) : Prop := ∀ (f : FuncId) (fn : Func), P.funcs[f]? = some fn → fn.body.isSome = true → (fn.name == "runtime.NumGoroutine") = false

theorem run_enter {f : FuncId} {fn : Func} {body : Code} {args : Array Value} (hnum : NoNum P) (hf : P.funcs[f]? = some fn) (hb : fn.body = some body) : (invoke (.fn (.func f) #[]) args).run P w = .ok (.enter f args) w := by
  have hn := hnum f fn hf (by rw [hb]; rfl)
  have h1 : (callFunc f args).run P w = .ok (.enter f args) w := by
    have hn' : ¬ fn.name = "runtime.NumGoroutine" := by simpa using hn
    unfold callFunc
    simp [hf, hn', hb]
  have h2 : invoke (.fn (.func f) #[]) args = callFunc f (args ++ #[]) := rfl
  rw [h2, Array.append_empty]
  exact h1

/-! ### on the way out -/
theorem unwind_sound : ∀ {ds ds' : List Deferred} {h h' : AHeap} {fr : Frame} {w : World}, DRels ρ ds ds' → fr.mode = .returning → fr.defers = ds' → unwindA ds h = some h' → Sim P base ρ h w →
    ∃ w', (∀ cs, Steps P (lone fr cs w) (lone { fr with defers := [] } cs w')) ∧ Went P base ρ h w ρ h' w'
  | _, _, h, h', fr, w, .nil, hm, hd, e, st => by
    have e' : some h = some h' := e
    cases e'
    refine ⟨w, fun cs => ?_, .refl st⟩
    have : ({ fr with defers := [] } : Frame) = fr := by rw [← hd]
    rw [this]; exact .refl _ _
  | _, _, h, h', fr, w, .cons (d := d) (d' := d') (l := l) (l' := l') (b := b) (p := p) h1 h2 h3 t, hm, hd, e, st => by
    have e' : (match d.target with
      | .collected b => match h.get b with
        | some (.deferred (some [])) => unwindA l (h.set b (.deferred none))
        | _ => none
      | _ => none) = some h' := e
    rw [h1] at e'
    dsimp only at e'
    split at e'
    · rename_i hg
      have ho := st.rel.rd _ _ _ h2 hg
      have hx : w.heap[p.block]? = some (.deferred (some [])) := by
        revert ho
        generalize w.heap[p.block]? = x
        intro ho
        cases x with
        | none => exact ho.elim
        | some x => cases x with
          | deferred d => cases d with
            | none => exact ho.elim
            | some ds => cases ds with
              | nil => rfl
              | cons => exact ho.elim
          | _ => exact ho.elim
      have g := st.putObj (o := .deferred none) (x' := .deferred none) h2 hg rfl rfl hx trivial
      have s1 := fun cs => step_collected (cs := cs) (w := w) (by rw [hm]; intro q; cases q) hd h3 (run_takeDeferred (P := P) hx)
      obtain ⟨w', s2, g2⟩ := unwind_sound (fr := { fr with defers := [] ++ l' }) (ds' := l') t hm rfl e' g.sim
      exact ⟨w', fun cs => .head (s1 cs) (s2 cs), g.trans g2⟩
    · cases e'
  | _, _, h, h', fr, w, .fn (l := l) h1 h2 h3 h4 t, hm, hd, e, st => by
    subst h1
    have e' : (none : Option AHeap) = some h' := e
    cases e'

theorem cell_sound {h : AHeap} {t : TypeId} {x x' v : Value} (st : Sim P base ρ h w) (e : cellV P h t x = some v) (hx : VRel ρ x x') : ∃ v', (do loadVar t (← asAddr x') : Sem Value).run P w = .ok v' w ∧ VRel ρ v v' := by
  unfold cellV at e
  split at e
  · rename_i a
    split at e
    · rename_i c _ _ hs hg
      obtain ⟨a', rfl, ha⟩ := hx.ptr_inv
      have h1 : loadR P t (.pointer (some a)) = some (a.block, fun
        | .cells c _ _ => loadV P t c a.off
        | _ => none) := by
        show (match a.spot with
          | none => _
          | some _ => _) = _
        rw [hs]
        rfl
      obtain ⟨v', h2, h3⟩ := load_sound st.rel.rd h1 hg e (.ptr ha)
      refine ⟨v', ?_, h3⟩
      have h4 : (Instr.loadAt t (.pointer (some a')) : Sem Value).run P w = (loadVar t a').run P w := by simp [Instr.loadAt, Instr.sureAddr]
      rw [h4] at h2
      simp [asAddr, h2]
    · cases e
  · cases e

def resF (tmps : Array Value) (r : ResultVar) : Sem Value :=
  match r with
  | .tmp t => pure (tmps.getD t undef)
  | .cell a t => do loadVar t (← asAddr (tmps.getD a undef))

theorem resAll_sound {h : AHeap} {tr : Tr Value} {tmps : Array Value} (st : Sim P base ρ h w) (ht : EnvRel ρ .nil tr tmps) : ∀ {l : List ResultVar} {vs : List Value}, resAll P tr h l = some vs →
    ∃ vs', (l.mapM (resF tmps)).run P w = .ok vs' w ∧ VRels ρ vs vs'
  | [], vs, e => by
    have e' : some [] = some vs := e
    cases e'
    exact ⟨[], by simp, .nil⟩
  | r :: rs, vs, e => by
    have e' : (match resV P tr h r, resAll P tr h rs with
      | some v, some vs => some (v :: vs)
      | _, _ => none) = some vs := e
    split at e'
    · rename_i v vs₀ h1 h2
      cases e'
      obtain ⟨vs', k1, k2⟩ := resAll_sound st ht h2
      have h3 : ∃ v', (resF tmps r).run P w = .ok v' w ∧ VRel ρ v v' := by
        cases r with
        | tmp t =>
          have h1' : some (ev .nil tr (.tmp t)) = some v := h1
          cases h1'
          exact ⟨tmps.getD t undef, by simp [resF], ht t⟩
        | cell a t =>
          have h1' : cellV P h t (ev .nil tr (.tmp a)) = some v := h1
          exact cell_sound st h1' (ht a)
      obtain ⟨v', k3, k4⟩ := h3
      refine ⟨v' :: vs', ?_, .cons k4 k2⟩
      rw [List.mapM_cons]
      simp only [Sem.run_bind, k1, k3, Result.andThen_ok, Sem.run_pure]
    · cases e'

theorem results_eq (fn : Func) (tmps : Array Value) : results fn tmps = (do let vs ← fn.results.mapM (resF tmps); pure (if h : vs.size = 1 then vs[0] else .tuple vs)) := by
  have : (fun (r : ResultVar) => (match r with
    | .tmp t => pure (tmps.getD t undef)
    | .cell a t => do loadVar t (← asAddr (tmps.getD a undef)) : Sem Value)) = resF tmps := funext fun r => by cases r <;> rfl
  unfold results
  rw [← this]
  rfl

theorem run_mapM_arr {α : Type} {l : Array ResultVar} {f : ResultVar → Sem Value} {vs : List Value} (k : Array Value → Sem α) (h : (l.toList.mapM f).run P w = .ok vs w) : (do let vs ← l.mapM f; k vs : Sem α).run P w = (k vs.toArray).run P w := by
  rw [Array.mapM_eq_mapM_toList]
  simp [h]

theorem results_sound {h : AHeap} {tr : Tr Value} {tmps : Array Value} {fn : Func} {vs : List Value} (st : Sim P base ρ h w) (ht : EnvRel ρ .nil tr tmps) (e : resAll P tr h fn.results.toList = some vs) :
    ∃ v', (results fn tmps).run P w = .ok v' w ∧ VRel ρ (asResult vs) v' := by
  obtain ⟨vs', h1, h2⟩ := resAll_sound st ht e
  have h3 : (results fn tmps).run P w = .ok (if h : vs'.toArray.size = 1 then vs'.toArray[0] else .tuple vs'.toArray) w := by
    rw [results_eq, run_mapM_arr _ h1]
    simp only [Sem.run_pure]
  refine ⟨_, h3, ?_⟩
  match vs, vs', h2 with
  | [], [], _ => exact .tuple .nil
  | [v], [v'], .cons hv _ => exact hv
  | v :: u :: vs, v' :: u' :: vs', h2 =>
    have : ¬ ((v' :: u' :: vs').toArray.size = 1) := by simp
    rw [dif_neg this]
    exact .tuple h2
end Go.Ev
