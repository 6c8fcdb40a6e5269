/- The evaluator: ranges over functions, and a frame's run. -/
import Derived.Test.YtelepfablohdmaaGreatDoorEv23
set_option linter.unusedSimpArgs false
set_option linter.unusedVariables false
namespace Go.Ev

variable {P : Program} {base : Nat} {ρ : Ren} {w : World}

theorem stepR_scope {b : Frame} {a : Act} {k : List Item} {cs : List Frame} {c : Code} : step P (lone (b.atR a (.code (.scope c) :: k)) cs w) = .next (lone (b.atR a (.code c :: .inScope c :: k)) cs w) :=
  step_lone_go (by simp [stepG, stepG.exec, Frame.atR])
theorem stepR_inScope {b : Frame} {a : Act} {k : List Item} {cs : List Frame} {c : Code} : step P (lone (b.atR a (.inScope c :: k)) cs w) = .next (lone (b.atR a k) cs w) :=
  step_lone_go (by simp [stepG, stepG.exec, Frame.atR])

section range
variable {b : Frame} {a : Act} {k : List Item} {cs : List Frame} {g : Operand} {ps : Array Tmp} {assign body : Code} {l : Nat} {mark : List Deferred} {w₁ : World}

theorem stepGR_range (he : (Instr.enterLoop b.fn a.tmps ps assign body b.roundOf).run P w = .ok (l, mark) w₁) :
    (stepG P true { frame := b.atR a (.code (.rangeFunc g ps assign body) :: k), callers := cs, status := .running, dying := none } w).bare =
      (stepG.apply P true (b.atR { a with defers := mark ++ a.defers } (.inRangeFunc l :: k)) cs none (do let d ← resolve a.eval (rangeCall g l) 0; invoke d.target d.args) w₁).bare := by
  have hev := Frame.eval_atR b { a with defers := mark ++ a.defers } (.inRangeFunc l :: k)
  have ha : Act.eval { a with defers := mark ++ a.defers } = a.eval := rfl
  rw [ha] at hev
  rw [← hev]
  simp only [stepG, stepG.exec, Frame.atR, Sem.runT_eq, he, GStep.bare_after]

theorem range_steps {v : Value} {w' : World} (he : (Instr.enterLoop b.fn a.tmps ps assign body b.roundOf).run P w = .ok (l, mark) w₁)
    (hd : Does P (do let d ← resolve a.eval (rangeCall g l) 0; invoke d.target d.args) w₁ v w') :
    Steps P (lone (b.atR a (.code (.rangeFunc g ps assign body) :: k)) cs w) (lone (b.atR { a with defers := mark ++ a.defers } (.endRangeFunc l :: k)) cs w') := by
  have hg := stepGR_range (P := P) (k := k) (cs := cs) (g := g) he
  generalize (do let d ← resolve a.eval (rangeCall g l) 0; invoke d.target d.args : Sem Next) = s at hd hg
  have hfin : ∀ v, (b.atR { a with defers := mark ++ a.defers } (.inRangeFunc l :: k)).finish v = b.atR { a with defers := mark ++ a.defers } (.endRangeFunc l :: k) := fun v => finish_atR_inRangeFunc l v
  cases hd with
  | value h =>
    refine .one (step_lone_go ?_)
    rw [hg, ← hfin v]
    simp [stepG.apply, Sem.runT_eq, h, GStep.bare_after]
  | skip h hv =>
    refine .one (step_lone_go ?_)
    rw [hg, ← hfin undef]
    simp [stepG.apply, Sem.runT_eq, h, GStep.bare_after]
  | enter h hc =>
    rename_i f args w₂
    have h1 : step P (lone (b.atR a (.code (.rangeFunc g ps assign body) :: k)) cs w) = .next (lone (Frame.enter P f args .normal) (b.atR { a with defers := mark ++ a.defers } (.inRangeFunc l :: k) :: cs) w₂) :=
      step_lone_go (by rw [hg]; simp [stepG.apply, Sem.runT_eq, h, GStep.bare_after, Frame.atR])
    have h2 := hc (b.atR { a with defers := mark ++ a.defers } (.inRangeFunc l :: k)) cs
    rw [hfin] at h2
    exact .head h1 h2
  | round h hc =>
    rename_i l' f tmps assign' body' w₂
    have h1 : step P (lone (b.atR a (.code (.rangeFunc g ps assign body) :: k)) cs w) = .next (lone (Frame.round l' f tmps assign' body' .normal) (b.atR { a with defers := mark ++ a.defers } (.inRangeFunc l :: k) :: cs) w₂) :=
      step_lone_go (by rw [hg]; simp [stepG.apply, Sem.runT_eq, h, GStep.bare_after, Frame.atR])
    have h2 := hc (b.atR { a with defers := mark ++ a.defers } (.inRangeFunc l :: k)) cs
    rw [hfin] at h2
    exact .head h1 h2
end range

theorem run_enterLoop_inner {l₀ : Nat} {r : Loop} (h : w.heap[l₀]? = some (.loop r)) (fn : FuncId) (tmps : Array Value) (ps : Array Tmp) (assign body : Code) :
    (Instr.enterLoop fn tmps ps assign body (some l₀)).run P w =
      .ok (w.heap.size, []) (w.alloc (.loop { state := .ready, pending := none, fn, tmps, params := ps, assign, body, defers := r.defers })) := by
  unfold Instr.enterLoop
  simp only [Sem.run_bind, run_getLoop h, run_newObj_alloc, Result.andThen, Sem.run_pure]

/-- the call of the function that is ranged over -/
theorem loopCall_sound {c : Ctx} {h h' : AHeap} {f : Value} {l : Nat} {p : Place} {v : Value} {a : Act} {g : Operand} (hinv : InvOk P c.inv) (st : Sim P base ρ h w) (hf : VRel ρ f (a.eval g)) (hp : ρ l = some p) (e : loopCall c f l h = some (v, h')) :
    Done P base ρ h w (do let d ← resolve a.eval (rangeCall g p.block) 0; invoke d.target d.args) v h' := by
  have := callV_sound (args' := #[.func (.yield p.block) #[] #[]]) hinv st e hf (.cons (.yl hp) .nil)
  have key : (do let d ← resolve a.eval (rangeCall g p.block) 0; invoke d.target d.args : Sem Next) = (do let d ← Deferred.ofValue (a.eval g) #[.func (.yield p.block) #[] #[]]; invoke d.target d.args) := by
    have hmap : (#[Operand.const (.func (.yield p.block) #[] #[])] : Array Operand).map a.eval = #[.func (.yield p.block) #[] #[]] := by simp [Act.eval]
    unfold resolve
    simp only [hmap]
  rw [key]; exact this

/-- behind the call -/
theorem end_ok {c : Ctx} {b : Frame} {tr : Tr Value} {defers : List Deferred} {h : AHeap} {a : Act} {l : Nat} {p : Place} {k : List Item} (f : FrR P base c b ρ tr defers h a w) (hp : ρ l = some p) :
    match endNx tr defers h l k with
    | .go todo => False
    | .set tr' h' todo defers' => Moves P base c b ρ h a w (.endRangeFunc p.block :: k) tr' defers' h' todo
    | .done => False
    | .fail => True := by
  unfold endNx
  cases hg : h.get l with
  | none => trivial
  | some o =>
    cases o with
    | loop r =>
      dsimp only
      obtain ⟨r', h1, h2⟩ := loop_at f.sim hp hg
      have hstate := h2.1
      have hpend := h2.2.1
      have main : r.state ≠ .busy → Moves P base c b ρ h a w (.endRangeFunc p.block :: k) tr defers (h.set l (r.with .exhausted r.pending)) (todoOf r.pending k) := fun hne => by
        obtain ⟨k1, k2, k3, k4, k5, k6, k7, k8⟩ := h2
        have g := putObj_went (r₂ := { r with state := .exhausted, pending := r.pending }) (r₂' := { r' with state := .exhausted }) f.sim hp hg h1 ⟨rfl, k2, k3, k4, k5, k6, k7, k8⟩
        refine ⟨ρ, _, a, fun cs => ?_, g, f.wentBy g⟩
        have := stepR_endRangeFunc (b := b) (a := a) (k := k) (cs := cs) (run_endLoop (P := P) h1 (by rw [hstate]; exact hne))
        have htodo : (r'.pending.map Item.code).toList ++ k = todoOf r.pending k := by rw [hpend]; cases r.pending <;> rfl
        rw [htodo] at this
        exact .one this
      cases hs : r.state with
      | busy => trivial
      | _ =>
        dsimp only
        rw [AHeap.setK_eq]
        exact main (by rw [hs]; intro q; cases q)
    | _ => trivial

theorem Moves.trans {c : Ctx} {b : Frame} {ρ' : Ren} {w' : World} {a a' : Act} {h h' h'' : AHeap} {todo todo' todo'' : List Item} {tr'' : Tr Value} {defers'' : List Deferred}
    (s : ∀ cs, Steps P (lone (b.atR a todo) cs w) (lone (b.atR a' todo') cs w')) (g : Went P base ρ h w ρ' h' w') (m : Moves P base c b ρ' h' a' w' todo' tr'' defers'' h'' todo'') : Moves P base c b ρ h a w todo tr'' defers'' h'' todo'' := by
  obtain ⟨ρ₂, w₂, a₂, s₂, g₂, f₂⟩ := m
  exact ⟨ρ₂, w₂, a₂, fun cs => (s cs).trans (s₂ cs), g.trans g₂, f₂⟩

theorem range_ok {c : Ctx} {b : Frame} {tr : Tr Value} {defers : List Deferred} {h : AHeap} {k : List Item} {g : Operand} {ps : Array Tmp} {assign body : Code} (hinv : InvOk P c.inv) (hfn : b.fn = c.fn) :
    ItemOk P base c b tr defers h (.code (.rangeFunc g ps assign body)) k (rangeNx c tr defers h (ev .nil tr g) ps assign body k) := by
  intro ρ w a f
  have hround := f.round
  unfold rangeNx
  cases hr : c.round with
  | none =>
    dsimp only
    rw [hr] at hround
    have hb : b.roundOf = none := by cases hb : b.roundOf with
      | none => rfl
      | some l' => rw [hb] at hround; exact hround.elim
    cases hcall : loopCall c (ev .nil tr g) (Nat.succ h.next) ((h.new (.deferred (some []))).new (loopOf c tr ps assign body h.next)) with
    | none => trivial
    | some res =>
      obtain ⟨v, h'⟩ := res
      dsimp only
      have g1 := f.sim.new (.deferred (some [])) (.deferred (some [])) 0 0 trivial
      have g2 := g1.sim.new (loopOf c tr ps assign body h.next) (.loop { state := .ready, pending := none, fn := b.fn, tmps := a.tmps, params := ps, assign, body, defers := w.heap.size }) 0 0
        ⟨rfl, rfl, hfn, rfl, rfl, rfl, (f.tmps.mono g1.le).mono (Ren.le_put g1.sim.unmet), ⟨w.heap.size, 0, 0, 0⟩, by
          refine Ren.le_put g1.sim.unmet _ _ ?_
          exact Ren.put_self _ _ _, rfl⟩
      have g12 := g1.trans g2
      have hp : ((ρ.put h.next ⟨w.heap.size, 0, 0, 0⟩).put (h.new (.deferred (some []))).next ⟨(w.alloc (.deferred (some []))).heap.size, 0, 0, 0⟩) (Nat.succ h.next) = some ⟨w.heap.size + 1, 0, 0, 0⟩ := by
        have : (w.alloc (.deferred (some []))).heap.size = w.heap.size + 1 := World.size_alloc _ _
        rw [this]
        exact Ren.put_self _ _ _
      have hd0 : ((ρ.put h.next ⟨w.heap.size, 0, 0, 0⟩).put (h.new (.deferred (some []))).next ⟨(w.alloc (.deferred (some []))).heap.size, 0, 0, 0⟩) h.next = some ⟨w.heap.size, 0, 0, 0⟩ :=
        Ren.le_put g1.sim.unmet _ _ (Ren.put_self _ _ _)
      obtain ⟨ρ₃, v', w₃, d3, _, g3⟩ := loopCall_sound (a := a) (g := g) hinv g2.sim ((ev_nil f.tmps g).mono g12.le) hp hcall
      have he := run_enterLoop_outer (P := P) (w := w) b.fn a.tmps ps assign body
      rw [← hb] at he
      have s := fun cs => range_steps (k := k) (cs := cs) (g := g) he d3
      have f3 : FrR P base c b ρ₃ tr ({ target := .collected h.next, args := #[] } :: defers) h' { a with defers := [{ target := .collected w.heap.size, args := #[] }] ++ a.defers } w₃ :=
        ⟨g3.sim, f.tmps.mono (Ren.le_trans g12.le g3.le), f.round.mono (Ren.le_trans g12.le g3.le), .cons rfl (g3.le _ _ hd0) rfl (f.defs.mono (Ren.le_trans g12.le g3.le))⟩
      have e := end_ok (k := k) f3 (g3.le _ _ hp)
      revert e
      generalize endNx tr ({ target := .collected h.next, args := #[] } :: defers) h' (Nat.succ h.next) k = nx
      intro e
      cases nx with
      | go todo => exact e.elim
      | set tr' h'' todo defers' => exact Moves.trans s (g12.trans g3) e
      | done => exact e.elim
      | fail => trivial
  | some l0 =>
    dsimp only
    rw [hr] at hround
    cases hg0 : h.get l0 with
    | none => trivial
    | some o =>
      cases o with
      | loop r =>
        dsimp only
        cases hb : b.roundOf with
        | none => rw [hb] at hround; exact hround.elim
        | some l' =>
          rw [hb] at hround
          obtain ⟨p0, hp0, rfl⟩ := hround
          obtain ⟨r', h1, h2⟩ := loop_at f.sim hp0 hg0
          obtain ⟨_, _, _, _, _, _, _, q, hq, hq'⟩ := h2
          cases hcall : loopCall c (ev .nil tr g) h.next (h.new (loopOf c tr ps assign body r.defers)) with
          | none => trivial
          | some res =>
            obtain ⟨v, h'⟩ := res
            dsimp only
            have g1 := f.sim.new (loopOf c tr ps assign body r.defers) (.loop { state := .ready, pending := none, fn := b.fn, tmps := a.tmps, params := ps, assign, body, defers := r'.defers }) 0 0
              ⟨rfl, rfl, hfn, rfl, rfl, rfl, f.tmps.mono (Ren.le_put f.sim.unmet), q, Ren.le_put f.sim.unmet _ _ hq, hq'⟩
            have hp : (ρ.put h.next ⟨w.heap.size, 0, 0, 0⟩) h.next = some ⟨w.heap.size, 0, 0, 0⟩ := Ren.put_self _ _ _
            obtain ⟨ρ₃, v', w₃, d3, _, g3⟩ := loopCall_sound (a := a) (g := g) hinv g1.sim ((ev_nil f.tmps g).mono g1.le) hp hcall
            have he := run_enterLoop_inner (P := P) h1 b.fn a.tmps ps assign body
            rw [← hb] at he
            have s := fun cs => range_steps (k := k) (cs := cs) (g := g) he d3
            have f3 : FrR P base c b ρ₃ tr defers h' { a with defers := [] ++ a.defers } w₃ :=
              ⟨g3.sim, f.tmps.mono (Ren.le_trans g1.le g3.le), f.round.mono (Ren.le_trans g1.le g3.le), f.defs.mono (Ren.le_trans g1.le g3.le)⟩
            have e := end_ok (k := k) f3 (g3.le _ _ hp)
            revert e
            generalize endNx tr defers h' h.next k = nx
            intro e
            cases nx with
            | go todo => exact e.elim
            | set tr' h'' todo defers' => exact Moves.trans s (g1.trans g3) e
            | done => exact e.elim
            | fail => trivial
      | _ => trivial

/-- an item -/
theorem item_ok {c : Ctx} {b : Frame} (hm : P.follows .mixedOrders = true) (hP : c.P = P) (hinv : InvOk P c.inv) (hfn : b.fn = c.fn) (x : Item) (tr : Tr Value) (defers : List Deferred) (h : AHeap) (k : List Item) :
    ItemOk P base c b tr defers h x k ((itemC x).f c tr defers h k) := by
  cases x with
  | code x =>
    cases x with
    | skip => exact fun ρ w a f => f.stay fun cs => stepR_skip
    | label => exact fun ρ w a f => f.stay fun cs => stepR_label
    | seq x y => exact fun ρ w a f => f.stay fun cs => stepR_seq
    | cond v x y => exact cond_ok
    | block id y => exact fun ρ w a f => f.stay fun cs => stepR_block
    | loop y => exact fun ρ w a f => f.stay fun cs => stepR_loop
    | scope y => exact fun ρ w a f => f.stay fun cs => stepR_scope
    | exit id =>
      intro ρ w a f
      show match exitNx (exitTo id k) with
        | .go todo => _
        | .set tr' h' todo defers' => _
        | .done => _
        | .fail => _
      cases hx : exitTo id k with
      | none => exact hx
      | some k' => exact f.stay fun cs => stepR_exit hx
    | goto l =>
      intro ρ w a f
      show match exitNx (gotoIn l k) with
        | .go todo => _
        | .set tr' h' todo defers' => _
        | .done => _
        | .fail => _
      cases hx : gotoIn l k with
      | none => exact hx
      | some k' => exact f.stay fun cs => stepR_goto hx
    | ret => exact fun ρ w a f => trivial
    | region id ops draw =>
      cases draw with
      | false =>
        refine region_ok fun ρ w a l' h' hsz st henv e => ?_
        have e' : runOps P c.inv a.tmps.size ops.toList tr ops.toList .nil h = some (l', h') := by rw [hsz, ← hP]; exact e
        obtain ⟨ρ', w', a', h1, h2, h3, h4, h5⟩ := runOps_sound (b := b) (k := k) hinv ops.toList 0 ρ w .nil l' h h' a (by simp) rfl st henv e'
        refine ⟨ρ', w', a', fun cs => .head stepR_region ?_, h2, h3, h4, h5⟩
        rw [List.range_eq_range']
        simpa using h1 cs
      | true =>
        refine region_ok fun ρ w a l' h' hsz st henv e => ?_
        have e' : runAny P c.inv a.tmps.size ops.toList tr h = some (l', h') := by rw [hsz, ← hP]; exact e
        exact runAny_sound hm hinv st henv e'
    | rangeFunc g ps assign body => exact range_ok hinv hfn
    | refuse s => exact fun ρ w a f => trivial
  | inBlock id => exact fun ρ w a f => f.stay fun cs => stepR_inBlock
  | inScope y => exact fun ρ w a f => f.stay fun cs => stepR_inScope
  | inLoop y => exact fun ρ w a f => f.stay fun cs => stepR_inLoop
  | beginRound => exact begin_ok
  | _ => exact fun ρ w a f => trivial

theorem runF_zero (c : Ctx) (tr : Tr Value) (defers : List Deferred) (h : AHeap) (todo : List Item) : runF c 0 tr defers h todo = none := rfl
theorem runF_nil (c : Ctx) (n : Nat) (tr : Tr Value) (defers : List Deferred) (h : AHeap) : runF c (n + 1) tr defers h [] = some ⟨tr, [], defers, h⟩ := rfl
theorem runF_cons (c : Ctx) (n : Nat) (tr : Tr Value) (defers : List Deferred) (h : AHeap) (x : Item) (k : List Item) : runF c (n + 1) tr defers h (x :: k) = nextF tr defers h x k (runF c n) ((itemC x).f c tr defers h k) := rfl

/-- a frame's run -/
theorem runF_sound {c : Ctx} {b : Frame} {st : St} (hm : P.follows .mixedOrders = true) (hP : c.P = P) (hinv : InvOk P c.inv) (hfn : b.fn = c.fn) : ∀ (n : Nat) (ρ : Ren) (w : World) (a : Act) (tr : Tr Value) (defers : List Deferred) (h : AHeap) (todo : List Item),
    FrR P base c b ρ tr defers h a w → runF c n tr defers h todo = some st → Moves P base c b ρ h a w todo st.tr st.defers st.h st.todo ∧ EndOk st.todo
  | 0, _, _, _, _, _, _, _, _, e => by rw [runF_zero] at e; cases e
  | n + 1, ρ, w, a, tr, defers, h, [], f, e => by
    rw [runF_nil] at e
    cases e
    exact ⟨⟨ρ, w, a, fun cs => .refl _ _, .refl f.sim, f⟩, trivial⟩
  | n + 1, ρ, w, a, tr, defers, h, x :: k, f, e => by
    rw [runF_cons] at e
    have hi := item_ok (base := base) (b := b) hm hP hinv hfn x tr defers h k ρ w a f
    revert e hi
    generalize (itemC x).f c tr defers h k = nx
    intro e hi
    cases nx with
    | go todo =>
      obtain ⟨ρ', w', a', s1, g1, f1⟩ := hi
      obtain ⟨m, hend⟩ := runF_sound hm hP hinv hfn n ρ' w' a' tr defers h todo f1 e
      exact ⟨Moves.trans s1 g1 m, hend⟩
    | set tr' h' todo defers' =>
      obtain ⟨ρ', w', a', s1, g1, f1⟩ := hi
      obtain ⟨m, hend⟩ := runF_sound hm hP hinv hfn n ρ' w' a' tr' defers' h' todo f1 e
      exact ⟨Moves.trans s1 g1 m, hend⟩
    | done =>
      cases e
      exact ⟨⟨ρ, w, a, fun cs => .refl _ _, .refl f.sim, f⟩, hi⟩
    | fail => cases e
end Go.Ev
