/- The evaluator with panics: frames on their way out, calls, and a closed call's result. -/
import Derived.Test.YtocpjjngpfjgpaaDoorX4
import Derived.Recover
set_option linter.unusedSimpArgs false
set_option linter.unusedVariables false
namespace Go.Ev

variable {P : Program} {base : Nat} {ρ : Ren} {w : World}

/-- what is pending, and a frame's mode -/
def MRel (ρ : Ren) (pend : Option Value) (m : FrameMode) : Prop :=
  (pend = none ∧ m = .returning) ∨ ∃ v v', pend = some v ∧ VRel ρ v v' ∧ m = .panicking [{ v := v', recovered := false }]

theorem MRel.run {pend : Option Value} {m : FrameMode} (h : MRel ρ pend m) : m ≠ .run := by
  rcases h with ⟨_, rfl⟩ | ⟨v, v', _, _, rfl⟩ <;> exact fun h => by cases h
theorem MRel.mono {ρ ρ' : Ren} (hl : ρ.le ρ') {pend : Option Value} {m : FrameMode} (h : MRel ρ pend m) : MRel ρ' pend m := by
  rcases h with h | ⟨v, v', h1, h2, h3⟩
  · exact .inl h
  · exact .inr ⟨v, v', h1, h2.mono hl, h3⟩

theorem unwindX_nil (x : InvX) (pend : Option Value) (h : AHeap) : unwindX x [] pend h = some ⟨pend, h⟩ := rfl

/-- the deferred calls -/
theorem unwindX_sound {x : InvX} (hnum : NoNum P) (hx : XOk P x) : ∀ {ds ds' : List Deferred} {ρ : Ren} {pend : Option Value} {h : AHeap} {o : Out} {fr : Frame} {w : World}, DRels ρ ds ds' → MRel ρ pend fr.mode → fr.defers = ds' → unwindX x ds pend h = some o → Sim P base ρ h w →
    ∃ ρ' w' m', (∀ cs, Steps P (lone fr cs w) (lone { fr with defers := [], mode := m' } cs w')) ∧ Went P base ρ h w ρ' o.h w' ∧ MRel ρ' o.pend m' ∧ (pend = none → o.pend = none)
  | _, _, ρ, pend, h, o, fr, w, .nil, hm, hd, e, st => by
    rw [unwindX_nil] at e
    cases e
    refine ⟨ρ, w, fr.mode, fun cs => ?_, .refl st, hm, id⟩
    have : ({ fr with defers := [], mode := fr.mode } : Frame) = fr := by rw [← hd]
    rw [this]; exact .refl _ _
  | _, _, ρ, pend, h, o, fr, w, .cons (d := d) (d' := d') (l := l) (l' := l') (b := b) (p := p) h1 h2 h3 t, hm, hd, e, st => by
    have e' : (match d.target with
      | .collected b => match h.get b with
        | some (.deferred (some [])) => h.setK b (.deferred none) fun h => unwindX x l pend h
        | _ => none
      | .fn (.func g) cap => match x (.defd pend) (.func g) (d.args.toList ++ cap.toList) h with
        | .ok _ h q => unwindX x l q h
        | _ => none
      | _ => none) = some o := e
    rw [h1] at e'
    dsimp only at e'
    split at e'
    · rename_i hg
      rw [AHeap.setK_eq] at e'
      have ho := st.rel.rd _ _ _ h2 hg
      have hx' : w.heap[p.block]? = some (.deferred (some [])) := by
        revert ho
        generalize w.heap[p.block]? = x
        intro ho
        cases x with
        | none => exact ho.elim
        | some x => cases x with
          | deferred d => cases d with
            | none => exact ho.elim
            | some ds => cases ds with
              | nil => rfl
              | cons => exact ho.elim
          | _ => exact ho.elim
      have g := st.putObj (o := .deferred none) (x' := .deferred none) h2 hg rfl rfl hx' trivial
      have s1 := fun cs => step_collected (cs := cs) (w := w) hm.run hd h3 (run_takeDeferred (P := P) hx')
      obtain ⟨ρ', w', m', s2, g2, k2, n2⟩ := unwindX_sound hnum hx (fr := { fr with defers := [] ++ l' }) (ds' := l') t hm rfl e' g.sim
      exact ⟨ρ', w', m', fun cs => .head (s1 cs) (s2 cs), g.trans g2, k2, n2⟩
    · cases e'
  | _, _, ρ, pend, h, o, fr, w, .fn (d := d) (d' := d') (l := l) (l' := l') (g := g) (cap := cap) (cap' := cap') (xs := xs) (xs' := xs') h1 h2 h3 h4 t, hm, hd, e, st => by
    subst h1
    have e' : (match x (.defd pend) (.func g) (xs ++ cap) h with
        | .ok _ h q => unwindX x l q h
        | _ => none) = some o := e
    split at e'
    · rename_i v h₁ q hr
      let c₀ : Frame := { fr with defers := l' }
      have ha : VRels ρ (xs ++ cap) (xs' ++ cap') := h3.append h2
      have hinv : ∀ fn body, P.funcs[g]? = some fn → fn.body = some body → (invoke d'.target d'.args).run P w = .ok (.enter g (xs' ++ cap').toArray) w := fun fn body hf hb => by
        have k1 := run_enter (P := P) (w := w) (args := (xs' ++ cap').toArray) hnum hf hb
        have k2 : invoke (.fn (.func g) #[]) (xs' ++ cap').toArray = callFunc g ((xs' ++ cap').toArray ++ #[]) := rfl
        have k3 : invoke d'.target d'.args = callFunc g (⟨xs'⟩ ++ ⟨cap'⟩) := by rw [h4]; rfl
        have : (⟨xs'⟩ ++ ⟨cap'⟩ : Array Value) = (xs' ++ cap').toArray ++ #[] := by apply Array.ext'; simp
        rw [k3, this, ← k2]; exact k1
      have htar : d'.target = .fn (.func g) ⟨cap'⟩ := by rw [h4]
      rcases hm with ⟨rfl, hmode⟩ | ⟨pv, pv', rfl, hpv, hmode⟩
      · have hK : KRel ρ none .deferred (fun _ cs => c₀ :: cs) := by
          refine ⟨fun fr' cs hk => ?_, fun v e => by cases e⟩
          rw [tryRecover_deferred hk]
          simp [recoverD, c₀, hmode]
        obtain ⟨ρ₁, v', w₁, s1, g1, hq, fn, body, hf, hb⟩ := hx.dfr base ρ w none q g _ _ h h₁ v _ hr ha st hK
        have hq0 : q = none := by rcases hq with h | h <;> exact h
        subst hq0
        obtain ⟨ρ', w', m', s2, g2, k2, n2⟩ := unwindX_sound hnum hx (fr := { c₀ with mode := .returning }) (ds' := l') (t.mono g1.le) (.inl ⟨rfl, rfl⟩) rfl e' g1.sim
        refine ⟨ρ', w', m', fun cs => ?_, g1.trans g2, k2, n2⟩
        have a1 := step_defer (cs := cs) (w := w) (P := P) (by rw [hmode]; exact fun h => by cases h) hd htar (hinv fn body hf hb)
        obtain ⟨fr', a2, a3, a4⟩ := s1 cs
        have a5 := step_going_returned (c := c₀) (cs := cs) a3 a4
        have hset : settle c₀.mode = .returning := by simp [c₀, hmode, settle]
        rw [hset] at a5
        exact .head a1 (a2.trans (.head a5 (s2 cs)))
      · let c₁ : Frame := { c₀ with mode := .panicking [{ v := pv', recovered := true }] }
        have hK : KRel ρ (some pv) .deferred (fun r cs => cond r c₀ c₁ :: cs) := by
          refine ⟨fun fr' cs hk => ?_, fun v e => ?_⟩
          · rw [tryRecover_deferred hk]
            simp [recoverD, c₁]
          · cases e
            refine ⟨pv', hpv, fun fr' cs hk => ?_⟩
            rw [tryRecover_deferred hk]
            simp [recoverD, c₁, c₀, hmode]
        obtain ⟨ρ₁, v', w₁, s1, g1, hq, fn, body, hf, hb⟩ := hx.dfr base ρ w (some pv) q g _ _ h h₁ v _ hr ha st hK
        have a1 := fun cs => step_defer (cs := cs) (w := w) (P := P) (by rw [hmode]; exact fun h => by cases h) hd htar (hinv fn body hf hb)
        rcases hq with rfl | rfl
        · obtain ⟨ρ', w', m', s2, g2, k2, n2⟩ := unwindX_sound hnum hx (fr := { c₀ with mode := .returning }) (ds' := l') (t.mono g1.le) (.inl ⟨rfl, rfl⟩) rfl e' g1.sim
          refine ⟨ρ', w', m', fun cs => ?_, g1.trans g2, k2, fun h => by cases h⟩
          obtain ⟨fr', a2, a3, a4⟩ := s1 cs
          have a5 := step_going_returned (c := c₁) (cs := cs) a3 a4
          have hset : settle c₁.mode = .returning := by simp [c₁, settle]
          rw [hset] at a5
          exact .head (a1 cs) (a2.trans (.head a5 (s2 cs)))
        · obtain ⟨ρ', w', m', s2, g2, k2, n2⟩ := unwindX_sound hnum hx (fr := c₀) (ds' := l') (t.mono g1.le) (.inr ⟨pv, pv', rfl, hpv.mono g1.le, hmode⟩) rfl e' g1.sim
          refine ⟨ρ', w', m', fun cs => ?_, g1.trans g2, k2, fun h => by cases h⟩
          obtain ⟨fr', a2, a3, a4⟩ := s1 cs
          have a5 := step_going_returned (c := c₀) (cs := cs) a3 a4
          have hset : settle c₀.mode = c₀.mode := by
            have : c₀.mode = .panicking [{ v := pv', recovered := false }] := hmode
            rw [this]; rfl
          rw [hset] at a5
          exact .head (a1 cs) (a2.trans (.head a5 (s2 cs)))
    · cases e'

/-- how a frame leaves -/
def Leaves' (P : Program) (base : Nat) (ρ : Ren) (h : AHeap) (w : World) (f : FuncId) (kind : CallKind) (fr₀ : Frame) (K : Bool → List Frame → List Frame) (q : Option Value) : ResV → Prop
  | .ok v h' q' => ∃ ρ' v' w', (∀ cs, ∃ fr, Steps P (lone fr₀ (K q.isSome cs) w) (lone fr (K q'.isSome cs) w') ∧ fr.fn = f ∧ fr.kind = kind ∧ fr.going P w' (.returned v')) ∧ VRel ρ' v v' ∧ Went P base ρ h w ρ' h' w' ∧ (q' = none ∨ q' = q)
  | .pan v h' => ∃ ρ' v' w' q', (∀ cs, ∃ fr, Steps P (lone fr₀ (K q.isSome cs) w) (lone fr (K q'.isSome cs) w') ∧ fr.fn = f ∧ fr.going P w' (.panicked [{ v := v', recovered := false }])) ∧ VRel ρ' v v' ∧ Went P base ρ h w ρ' h' w' ∧ (q' = none ∨ q' = q)
  | .no => True

def kindM : Md → CallKind
  | .norm => .normal
  | .defd _ => .deferred

theorem enterX_sound {o : Opt} {x : InvX} {m : Md} {f : FuncId} {fn : Func} {body : Code} {args args' : List Value} {h : AHeap} {kind : CallKind} {K : Bool → List Frame → List Frame} (hm : P.follows .mixedOrders = true) (hnum : NoNum P) (hx : XOk P x) (hf : P.funcs[f]? = some fn) (hb : fn.body = some body)
    (ha : VRels ρ args args') (st : Sim P base ρ h w) (hK : KRel ρ m.q kind K) : Leaves' P base ρ h w f kind (Frame.enter P f args'.toArray kind) K m.q (enterX P o x m f fn body args h) := by
  unfold enterX
  rw [frmOf_eq]
  dsimp only
  cases hle : (Nat.ble args.length (fn.params.size + fn.nfree) && Nat.ble args.length fn.ntmps) with
  | false => trivial
  | true =>
    rw [cond_true]
    obtain ⟨h1, h2⟩ := ble_and hle
    have h1 := Nat.le_of_ble_eq_true h1
    have h2 := Nat.le_of_ble_eq_true h2
    let b : Frame := Frame.enter P f args'.toArray kind
    let a : Act := ⟨args'.toArray ++ Array.replicate (fn.ntmps - args'.toArray.size) undef, []⟩
    have hb0 : Frame.enter P f args'.toArray kind = b.atR a [.code body] := by
      simp [b, a, Frame.enter, Frame.atR, hf, hb]
    have hfr : FrR P base ⟨P, asInv x, f, fn.ntmps, none, maskOf o fn body⟩ b ρ (treeOf args 0 .lf) [] h a w := ⟨st, args_rel ha h1 h2, trivial, .nil⟩
    have hrun := runFX_sound (cx := ⟨⟨P, asInv x, f, fn.ntmps, none, maskOf o fn body⟩, x⟩) (b := b) (K := K) hm rfl hx rfl rfl rfl o.steps ρ w a (treeOf args 0 .lf) [] h m.q [.code body] hfr hK
    rw [hb0]
    revert hrun
    generalize runFX ⟨⟨P, asInv x, f, fn.ntmps, none, maskOf o fn body⟩, x⟩ o.steps (treeOf args 0 .lf) [] h m.q [.code body] = r
    intro hrun
    cases r with
    | no => trivial
    | ret tr todo defers h₁ q' =>
      unfold endX
      dsimp only
      cases hret : retOk todo with
      | false => trivial
      | true =>
        rw [cond_true]
        obtain ⟨⟨ρ₁, w₁, a₁, s1, g1, f1, k1, o1⟩, hend⟩ := hrun
        have s2 : ∀ cs, Steps P (lone (b.atR a₁ todo) cs w₁) (lone { b.atR a₁ todo with mode := .returning } cs w₁) := fun cs => by
          cases todo with
          | nil => exact .one (stepR_end rfl)
          | cons x k =>
            cases x with
            | code x => cases x with
              | ret => exact .one (stepR_ret rfl)
              | _ => cases hret
            | _ => cases hret
        cases hun : unwindX x defers none h₁ with
        | none => trivial
        | some out =>
          obtain ⟨ρ₂, w₂, m₂, s3, g2, k2, n2⟩ := unwindX_sound (fr := { b.atR a₁ todo with mode := .returning }) hnum hx f1.defs (.inl ⟨rfl, rfl⟩) rfl hun f1.sim
          obtain ⟨pd, h₂⟩ := out
          have hpd : pd = none := n2 rfl
          subst hpd
          have hm₂ : m₂ = .returning := by
            rcases k2 with ⟨_, h⟩ | ⟨v, v', h, _⟩
            · exact h
            · cases h
          subst hm₂
          unfold leaveX
          dsimp only
          cases hvs : resAll P tr h₂ fn.results.toList with
          | none => trivial
          | some vs =>
            dsimp only
            obtain ⟨v', j1, j2⟩ := results_sound g2.sim ((f1.tmps.mono g2.le).env) hvs
            exact ⟨ρ₂, v', w₂, fun cs => ⟨{ b.atR a₁ todo with mode := .returning, defers := [] }, (s1 cs).trans ((s2 _).trans (s3 _)), rfl, rfl, rfl, rfl, fn, hf, j1⟩, j2, g1.trans g2, o1⟩
    | pan v tr h₁ q' ds =>
      unfold endX
      dsimp only
      obtain ⟨ρ₁, w₁, a₁, v', todo', s1, g1, r1, f1, o1⟩ := hrun
      cases hun : unwindX x ds (some v) h₁ with
      | none => trivial
      | some out =>
        obtain ⟨ρ₂, w₂, m₂, s3, g2, k2, n2⟩ := unwindX_sound (fr := (b.atR a₁ todo').raise [{ v := v', recovered := false }]) hnum hx f1.defs (.inr ⟨v, v', rfl, r1, rfl⟩) rfl hun g1.sim
        obtain ⟨pd, h₂⟩ := out
        unfold leaveX
        cases pd with
        | some pv =>
          rcases k2 with ⟨h, _⟩ | ⟨u, u', h, hu, rfl⟩
          · cases h
          · cases h
            exact ⟨ρ₂, u', w₂, q', fun cs => ⟨_, (s1 cs).trans (s3 _), rfl, rfl, rfl, fn, hf⟩, hu, g1.trans g2, o1⟩
        | none =>
          have hm₂ : m₂ = .returning := by
            rcases k2 with ⟨_, h⟩ | ⟨v, v', h, _⟩
            · exact h
            · cases h
          subst hm₂
          change Leaves' P base ρ h w f kind _ K m.q (match resAll P tr h₂ fn.results.toList with
            | some vs => .ok (asResult vs) h₂ q'
            | none => .no)
          cases hvs : resAll P tr h₂ fn.results.toList with
          | none => trivial
          | some vs =>
            obtain ⟨v', j1, j2⟩ := results_sound (tmps := a₁.tmps) g2.sim ((f1.tmps.mono g2.le).env) hvs
            exact ⟨ρ₂, v', w₂, fun cs => ⟨_, (s1 cs).trans (s3 _), rfl, rfl, rfl, rfl, fn, hf, j1⟩, j2, g1.trans g2, o1⟩

theorem krel_norm (ρ : Ren) : KRel ρ none .normal (fun _ cs => cs) := by
  refine ⟨fun fr cs hk => ?_, fun v e => by cases e⟩
  unfold tryRecover
  rw [hk]

theorem going_leaving {fr : Frame} {w : World} {v : Value} (h : fr.going P w (.returned v)) (hk : fr.kind = .normal) : fr.leaving P w (.returned v) := by
  obtain ⟨h1, h2, h3⟩ := h
  exact ⟨h1, h2, hk, h3⟩

/-- the functions whose results hang on their arguments alone are right -/
def PrimOk (P : Program) (pm : Prim) : Prop := ∀ (f : Nat) (args args' : List Value) (v : Value) (ρ : Ren) (w : World), pm f args = some v → VRels ρ args args' → ∃ v', (callFunc f args'.toArray).run P w = .ok (.value v') w ∧ VRel ρ v v'

theorem invX_zero (pm : Prim) (K : List Nat) (M : Memo) (o : Opt) (m : Md) (fn : Fn) (args : List Value) (h : AHeap) : invX P pm K M o 0 m fn args h = .no := rfl
theorem invX_func (pm : Prim) (K : List Nat) (M : Memo) (o : Opt) (n : Nat) (m : Md) (f : FuncId) (args : List Value) (h : AHeap) : invX P pm K M o (n + 1) m (.func f) args h = (match memoAt M f args with
      | some v => cond (normB m) (.ok v h none) .no
      | none => cond (isIn K f && noArgs args && normB m) (.ok (.bool true) h none) (match funcAt P f with
        | some (fn, body) => onlyV m (enterX P o (invX P pm K M o n) m f fn body args h)
        | none => cond (normB m) (primX pm f args h) .no)) := rfl
theorem invX_yield (pm : Prim) (K : List Nat) (M : Memo) (o : Opt) (n : Nat) (m : Md) (l : Nat) (args : List Value) (h : AHeap) : invX P pm K M o (n + 1) m (.yield l) args h = cond (normB m) (match h.get l with
      | some (.loop r) => cond (Nat.beq args.length r.params.toList.length) (resOf none (enterR P o (asInv (invX P pm K M o n)) l r args h)) .no
      | _ => .no) .no := rfl

theorem funcAt_spec {f : Nat} {fn : Func} {body : Code} (h : funcAt P f = some (fn, body)) : P.funcs[f]? = some fn ∧ fn.body = some body := by
  unfold funcAt at h
  rw [nth_eq] at h
  cases hf : P.funcs.toList[f]? with
  | none => rw [hf] at h; cases h
  | some fn' =>
    rw [hf] at h
    dsimp only at h
    cases hb : fn'.body with
    | none => rw [hb] at h; cases h
    | some body' =>
      rw [hb] at h
      cases h
      exact ⟨by simpa using hf, hb⟩

theorem allB_mem {p : Value → Bool} : ∀ {l : List Value}, allB p l = true → ∀ v ∈ l, p v = true
  | [], _, v, hv => (nomatch hv)
  | a :: l, h, v, hv => by
    have h' : (Bool.rec (motive := fun _ => Bool) false (allB p l) (p a) : Bool) = true := h
    cases hp : p a with
    | false => rw [hp] at h'; cases h'
    | true =>
      rw [hp] at h'
      rcases List.mem_cons.1 hv with rfl | hv
      · exact hp
      · exact allB_mem h' v hv
theorem pl1_same {ρ : Ren} {v v' : Value} (h : pl1 v = true) (hr : VRel ρ v v') : v' = v := by
  cases v <;> first | (cases h; done) | (cases hr; rfl)
theorem pl1_rel {v : Value} (ρ : Ren) (h : pl1 v = true) : VRel ρ v v := by
  cases v <;> first | (cases h; done) | exact .int _ _ | exact .bool _
theorem all_same {p : Value → Bool} {ρ : Ren} (hp : ∀ v v', p v = true → VRel ρ v v' → v' = v) : ∀ {l l' : List Value}, (∀ v ∈ l, p v = true) → VRels ρ l l' → l' = l
  | _, _, _, .nil => rfl
  | _, _, h, .cons hv t => by rw [hp _ _ (h _ (.head _)) hv, all_same hp (fun v hv => h v (.tail _ hv)) t]
theorem all_rel {p : Value → Bool} {ρ : Ren} (hp : ∀ v, p v = true → VRel ρ v v) : ∀ {l : List Value}, (∀ v ∈ l, p v = true) → VRels ρ l l
  | [], _ => .nil
  | v :: l, h => .cons (hp v (h v (.head _))) (all_rel hp fun v hv => h v (.tail _ hv))
theorem pl2_same {ρ : Ren} {v v' : Value} (h : pl2 v = true) (hr : VRel ρ v v') : v' = v := by
  cases hr with
  | agg hl => exact congrArg (fun l => Value.agg ⟨l⟩) (all_same (fun _ _ => pl1_same) (allB_mem h) hl)
  | int => rfl
  | bool => rfl
  | _ => cases h
theorem pl2_rel {v : Value} (ρ : Ren) (h : pl2 v = true) : VRel ρ v v := by
  cases v with
  | agg xs => obtain ⟨xs⟩ := xs; exact .agg (all_rel (fun _ => pl1_rel ρ) (allB_mem h))
  | int => exact .int _ _
  | bool => exact .bool _
  | _ => cases h
theorem pl3_same {ρ : Ren} {v v' : Value} (h : pl3 v = true) (hr : VRel ρ v v') : v' = v := by
  cases hr with
  | tuple hl => exact congrArg (fun l => Value.tuple ⟨l⟩) (all_same (fun _ _ => pl2_same) (allB_mem h) hl)
  | agg hl => exact pl2_same (v := .agg _) h (.agg hl)
  | int => rfl
  | bool => rfl
  | _ => cases h
theorem pl3_rel {v : Value} (ρ : Ren) (h : pl3 v = true) : VRel ρ v v := by
  cases v with
  | tuple xs => obtain ⟨xs⟩ := xs; exact .tuple (all_rel (fun _ => pl2_rel ρ) (allB_mem h))
  | agg xs => exact pl2_rel ρ h
  | int => exact .int _ _
  | bool => exact .bool _
  | _ => cases h
theorem intB_eq {a b : Int} (h : intB a b = true) : a = b := by
  cases a <;> cases b <;> first | (cases h; done) | exact congrArg _ (Nat.eq_of_beq_eq_true h)
theorem eq1_eq {a b : Value} (h : eq1 a b = true) : a = b := by
  cases a <;> cases b <;> first
    | (cases h; done)
    | (obtain ⟨h1, h2⟩ := ble_and h; rw [of_decide_eq_true h1, intB_eq h2])
    | (rename_i a b; cases a <;> cases b <;> first | (cases h; done) | rfl)
theorem eqs_eq {p : Value → Value → Bool} (hp : ∀ a b, p a b = true → a = b) : ∀ {l m : List Value}, eqs p l m = true → l = m
  | [], [], _ => rfl
  | a :: l, b :: m, h => by
    have h' : cond (p a b) (eqs p l m) false = true := h
    cases hab : p a b with
    | false => rw [hab] at h'; cases h'
    | true =>
      rw [hab] at h'
      rw [hp a b hab, eqs_eq hp h']
  | [], _ :: _, h => by cases h
  | _ :: _, [], h => by cases h
theorem eq2_eq {a b : Value} (h : eq2 a b = true) : a = b := by
  cases a <;> cases b <;> first
    | exact eq1_eq h
    | (rename_i xs ys; obtain ⟨xs⟩ := xs; obtain ⟨ys⟩ := ys; exact congrArg (fun l => Value.agg ⟨l⟩) (eqs_eq (fun _ _ => eq1_eq) h))
/-- A call with plain arguments that comes to a plain value, in every world, and changes nothing. -/
def Knows (P : Program) (f : FuncId) (args : List Value) (v : Value) : Prop :=
  (∀ a ∈ args, pl2 a = true) ∧ pl3 v = true ∧ (∃ fn body, P.funcs[f]? = some fn ∧ fn.body = some body) ∧ ∀ w : World, ∃ w', (∀ cs, ∃ fr, Steps P (lone (Frame.enter P f args.toArray .normal) cs w) (lone fr cs w') ∧ fr.leaving P w' (.returned v)) ∧ RowKit.Below w.heap.size w w'
def MemoOk (P : Program) (M : Memo) : Prop := ∀ e ∈ M, Knows P e.1 e.2.1 e.2.2
theorem memo_nil (P : Program) : MemoOk P [] := fun _ h => (nomatch h)
theorem memo_cons {M : Memo} {f : Nat} {args : List Value} {v : Value} (h : Knows P f args v) (hM : MemoOk P M) : MemoOk P ((f, args, v) :: M) := fun e he => by
  rcases List.mem_cons.1 he with rfl | he
  · exact h
  · exact hM e he
theorem memoAt_spec : ∀ {M : Memo} {f : Nat} {args : List Value} {v : Value}, memoAt M f args = some v → (f, args, v) ∈ M
  | [], _, _, _, h => by cases h
  | (g, as, u) :: M, f, args, v, h => by
    have h' : cond (Nat.beq g f) (cond (eqs eq2 as args) (some u) (memoAt M f args)) (memoAt M f args) = some v := h
    cases hg : Nat.beq g f with
    | false => rw [hg] at h'; exact .tail _ (memoAt_spec h')
    | true =>
      rw [hg, cond_true] at h'
      cases ha : eqs eq2 as args with
      | false => rw [ha] at h'; exact .tail _ (memoAt_spec h')
      | true =>
        rw [ha] at h'
        cases h'
        rw [Nat.eq_of_beq_eq_true hg, eqs_eq (fun _ _ => eq2_eq) ha]
        exact .head _

/-- the evaluator's calls are right -/
theorem invX_ok {o : Opt} {pm : Prim} {K : List Nat} {M : Memo} (hpm : PrimOk P pm) (hm : P.follows .mixedOrders = true) (hnum : NoNum P) (hK : ShutAll P K) (hM : MemoOk P M) : ∀ n, XOk P (invX P pm K M o n)
  | 0 => ⟨fun base ρ w fn fn' args args' h h' v e _ _ _ => (by cases e), fun base ρ w g args args' h h' v e _ _ => (by cases e), fun base ρ w q q' g args args' h h' v K e _ _ _ => (by cases e)⟩
  | n + 1 => by
    have ih := invX_ok (o := o) hpm hm hnum hK hM n
    refine ⟨fun base ρ w fn fn' args args' h h' v e hfn ha st => ?_, fun base ρ w f args args' h h' v e ha st => ?_, fun base ρ w q q' f args args' h h' v KK e ha st hKK => ?_⟩
    · have e0 : plainR (invX P pm K M o (n + 1) .norm fn args h) = some (v, h') := e
      cases fn with
      | func f =>
        have hfn' : fn' = .func f := by
          rcases hfn with ⟨g, h1, h2⟩ | ⟨l, p, h1, _⟩
          · cases h1; exact h2
          · cases h1
        subst hfn'
        rw [invX_func] at e0
        cases hmm : memoAt M f args with
        | some u =>
          rw [hmm] at e0
          cases e0
          obtain ⟨ka, kv, ⟨fn, body, hf, hb⟩, kw⟩ := hM _ (memoAt_spec hmm)
          have ha0 : args' = args := all_same (fun _ _ => pl2_same) ka ha
          subst ha0
          obtain ⟨w', h1, h2⟩ := kw w
          refine ⟨ρ, v, w', .enter (run_enter hnum hf hb) fun c cs => ?_, pl3_rel ρ kv, below_went st h2⟩
          obtain ⟨fr, j1, j2⟩ := h1 (c :: cs)
          exact j1.trans (.one (step_leave_returned j2))
        | none =>
        rw [hmm] at e0
        dsimp only at e0
        cases hk : (isIn K f && noArgs args && normB .norm) with
        | true =>
          rw [hk, cond_true] at e0
          cases e0
          obtain ⟨hk, _⟩ := ble_and hk
          obtain ⟨k1, k2⟩ := ble_and hk
          obtain ⟨hshut, fn, body, hf, hb⟩ := hK f (isIn_mem k1)
          have ha0 : args' = [] := by
            cases args with
            | nil => cases ha; rfl
            | cons => cases k2
          subst ha0
          obtain ⟨w', h1, h2⟩ := hshut w
          refine ⟨ρ, .bool true, w', .enter (run_enter hnum hf hb) fun c cs => ?_, .bool true, below_went st h2⟩
          obtain ⟨fr, j1, _, j2⟩ := h1 (c :: cs)
          exact j1.trans (.one (step_leave_returned j2))
        | false =>
          rw [hk, cond_false] at e0
          cases hfa : funcAt P f with
          | none =>
            rw [hfa] at e0
            have e1 : plainR (resOf none (pv h (pm f args))) = some (v, h') := e0
            cases hpf : pm f args with
            | none => rw [hpf] at e1; cases e1
            | some u =>
              rw [hpf] at e1
              cases e1
              obtain ⟨v', k1, k2⟩ := hpm f args args' _ ρ w hpf ha
              refine ⟨ρ, v', w, .value ?_, k2, .refl st⟩
              have k3 : invoke (.fn (.func f) #[]) args'.toArray = callFunc f (args'.toArray ++ #[]) := rfl
              rw [k3, Array.append_empty]
              exact k1
          | some fb =>
            obtain ⟨fn, body⟩ := fb
            rw [hfa] at e0
            dsimp only at e0
            obtain ⟨hf, hb⟩ := funcAt_spec hfa
            have hs := enterX_sound (o := o) (m := .norm) (h := h) hm hnum ih hf hb ha st (krel_norm ρ)
            revert e0 hs
            generalize enterX P o (invX P pm K M o n) .norm f fn body args h = r
            intro e0 hs
            cases r with
            | ok v₁ h₁ q₁ =>
              cases e0
              obtain ⟨ρ', v', w', s, hv, g, _⟩ := hs
              refine ⟨ρ', v', w', .enter (run_enter hnum hf hb) fun c cs => ?_, hv, g⟩
              obtain ⟨fr, j1, _, j2, j3⟩ := s (c :: cs)
              exact j1.trans (.one (step_leave_returned (going_leaving j3 j2)))
            | pan v₁ h₁ => cases e0
            | no => cases e0
      | yield l =>
        rcases hfn with ⟨g, h1, _⟩ | ⟨l', p, h1, hp, hfn'⟩
        · cases h1
        · cases h1
          subst hfn'
          rw [invX_yield] at e0
          have e1 : plainR (match h.get l with
            | some (.loop r) => cond (Nat.beq args.length r.params.toList.length) (resOf none (enterR P o (asInv (invX P pm K M o n)) l r args h)) .no
            | _ => .no) = some (v, h') := e0
          split at e1
          · rename_i r hg
            cases hlen : Nat.beq args.length r.params.toList.length with
            | false => rw [hlen] at e1; cases e1
            | true =>
              rw [hlen, cond_true] at e1
              have e2 : enterR P o (asInv (invX P pm K M o n)) l r args h = some (v, h') := by
                revert e1
                cases enterR P o (asInv (invX P pm K M o n)) l r args h with
                | none => intro e1; cases e1
                | some r => intro e1; cases r; cases e1; rfl
              exact enterR_sound hm ih.val hp hg (Nat.eq_of_beq_eq_true hlen) ha st e2
          · cases e1
      | _ => cases e0
    · rw [invX_func] at e
      cases hmm : memoAt M f args with
      | some u => rw [hmm] at e; cases e
      | none =>
      rw [hmm] at e
      dsimp only at e
      cases hk : (isIn K f && noArgs args && normB .norm) with
      | true => rw [hk, cond_true] at e; cases e
      | false =>
        rw [hk, cond_false] at e
        cases hfa : funcAt P f with
        | none =>
          rw [hfa] at e
          exact (resOf_pan e).elim
        | some fb =>
          obtain ⟨fn, body⟩ := fb
          rw [hfa] at e
          dsimp only at e
          obtain ⟨hf, hb⟩ := funcAt_spec hfa
          have hs := enterX_sound (o := o) (m := .norm) (h := h) hm hnum ih hf hb ha st (krel_norm ρ)
          revert e hs
          generalize enterX P o (invX P pm K M o n) .norm f fn body args h = r
          intro e hs
          cases r with
          | ok v₁ h₁ q₁ => cases e
          | pan v₁ h₁ =>
            cases e
            obtain ⟨ρ', v', w', q', s, hv, g, _⟩ := hs
            refine ⟨ρ', v', w', .enter (run_enter hnum hf hb) fun c cs => ?_, hv, g⟩
            obtain ⟨fr, j1, _, j3⟩ := s (c :: cs)
            exact j1.trans (.one (step_leave_panicked j3))
          | no => cases e
    · rw [invX_func] at e
      cases hmm : memoAt M f args with
      | some u => rw [hmm] at e; cases e
      | none =>
      rw [hmm] at e
      dsimp only at e
      have hk : (isIn K f && noArgs args && normB (.defd q)) = false := Bool.and_false _
      rw [hk, cond_false] at e
      cases hfa : funcAt P f with
      | none => rw [hfa] at e; cases e
      | some fb =>
        obtain ⟨fn, body⟩ := fb
        rw [hfa] at e
        dsimp only at e
        obtain ⟨hf, hb⟩ := funcAt_spec hfa
        have hs := enterX_sound (o := o) (m := .defd q) (h := h) (kind := .deferred) (K := KK) hm hnum ih hf hb ha st hKK
        revert e hs
        generalize enterX P o (invX P pm K M o n) (.defd q) f fn body args h = r
        intro e hs
        cases r with
        | ok v₁ h₁ q₁ =>
          cases e
          obtain ⟨ρ', v', w', s, hv, g, hq⟩ := hs
          refine ⟨ρ', v', w', fun cs => ?_, g, hq, fn, body, hf, hb⟩
          obtain ⟨fr, j1, _, j2, j3⟩ := s cs
          exact ⟨fr, j1, j2, j3⟩
        | pan v₁ h₁ => cases e
        | no => cases e

/-- A closed call that comes to true comes to it in every world. -/
theorem shutX_of {pm : Prim} {K : List Nat} {M : Memo} {f : FuncId} (hM : MemoOk P M) (hmo : memoAt M f [] = none) (hpm : PrimOk P pm) (hm : P.follows .mixedOrders = true) (hnum : NoNum P) (hK : ShutAll P K) (hno : isIn K f = false) (hbd : hasBody P f = true) (hr : isTrue (resultX P pm K M f []) = true) : Shut P f := by
  intro w
  have hb0 : (funcAt P f).isSome = true := by
    obtain ⟨fn, body, h1, h2⟩ := hasBody_spec hbd
    unfold funcAt
    rw [nth_eq, show P.funcs.toList[f]? = some fn by simpa using h1]
    dsimp only
    rw [h2]
    rfl
  unfold resultX at hr
  have e0 := invX_func (P := P) pm K M ⟨STEPS, false⟩ 399 .norm f [] (emptyHeap P)
  rw [hmo] at e0
  dsimp only at e0
  rw [e0, hno, Bool.false_and, Bool.false_and, cond_false] at hr
  cases hfa : funcAt P f with
  | none => rw [hfa] at hb0; cases hb0
  | some fb =>
    obtain ⟨fn, body⟩ := fb
    rw [hfa] at hr
    dsimp only at hr
    obtain ⟨hf, hb⟩ := funcAt_spec hfa
    have hs := enterX_sound (o := ⟨STEPS, false⟩) (m := .norm) (h := emptyHeap P) (args := []) (args' := []) hm hnum (invX_ok (o := ⟨STEPS, false⟩) hpm hm hnum hK hM 399) hf hb .nil (sim_empty P w) (krel_norm _)
    revert hr hs
    generalize enterX P ⟨STEPS, false⟩ (invX P pm K M ⟨STEPS, false⟩ 399) .norm f fn body [] (emptyHeap P) = r
    intro hr hs
    cases r with
    | ok v h' q' =>
      have hv : v = .bool true := by
        have h1 : isTrue (some v) = true := hr
        unfold isTrue at h1
        split at h1
        · rename_i h; cases h; rfl
        · cases h1
      subst hv
      obtain ⟨ρ', v', w', s, hv, g, _⟩ := hs
      rw [hv.bool_inv] at s
      refine ⟨w', fun cs => ?_, g.ext.below⟩
      obtain ⟨fr, j1, j4, j2, j3⟩ := s cs
      exact ⟨fr, j1, j4, going_leaving j3 j2⟩
    | pan v h' => cases hr
    | no => cases hr
/-- a call with plain arguments is known once it has been evaluated -/
theorem knows_of {pm : Prim} {K : List Nat} {M : Memo} {f : FuncId} {args : List Value} {v : Value} (hM : MemoOk P M) (hmo : memoAt M f args = none) (hpm : PrimOk P pm) (hm : P.follows .mixedOrders = true) (hnum : NoNum P) (hK : ShutAll P K) (hno : isIn K f = false) (hbd : hasBody P f = true) (ha : allB pl2 args = true) (hv : pl3 v = true) (hr : resultX P pm K M f args = some v) : Knows P f args v := by
  obtain ⟨fn0, body0, h1, h2⟩ := hasBody_spec hbd
  refine ⟨allB_mem ha, hv, ⟨fn0, body0, h1, h2⟩, fun w => ?_⟩
  have hb0 : funcAt P f = some (fn0, body0) := by
    unfold funcAt
    rw [nth_eq, show P.funcs.toList[f]? = some fn0 by simpa using h1]
    dsimp only
    rw [h2]
  unfold resultX at hr
  have e0 := invX_func (P := P) pm K M ⟨STEPS, false⟩ 399 .norm f args (emptyHeap P)
  rw [hmo] at e0
  dsimp only at e0
  rw [e0, hno, Bool.false_and, Bool.false_and, cond_false, hb0] at hr
  dsimp only at hr
  have hs := enterX_sound (o := ⟨STEPS, false⟩) (m := .norm) (h := emptyHeap P) (args := args) (args' := args) hm hnum (invX_ok (o := ⟨STEPS, false⟩) hpm hm hnum hK hM 399) h1 h2 (all_rel (fun _ => pl2_rel _) (allB_mem ha)) (sim_empty P w) (krel_norm _)
  revert hr hs
  generalize enterX P ⟨STEPS, false⟩ (invX P pm K M ⟨STEPS, false⟩ 399) .norm f fn0 body0 args (emptyHeap P) = r
  intro hr hs
  cases r with
  | ok u h' q' =>
    cases hr
    obtain ⟨ρ', v', w', s, hvr, g, _⟩ := hs
    rw [pl3_same hv hvr] at s
    refine ⟨w', fun cs => ?_, g.ext.below⟩
    obtain ⟨fr, j1, j4, j2, j3⟩ := s cs
    exact ⟨fr, j1, going_leaving j3 j2⟩
  | pan v h' => cases hr
  | no => cases hr
def eq3 (a b : Value) : Bool := match a, b with
  | .tuple xs, .tuple ys => eqs eq2 xs.toList ys.toList
  | a, b => eq2 a b
theorem eq3_eq {a b : Value} (h : eq3 a b = true) : a = b := by
  cases a <;> cases b <;> first
    | exact eq2_eq h
    | (rename_i xs ys; obtain ⟨xs⟩ := xs; obtain ⟨ys⟩ := ys; exact congrArg (fun l => Value.tuple ⟨l⟩) (eqs_eq (fun _ _ => eq2_eq) h))
/-- a result is this value -/
def isV (r : Option Value) (v : Value) : Bool := match r with
  | some u => eq3 u v
  | none => false
theorem isV_eq {r : Option Value} {v : Value} (h : isV r v = true) : r = some v := by
  cases r with
  | none => cases h
  | some u => rw [eq3_eq h]
end Go.Ev
