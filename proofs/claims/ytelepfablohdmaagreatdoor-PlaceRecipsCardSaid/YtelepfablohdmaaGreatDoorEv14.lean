/- The evaluator: one operation. -/
import Derived.Test.YtelepfablohdmaaGreatDoorEv13
set_option linter.unusedSimpArgs false
set_option linter.unusedVariables false
namespace Go.Ev

variable {P : Program} {base : Nat} {ρ : Ren} {w : World}

/-- what an operation, or a call, comes to: a value at once, or by the steps of another frame -/
inductive Does (P : Program) (s : Sem Next) (w : World) (v : Value) (w' : World) : Prop where
  | value (h : s.run P w = .ok (.value v) w')
  | skip (h : s.run P w = .ok .skip w') (hv : v = undef)
  | enter {f : FuncId} {args : Array Value} {w₁ : World} (h : s.run P w = .ok (.enter f args) w₁) (hc : ∀ (c : Frame) (cs : List Frame), Steps P (lone (Frame.enter P f args .normal) (c :: cs) w₁) (lone (c.finish v) cs w'))
  | round {l : Nat} {f : FuncId} {tmps : Array Value} {assign body : Code} {w₁ : World} (h : s.run P w = .ok (.round l f tmps assign body) w₁)
      (hc : ∀ (c : Frame) (cs : List Frame), Steps P (lone (Frame.round l f tmps assign body .normal) (c :: cs) w₁) (lone (c.finish v) cs w'))

/-- .. to a related value, in a related state -/
def Done (P : Program) (base : Nat) (ρ : Ren) (h : AHeap) (w : World) (s : Sem Next) (v : Value) (h' : AHeap) : Prop :=
  ∃ ρ' v' w', Does P s w v' w' ∧ VRel ρ' v v' ∧ Went P base ρ h w ρ' h' w'

theorem Gives.done {h h' : AHeap} {s : Sem Value} {v : Value} (g : Gives P base ρ h w s v h') : Done P base ρ h w (do pure (.value (← s))) v h' := by
  obtain ⟨ρ', v', w', h1, h2, h3⟩ := g
  exact ⟨ρ', v', w', .value (by simp [h1]), h2, h3⟩
theorem GivesN.done {h : AHeap} {s : Sem Next} {v : Value} (g : GivesN P ρ w s v) (st : Sim P base ρ h w) : Done P base ρ h w s v h := by
  obtain ⟨v', h1, h2⟩ := g
  exact ⟨ρ, v', w, .value h1, h2, .refl st⟩
theorem GivesU.done {h h' : AHeap} {s : Sem Unit} {v : Value} (g : GivesU P base ρ h w s v h') : Done P base ρ h w (do s; pure .skip) v h' := by
  obtain ⟨w', h1, rfl, h3⟩ := g
  exact ⟨ρ, undef, w', .skip (by simp [h1]) rfl, .undef, h3⟩

def FnRel (ρ : Ren) (f f' : Fn) : Prop := (∃ g, f = .func g ∧ f' = .func g) ∨ ∃ l p, f = .yield l ∧ ρ l = some p ∧ f' = .yield p.block

/-- the evaluator's calls are right -/
def InvOk (P : Program) (inv : Inv) : Prop :=
  ∀ (base : Nat) (ρ : Ren) (w : World) (fn fn' : Fn) (args args' : List Value) (h h' : AHeap) (v : Value), inv fn args h = some (v, h') → FnRel ρ fn fn' → VRels ρ args args' → Sim P base ρ h w →
    Done P base ρ h w (invoke (.fn fn' #[]) args'.toArray) v h'

/-- what the operands hold -/
def EvRel (ρ : Ren) (ev ev' : Operand → Value) : Prop := ∀ x, VRel ρ (ev x) (ev' x)

theorem evs_rel {ev ev' : Operand → Value} (h : EvRel ρ ev ev') : ∀ l : List Operand, VRels ρ (evs ev l) (l.map ev')
  | [] => .nil
  | x :: l => .cons (h x) (evs_rel h l)
theorem evParts_rel {ev ev' : Operand → Value} (h : EvRel ρ ev ev') : ∀ l : List (Nat × Operand), PRels ρ (evParts ev l) (l.map fun (i, x) => (i, ev' x))
  | [] => .nil
  | (i, x) :: l => .cons (h x) (evParts_rel h l)
theorem evO_rel {ev ev' : Operand → Value} (h : EvRel ρ ev ev') (o : Option Operand) : ORelV ρ (evO ev o) (o.map ev') := by
  cases o with
  | none => trivial
  | some x => exact h x

theorem one_inv {f : TypeId → Value → Option (Value × AHeap)} {ts : Array TypeId} {vs : List Value} {r : Value × AHeap} (e : one f ts.toList vs = some r) : ∃ t x, ts[0]? = some t ∧ vs[0]? = some x ∧ f t x = some r := by
  unfold one at e
  split at e
  · rename_i t l x m ht
    exact ⟨t, x, by have : ts.toList[0]? = some t := by rw [ht]; rfl
                    simpa using this, rfl, e⟩
  · cases e
theorem two_inv {f : TypeId → TypeId → Value → Value → Option (Value × AHeap)} {ts : Array TypeId} {vs : List Value} {r : Value × AHeap} (e : two f ts.toList vs = some r) : ∃ t u x y, ts[0]? = some t ∧ ts[1]? = some u ∧ vs[0]? = some x ∧ vs[1]? = some y ∧ f t u x y = some r := by
  unfold two at e
  split at e
  · rename_i t u l x y m ht
    exact ⟨t, u, x, y, by have : ts.toList[0]? = some t := by rw [ht]; rfl
                          simpa using this, by have : ts.toList[1]? = some u := by rw [ht]; rfl
                                               simpa using this, rfl, rfl, e⟩
  · cases e

theorem shift_sound {op : BinOp} {t : TypeId} {x y : Operand} {a b a' b' v : Value} (e : shiftV op a b = some v) (ha : VRel ρ a a') (hb : VRel ρ b b') : (do eqGuard op t x y a' b'; binOp op t a' b' : Sem Value).run P w = .ok v w ∧ VRel ρ v v := by
  unfold shiftV at e
  split at e
  · split at e
    · rename_i k n
      split at e
      · rename_i k' m
        cases e
        rw [ha.int_inv, hb.int_inv]
        refine ⟨?_, .int _ _⟩
        have h1 : (eqGuard .shr t x y (.int k n) (.int k' (.ofNat m))).run P w = .ok () w := rfl
        simp only [Sem.run_bind, h1, Result.andThen_ok]
        have h2 : ¬ ((Int.ofNat m) < 0) := by simp
        show (Op.shift .shr k n k' (.ofNat m)).run P w = _
        unfold Op.shift
        rw [if_neg h2]
        simp only [Sem.run_pure]
        congr 3
      · cases e
    · cases e
  · split at e
    · rename_i k n
      split at e
      · rename_i k' m
        cases e
        rw [ha.int_inv, hb.int_inv]
        refine ⟨?_, .int _ _⟩
        have h1 : (eqGuard .shl t x y (.int k n) (.int k' (.ofNat m))).run P w = .ok () w := rfl
        simp only [Sem.run_bind, h1, Result.andThen_ok]
        have h2 : ¬ ((Int.ofNat m) < 0) := by simp
        show (Op.shift .shl k n k' (.ofNat m)).run P w = _
        unfold Op.shift
        rw [if_neg h2, wrapF_eq]
        simp only [Sem.run_pure]
        congr 3
      · cases e
    · cases e
  · cases e

theorem most2_sound {mx : Bool} {x y z : Value} (e : most2 mx x y = some z) {x' y' : Value} (hx : VRel ρ x x') (hy : VRel ρ y y') : (cond mx (Builtin.max2 x' y') (Builtin.min2 x' y')).run P w = .ok z w ∧ VRel ρ z z := by
  unfold most2 at e
  split at e
  · split at e
    · cases e
      rw [hx.int_inv, hy.int_inv]
      refine ⟨?_, .int _ _⟩
      rename_i _ k a _ k' b
      cases mx
      · rw [cond_false, cond_false]
        simp only [Builtin.min2, Sem.run_pure]
        rw [ltI_spec]
        by_cases h : b < a <;> simp [h]
      · rw [cond_true, cond_true]
        simp only [Builtin.max2, Sem.run_pure]
        rw [ltI_spec]
        by_cases h : a < b <;> simp [h]
    · cases e
  · cases e

theorem mostV_sound {mx : Bool} : ∀ {l l' : List Value} {x x' v : Value}, mostV mx l x = some v → VRels ρ l l' → VRel ρ x x' → ∃ v', (l'.foldlM (fun a b => cond mx (Builtin.max2 a b) (Builtin.min2 a b)) x' : Sem Value).run P w = .ok v' w ∧ VRel ρ v v'
  | [], _, x, x', v, e, .nil, hx => by
    have e' : some x = some v := e
    cases e'
    exact ⟨x', by simp, hx⟩
  | y :: l, _, x, x', v, e, .cons (v' := y') (l' := l') hy hl, hx => by
    have e' : (match most2 mx x y with
      | some z => mostV mx l z
      | none => none) = some v := e
    split at e'
    · rename_i z hz
      obtain ⟨h1, h2⟩ := most2_sound (P := P) (w := w) hz hx hy
      obtain ⟨v', h3, h4⟩ := mostV_sound e' hl (h2 : VRel ρ z z)
      refine ⟨v', ?_, h4⟩
      rw [List.foldlM_cons]
      simp only [Sem.run_bind, h1, Result.andThen_ok, h3]
    · cases e'

theorem mostOf_sound {mx : Bool} {l : List Value} {l' : Array Value} {v : Value} {ts : Array TypeId} {ty : TypeId} (e : mostOf mx l = some v) (hl : VRels ρ l l'.toList) : ∃ v', (cond mx (Builtin.max_ ts ty l') (Builtin.min_ ts ty l')).run P w = .ok v' w ∧ VRel ρ v v' := by
  obtain ⟨l'⟩ := l'
  cases hl with
  | nil => cases e
  | cons hx hr =>
    obtain ⟨v', h1, h2⟩ := mostV_sound e hr hx
    refine ⟨v', ?_, h2⟩
    cases mx
    · rw [cond_false]; exact h1
    · rw [cond_true]; exact h1

theorem builtin_sound {h h' : AHeap} {b : Builtin} {ts : Array TypeId} {ty : TypeId} {consts : Array Bool} {vs : List Value} {vs' : Array Value} {v : Value} (st : Sim P base ρ h w) (e : builtinOp P h b ts.toList vs = some (v, h')) (hv : VRels ρ vs vs'.toList) :
    Done P base ρ h w (builtin b ts ty consts vs') v h' := by
  unfold builtinOp at e
  split at e
  · obtain ⟨t, x, h1, h2, h3⟩ := one_inv e
    obtain ⟨x', h4, h5⟩ := hv.toArray_get h2
    unfold lenOp at h3
    split at h3
    · obtain ⟨e1, b', f, ob, e2, e3, e4⟩ := rd_inv h3
      rw [e1]
      exact ((lenR_sound (ty := ty) st.rel.rd e2 e3 e4 h5 h1 h4).gives st).done
    · obtain ⟨e1, e2⟩ := pv_inv h3
      rw [e2]
      exact ((len_sound (ty := ty) e1 h5 h1 h4).gives st).done
  · obtain ⟨t, x, h1, h2, h3⟩ := one_inv e
    obtain ⟨x', h4, h5⟩ := hv.toArray_get h2
    obtain ⟨e1, e2⟩ := pv_inv h3
    rw [e2]
    exact ((cap_sound (ty := ty) e1 h5 h1 h4).gives st).done
  · obtain ⟨t, u, x, y, h1, h2, h3, h4, h5⟩ := two_inv e
    obtain ⟨x', k1, k2⟩ := hv.toArray_get h3
    obtain ⟨y', k3, k4⟩ := hv.toArray_get h4
    exact (append_sound (ty := ty) st h5 h1 h2 k1 k3 k2 k4).done
  · obtain ⟨t, u, x, y, h1, h2, h3, h4, h5⟩ := two_inv e
    obtain ⟨x', k1, k2⟩ := hv.toArray_get h3
    obtain ⟨y', k3, k4⟩ := hv.toArray_get h4
    exact (copy_sound (ty := ty) st h5 h1 k1 k3 k2 k4).done
  · obtain ⟨e1, e2⟩ := pv_inv e
    rw [e2]
    have g : GivesV P ρ w (Builtin.max_ ts ty vs') v := by
      obtain ⟨v', k1, k2⟩ := mostOf_sound (P := P) (w := w) (ts := ts) (ty := ty) e1 hv
      exact ⟨v', k1, k2⟩
    exact (g.gives st).done
  · obtain ⟨e1, e2⟩ := pv_inv e
    rw [e2]
    have g : GivesV P ρ w (Builtin.min_ ts ty vs') v := by
      obtain ⟨v', k1, k2⟩ := mostOf_sound (P := P) (w := w) (ts := ts) (ty := ty) e1 hv
      exact ⟨v', k1, k2⟩
    exact (g.gives st).done
  · cases e

/-- a call of a function value -/
theorem callV_sound {inv : Inv} {h h' : AHeap} {f f' : Value} {args : List Value} {args' : Array Value} {v : Value} (hinv : InvOk P inv) (st : Sim P base ρ h w) (e : callV inv f args h = some (v, h')) (hf : VRel ρ f f') (ha : VRels ρ args args'.toList) :
    Done P base ρ h w (do let d ← Deferred.ofValue f' args'; invoke d.target d.args) v h' := by
  unfold callV at e
  split at e
  · rename_i fn first captured
    split at e
    · rename_i g
      cases hf with
      | fn hp h1 h2 =>
        rename_i us vs
        obtain ⟨ρ', v', w', d1, d2, d3⟩ := hinv base ρ w (.func g) (.func g) _ (us ++ args'.toList ++ vs) h h' v e (.inl ⟨g, rfl, rfl⟩) ((h1.append ha).append h2) st
        refine ⟨ρ', v', w', ?_, d2, d3⟩
        have key : (do let d ← Deferred.ofValue (.func (.func g) ⟨us⟩ ⟨vs⟩) args'; invoke d.target d.args : Sem Next) = callFunc g ((⟨us⟩ ++ args') ++ ⟨vs⟩) := rfl
        have key2 : invoke (.fn (.func g) #[]) (us ++ args'.toList ++ vs).toArray = callFunc g ((us ++ args'.toList ++ vs).toArray ++ #[]) := rfl
        rw [key2] at d1
        rw [key]
        have : ((⟨us⟩ ++ args') ++ ⟨vs⟩ : Array Value) = (us ++ args'.toList ++ vs).toArray ++ #[] := by
          apply Array.ext'; simp
        rw [this]; exact d1
    · rename_i l
      cases hf with
      | fn hp => cases hp
      | yl hl =>
        rename_i p
        obtain ⟨ρ', v', w', d1, d2, d3⟩ := hinv base ρ w (.yield l) (.yield p.block) _ (args'.toList) h h' v e (.inr ⟨l, p, rfl, hl, rfl⟩) ha st
        refine ⟨ρ', v', w', ?_, d2, d3⟩
        have key : (do let d ← Deferred.ofValue (.func (.yield p.block) #[] #[]) args'; invoke d.target d.args : Sem Next) = invoke (.fn (.yield p.block) #[]) (#[] ++ args') := rfl
        rw [key]
        have : (#[] ++ args' : Array Value) = args'.toList.toArray := by simp
        rw [this]; exact d1
    · cases e
  · cases e

theorem call_sound {inv : Inv} {ev ev' : Operand → Value} {h h' : AHeap} {c : Call} {ty : TypeId} {v : Value} (hinv : InvOk P inv) (st : Sim P base ρ h w) (hev : EvRel ρ ev ev') (e : callOp P inv ev h c = some (v, h')) :
    Done P base ρ h w (do let d ← resolve ev' c ty; invoke d.target d.args) v h' := by
  unfold callOp at e
  have ha : VRels ρ (evs ev c.args.toList) (c.args.map ev').toList := by
    rw [Array.toList_map]; exact evs_rel hev _
  split at e
  · rename_i f hc
    have := callV_sound (args' := c.args.map ev') hinv st e (hev f) ha
    have key : (do let d ← resolve ev' c ty; invoke d.target d.args : Sem Next) = (do let d ← Deferred.ofValue (ev' f) (c.args.map ev'); invoke d.target d.args) := by
      unfold resolve; simp only [hc]
    rw [key]; exact this
  · rename_i b hc
    have key : (do let d ← resolve ev' c ty; invoke d.target d.args : Sem Next) = builtin b c.argTypes ty (c.args.map fun | .const _ => true | _ => false) (c.args.map ev') := by
      unfold resolve; simp only [hc]; rfl
    rw [key]
    exact builtin_sound st e ha
  · cases e

theorem iface_sound {t : TypeId} {x x' v : Value} (e : ifaceV P t x = some v) (hx : VRel ρ x x') : GivesV P ρ w (Instr.makeInterface t x') v := by
  unfold ifaceV at e
  cases hd : P.underlying t with
  | none => rw [hd] at e; cases e
  | some d =>
    rw [hd] at e
    cases d <;> first
      | (cases e; done)
      | (cases e
         refine ⟨.iface t x', ?_, .iface hx⟩
         unfold Instr.makeInterface
         simp only [Sem.run_bind, run_under hd, Result.andThen_ok]
         rfl)

theorem fail_sound {a : TypeId} {ok : Bool} {v : Value} (e : failV P a ok = some v) : ok = true ∧ ∃ z, (zeroValue a).run P w = .ok z w ∧ VRel ρ v (.tuple #[z, .bool false]) := by
  unfold failV at e
  cases ok with
  | false => cases e
  | true =>
    rw [cond_true] at e
    cases hz : zeroV P a with
    | none => rw [hz] at e; cases e
    | some z =>
      rw [hz] at e
      cases e
      obtain ⟨i, h1, h2, _, _, h3, _⟩ := zero_spec (ρ := ρ) hz
      exact ⟨rfl, z, run_zero h1 h2 w, .tuple (.cons h3 (.cons (.bool _) .nil))⟩

theorem assert_sound {x x' v : Value} {xt a : TypeId} {ok : Bool} (e : assertV P x a ok = some v) (hx : VRel ρ x x') : GivesV P ρ w (Instr.typeAssert x' xt a ok) v := by
  unfold assertV at e
  cases hd : P.underlying a with
  | none => rw [hd] at e; cases e
  | some d =>
    rw [hd] at e
    have key : ((∃ t u, x = .iface t u) ∨ x = .nilIface) := by
      revert e
      cases d <;> cases x <;> intro e <;> first
        | exact .inl ⟨_, _, rfl⟩
        | exact .inr rfl
        | (cases e; done)
    rcases key with ⟨t, u, rfl⟩ | rfl
    · obtain ⟨u', rfl, hu⟩ := hx.iface_inv
      cases hb : Nat.beq t a with
      | true =>
        have hta := Nat.eq_of_beq_eq_true hb
        subst hta
        cases d <;> first
          | (cases e; done)
          | (dsimp only at e
             rw [hb, cond_true] at e
             cases e
             refine ⟨cond ok (.tuple #[u', .bool true]) u', ?_, by cases ok <;> first | exact hu | exact .tuple (.cons hu (.cons (.bool _) .nil))⟩
             unfold Instr.typeAssert
             simp only [Sem.run_bind, run_under hd, Result.andThen_ok]
             cases ok <;> simp)
      | false =>
        have hta : ¬ t = a := fun h => by subst h; rw [Nat.beq_refl] at hb; cases hb
        cases d <;> first
          | (cases e; done)
          | (dsimp only at e
             rw [hb, cond_false] at e
             obtain ⟨rfl, z, h1, h2⟩ := fail_sound (ρ := ρ) (w := w) e
             refine ⟨_, ?_, h2⟩
             unfold Instr.typeAssert
             simp only [Sem.run_bind, run_under hd, Result.andThen_ok]
             simp [hta, h1])
    · rw [hx.nilIface_inv]
      cases d <;> first
        | (cases e; done)
        | (obtain ⟨rfl, z, h1, h2⟩ := fail_sound (ρ := ρ) (w := w) e
           refine ⟨_, ?_, h2⟩
           unfold Instr.typeAssert
           simp only [Sem.run_bind, run_under hd, Result.andThen_ok]
           simp [h1])

/-- one operation -/
theorem op_sound {inv : Inv} {ev ev' : Operand → Value} {h h' : AHeap} {o : Oper} {v : Value} (hinv : InvOk P inv) (st : Sim P base ρ h w) (hev : EvRel ρ ev ev') (e : (opC P o.op).f inv ev h = some (v, h')) :
    Done P base ρ h w (execOp ev' o) v h' ∧ ∀ c, o.op ≠ .defer c := by
  obtain ⟨dst, op, type, pos, after, guard⟩ := o
  have pure : ∀ {r : Option Value} {s : Sem Value}, pv h r = some (v, h') → (r = some v → GivesV P ρ w s v) → Done P base ρ h w (do Pure.pure (.value (← s))) v h' := fun e0 hs => by
    obtain ⟨e1, e2⟩ := pv_inv e0
    rw [e2]; exact ((hs e1).gives st).done
  refine ⟨?_, fun c hc => ?_⟩
  · cases op <;> simp only [opC] at e
    case move x =>
      obtain ⟨e1, e2⟩ := pv_inv e
      cases e1; rw [e2]
      exact ⟨ρ, ev' x, w, .value (by simp only [execOp, Sem.run_pure]), hev x, .refl st⟩
    case assign x =>
      obtain ⟨e1, e2⟩ := pv_inv e
      cases e1; rw [e2]
      exact ⟨ρ, ev' x, w, .value (by simp only [execOp, Sem.run_pure]), hev x, .refl st⟩
    case pick c a b =>
      obtain ⟨e1, e2⟩ := pv_inv e
      rw [e2]; exact (pick_sound e1 (hev c) (hev a) (hev b)).done st
    case build t parts =>
      refine pure e fun e1 => build_sound e1 ?_
      rw [Array.toList_map]; exact evParts_rel hev _
    case nilCheck x =>
      obtain ⟨e1, e2⟩ := pv_inv e
      rw [e2]; exact (nil_sound e1 (hev x) _ x rfl ev' rfl).done st
    case binOp op t x y yt =>
      refine pure e fun e1 => ?_
      cases hs : shiftV op (ev x) (ev y) with
      | some u =>
        rw [hs] at e1
        cases e1
        obtain ⟨k1, k2⟩ := shift_sound (P := P) (w := w) (t := t) (x := x) (y := y) hs (hev x) (hev y)
        exact ⟨_, k1, k2⟩
      | none =>
        rw [hs] at e1
        exact bin_sound e1 (hev x) (hev y) x y
    case unOp op t x => exact pure e fun e1 => un_sound e1 (hev x)
    case convert s d x =>
      refine pure e fun e1 => ?_
      unfold convV at e1
      split at e1
      · rename_i t ht
        exact conv_sound e1 (hev x) ⟨t, ht⟩
      · cases e1
    case makeFunc fn first captured =>
      refine pure e fun e1 => ?_
      obtain ⟨hp, e1⟩ := cond_some e1
      cases e1
      refine ⟨.func fn (first.map ev') (captured.map ev'), rfl, ?_⟩
      have h1 := evs_rel hev first.toList
      have h2 := evs_rel hev captured.toList
      have k1 : first.map ev' = ⟨first.toList.map ev'⟩ := by apply Array.ext'; simp
      have k2 : captured.map ev' = ⟨captured.toList.map ev'⟩ := by apply Array.ext'; simp
      rw [k1, k2]
      exact .fn hp h1 h2
    case slice t x lo hi mx =>
      obtain ⟨e1, e2⟩ := slice_sound st.rel.rd e (hev x) (evO_rel hev lo) (evO_rel hev hi) (evO_rel hev mx)
      rw [e1]; exact (e2.gives st).done
    case fieldAddr s x f => exact pure e fun e1 => fieldPtr_sound e1 (hev x)
    case field t x f => exact pure e fun e1 => field_sound e1 (hev x)
    case indexAddr t x ix => exact pure e fun e1 => indexPtr_sound e1 (hev x) (hev ix)
    case index t x ix => exact pure e fun e1 => index_sound e1 (hev x) (hev ix)
    case extract t ix => exact pure e fun e1 => extract_sound e1 (hev t)
    case load t x =>
      obtain ⟨e1, b, f, ob, e2, e3, e4⟩ := rd_inv e
      rw [e1]; exact ((load_sound st.rel.rd e2 e3 e4 (hev x)).gives st).done
    case lookup t m k ok =>
      unfold lookOp at e
      split at e
      · rename_i hm
        have hm' := hev m
        rw [hm] at hm'
        refine pure e fun e1 => ?_
        rw [hm'.mnil_inv]
        exact lookN_sound e1 (hev k)
      · obtain ⟨e1, b, f, ob, e2, e3, e4⟩ := rd_inv e
        rw [e1]; exact ((look_sound st.rel.rd e2 e3 e4 (hev m) (hev k)).gives st).done
    case alloc t =>
      obtain ⟨ob, f, e1, e2, e3⟩ := al_inv e
      rw [e2, e3]; exact ((alloc_raw st.unmet e1).gives st).done
    case box t x =>
      obtain ⟨ob, f, e1, e2, e3⟩ := al_inv e
      rw [e2, e3]; exact ((box_raw st.unmet e1 (hev x)).gives st).done
    case buildSlice t n parts =>
      obtain ⟨ob, f, e1, e2, e3⟩ := al_inv e
      rw [e2, e3]
      refine ((buildSlice_raw st.unmet e1 ?_).gives st).done
      rw [Array.toList_map]; exact evParts_rel hev _
    case makeMap t r =>
      cases r with
      | none =>
        obtain ⟨ob, f, e1, e2, e3⟩ := al_inv e
        rw [e2, e3]; exact ((makeMap_raw e1).gives st).done
      | some _ => cases e
    case makeSlice t l c =>
      obtain ⟨ob, f, e1, e2, e3⟩ := al_inv e
      rw [e2, e3]; exact ((makeSlice_raw st.unmet e1 (hev l) (hev c)).gives st).done
    case store t x y => exact (store_sound st e (hev x) (hev y)).done
    case mapUpdate t m k x => exact (update_sound st e (hev m) (hev k) (hev x)).done
    case call c => exact call_sound hinv st hev e
    case makeInterface t x => exact pure e fun e1 => iface_sound e1 (hev x)
    case typeAssert x xt a ok => exact pure e fun e1 => assert_sound e1 (hev x)
    all_goals cases e
  · subst hc; cases e
end Go.Ev
