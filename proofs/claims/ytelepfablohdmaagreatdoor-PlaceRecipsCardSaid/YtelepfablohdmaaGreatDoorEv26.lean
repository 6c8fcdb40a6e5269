/- The evaluator: calls of functions and rounds of loops. -/
import Derived.Test.YtelepfablohdmaaGreatDoorEv25
set_option linter.unusedSimpArgs false
set_option linter.unusedVariables false
namespace Go.Ev

variable {P : Program} {base : Nat} {ρ : Ren} {w : World}

theorem treeOf_get : ∀ {l : List Value} {i j : Nat} {t : Tr Value} {v : Value}, (treeOf l i t).get j = some v → (∃ k, j = i + k ∧ l[k]? = some v) ∨ t.get j = some v
  | [], i, j, t, v, h => .inr h
  | x :: l, i, j, t, v, h => by
    have h' : (Tr.setK t i x fun t => treeOf l (Nat.succ i) t).get j = some v := h
    rw [Tr.setK_eq] at h'
    rcases treeOf_get h' with ⟨k, h1, h2⟩ | h1
    · exact .inl ⟨k + 1, by omega, by simpa using h2⟩
    · rw [Tr.get_set] at h1
      by_cases e : i = j
      · rw [if_pos e] at h1
        cases h1
        exact .inl ⟨0, by omega, rfl⟩
      · rw [if_neg e] at h1; exact .inr h1

theorem bit_or_l {a b t : Nat} (h : bitOf a t = true) : bitOf (Nat.lor a b) t = true := by
  rw [bitOf_eq] at *
  rw [bit_lor, h]; rfl
theorem bit_or_r {a b t : Nat} (h : bitOf b t = true) : bitOf (Nat.lor a b) t = true := by
  rw [bitOf_eq] at *
  rw [bit_lor, h, Bool.or_true]

theorem shared_param {fn : Func} {body : Code} {t : Nat} (h : t < fn.params.size + fn.nfree) : bitOf (sharedOf fn body) t = true := by
  unfold sharedOf
  refine bit_or_l ?_
  rw [bitOf_eq]
  show ((1 <<< (fn.params.size + fn.nfree)) - 1).testBit t = true
  rw [Nat.one_shiftLeft, Nat.testBit_two_pow_sub_one]
  exact decide_eq_true h

theorem mask_param {o : Opt} {fn : Func} {body : Code} {t : Nat} (h : t < fn.params.size + fn.nfree) (h2 : t < fn.ntmps) : bitOf (maskOf o fn body) t = true := by
  unfold maskOf
  cases o.all with
  | false => exact shared_param h
  | true =>
    rw [bitOf_eq]
    show ((1 <<< fn.ntmps) - 1).testBit t = true
    rw [Nat.one_shiftLeft, Nat.testBit_two_pow_sub_one]
    exact decide_eq_true h2

theorem frmOf_eq (o : Opt) (fn : Func) (body : Code) : frmOf o fn body = ⟨fn.ntmps, maskOf o fn body, fn.params.size + fn.nfree⟩ := by
  unfold frmOf
  rw [forceN_eq, forceN_eq, forceN_eq]

theorem args_rel {o : Opt} {fn : Func} {body : Code} {args args' : List Value} (ha : VRels ρ args args') (h1 : args.length ≤ fn.params.size + fn.nfree) (h2 : args.length ≤ fn.ntmps) :
    TRel ρ fn.ntmps (maskOf o fn body) (treeOf args 0 .lf) (args'.toArray ++ Array.replicate (fn.ntmps - args'.toArray.size) undef) := by
  have hlen := ha.length
  refine ⟨by simp; omega, fun t v h => ?_⟩
  rcases treeOf_get h with ⟨k, h3, h4⟩ | h3
  · have hk : k = t := by omega
    subst hk
    have hlt : k < args.length := by
      rcases Nat.lt_or_ge k args.length with h | h
      · exact h
      · rw [List.getElem?_eq_none h] at h4; cases h4
    refine ⟨mask_param (by omega) (by omega), ?_⟩
    obtain ⟨v', h5, h6⟩ := ha.get h4
    have : (args'.toArray ++ Array.replicate (fn.ntmps - args'.toArray.size) undef).getD k undef = v' := by
      rw [Array.getD_eq_getD_getElem?, Array.getElem?_append_left (by simp; omega)]
      simp [h5]
    rw [this]; exact h6
  · have : (Tr.lf : Tr Value).get t = none := rfl
    rw [this] at h3; cases h3

/-- a call of a function -/
theorem enterF_leaves {o : Opt} {inv : Inv} {f : FuncId} {fn : Func} {body : Code} {args args' : List Value} {h h' : AHeap} {v : Value} (hm : P.follows .mixedOrders = true) (hnum : NoNum P) (hinv : InvOk P inv) (hf : P.funcs[f]? = some fn) (hb : fn.body = some body)
    (ha : VRels ρ args args') (st : Sim P base ρ h w) (e : enterF P o inv f fn body args h = some (v, h')) :
    ∃ ρ' v' w', (∀ cs, ∃ fr, Steps P (lone (Frame.enter P f args'.toArray .normal) cs w) (lone fr cs w') ∧ fr.fn = f ∧ fr.leaving P w' (.returned v')) ∧ VRel ρ' v v' ∧ Went P base ρ h w ρ' h' w' := by
  unfold enterF at e
  rw [frmOf_eq] at e
  dsimp only at e
  obtain ⟨hle, e⟩ := cond_some e
  obtain ⟨h1, h2⟩ := ble_and hle
  have h1 := Nat.le_of_ble_eq_true h1
  have h2 := Nat.le_of_ble_eq_true h2
  split at e
  · rename_i tr todo defers h₁ hrun
    unfold giveBack at e
    obtain ⟨hret, e⟩ := cond_some e
    split at e
    · rename_i h₂ hunw
      split at e
      · rename_i vs hvs
        cases e
        let b : Frame := Frame.enter P f args'.toArray .normal
        let a : Act := ⟨args'.toArray ++ Array.replicate (fn.ntmps - args'.toArray.size) undef, []⟩
        have hb0 : Frame.enter P f args'.toArray .normal = b.atR a [.code body] := by
          simp [b, a, Frame.enter, Frame.atR, hf, hb]
        have hfr : FrR P base ⟨P, inv, f, fn.ntmps, none, maskOf o fn body⟩ b ρ (treeOf args 0 .lf) [] h a w := ⟨st, args_rel ha h1 h2, trivial, .nil⟩
        obtain ⟨⟨ρ₁, w₁, a₁, s1, g1, f1⟩, hend⟩ := runF_sound (b := b) hm rfl hinv rfl o.steps ρ w a _ [] h _ hfr hrun
        have s2 : ∀ cs, Steps P (lone (b.atR a₁ todo) cs w₁) (lone { b.atR a₁ todo with mode := .returning } cs w₁) := fun cs => by
          cases todo with
          | nil => exact .one (stepR_end rfl)
          | cons x k =>
            cases x with
            | code x => cases x with
              | ret => exact .one (stepR_ret rfl)
              | _ => cases hret
            | _ => cases hret
        obtain ⟨w₂, s3, g2⟩ := unwind_sound (fr := { b.atR a₁ todo with mode := .returning }) f1.defs rfl rfl hunw f1.sim
        obtain ⟨v', k1, k2⟩ := results_sound g2.sim ((f1.tmps.mono g2.le).env) hvs
        refine ⟨ρ₁, v', w₂, fun cs => ⟨{ b.atR a₁ todo with mode := .returning, defers := [] }, ?_, rfl, rfl, rfl, rfl, fn, hf, k1⟩, k2, g1.trans g2⟩
        rw [hb0]
        exact (s1 _).trans ((s2 _).trans (s3 _))
      · cases e
    · cases e
  · cases e

theorem enterF_sound {o : Opt} {inv : Inv} {f : FuncId} {fn : Func} {body : Code} {args args' : List Value} {h h' : AHeap} {v : Value} (hm : P.follows .mixedOrders = true) (hnum : NoNum P) (hinv : InvOk P inv) (hf : P.funcs[f]? = some fn) (hb : fn.body = some body)
    (ha : VRels ρ args args') (st : Sim P base ρ h w) (e : enterF P o inv f fn body args h = some (v, h')) : Done P base ρ h w (invoke (.fn (.func f) #[]) args'.toArray) v h' := by
  obtain ⟨ρ', v', w', h1, h2, h3⟩ := enterF_leaves hm hnum hinv hf hb ha st e
  refine ⟨ρ', v', w', .enter (run_enter hnum hf hb) fun c cs => ?_, h2, h3⟩
  obtain ⟨fr, k1, _, k2⟩ := h1 (c :: cs)
  exact k1.trans (.one (step_leave_returned k2))

theorem slots_lt {size : Nat} : ∀ {l : List Tmp}, slotsOk size l = true → ∀ t ∈ l, t < size
  | [], _, t, h => by cases h
  | x :: l, h, t, ht => by
    have h' : (Nat.blt x size && slotsOk size l) = true := h
    obtain ⟨h1, h2⟩ := ble_and h'
    cases ht with
    | head => exact blt_lt h1
    | tail _ ht => exact slots_lt h2 t ht

theorem params_bit : ∀ {l : List Tmp} {t : Nat}, t ∈ l → bitOf (paramsMask l) t = true
  | [], t, h => by cases h
  | x :: l, t, h => by
    show bitOf (Nat.lor (Nat.shiftLeft 1 x) (paramsMask l)) t = true
    cases h with
    | head => exact bit_or_l (by rw [bitOf_eq]; exact bit_shift _)
    | tail _ h => exact bit_or_r (params_bit h)

theorem putAll_rel {size shared : Nat} : ∀ {ts : List Tmp} {vs vs' : List Value} {tr : Tr Value} {tmps : Array Value}, (∀ t ∈ ts, t < size ∧ bitOf shared t = true) → VRels ρ vs vs' → TRel ρ size shared tr tmps →
    TRel ρ size shared (putAll ts vs tr) ((ts.zip vs').foldl (fun tmps (p : Tmp × Value) => tmps.setIfInBounds p.1 p.2) tmps)
  | [], vs, vs', tr, tmps, _, hv, h => by
    cases hv <;> exact h
  | t :: ts, [], [], tr, tmps, _, .nil, h => h
  | t :: ts, v :: vs, v' :: vs', tr, tmps, ht, .cons hv hvs, h => by
    show TRel ρ size shared (putAll ts vs (tr.set t v)) ((ts.zip vs').foldl (fun tmps (p : Tmp × Value) => tmps.setIfInBounds p.1 p.2) (tmps.setIfInBounds t v'))
    obtain ⟨h1, h2⟩ := ht t (.head _)
    refine putAll_rel (fun x hx => ht x (.tail _ hx)) hvs ⟨by rw [Array.size_setIfInBounds]; exact h.1, fun j u hj => ?_⟩
    rw [Tr.get_set] at hj
    rw [getD_set]
    by_cases e : t = j
    · rw [if_pos e] at hj
      cases hj
      rw [if_pos ⟨e, by rw [h.1]; exact h1⟩]
      exact ⟨by rw [← e]; exact h2, hv⟩
    · rw [if_neg e] at hj
      rw [if_neg (fun q => e q.1)]
      exact h.2 j u hj

theorem round_end {c : Ctx} {b : Frame} {tr : Tr Value} {defers : List Deferred} {h h' : AHeap} {a : Act} {l : Nat} {p : Place} {todo : List Item} {v : Value} (f : FrR P base c b ρ tr defers h a w) (hp : ρ l = some p) (hb : b.roundOf = some p.block) (hk : b.kind = .normal) (hend : EndOk todo) (e : roundEnd l todo h = some (v, h')) :
    ∃ w', (∀ c cs, Steps P (lone (b.atR a todo) (c :: cs) w) (lone (c.finish v) cs w')) ∧ Went P base ρ h w ρ h' w' ∧ VRel ρ v v := by
  unfold roundEnd at e
  split at e
  · rename_i r hg
    obtain ⟨r', h1, h2⟩ := loop_at f.sim hp hg
    obtain ⟨k1, k2, k3, k4, k5, k6, k7, k8⟩ := h2
    split at e
    · rw [AHeap.setK_eq] at e
      cases e
      have g := putObj_went (r₂ := { r with state := .ready, pending := none }) (r₂' := { r' with state := .ready, pending := none }) f.sim hp hg h1 ⟨rfl, rfl, k3, k4, k5, k6, k7, k8⟩
      exact ⟨_, fun c cs => .one (stepR_round_end hb hk (run_endRound none h1)), g, .bool _⟩
    · rename_i x k
      rw [AHeap.setK_eq] at e
      cases e
      have g := putObj_went (r₂ := { r with state := .done, pending := some x }) (r₂' := { r' with state := .done, pending := some x }) f.sim hp hg h1 ⟨rfl, rfl, k3, k4, k5, k6, k7, k8⟩
      refine ⟨_, fun c cs => ?_, g, .bool _⟩
      cases x with
      | ret => exact .one (stepR_round_ret hb hk (run_endRound (some .ret) h1))
      | exit id => exact .one (stepR_round_exit hb hk hend (run_endRound (some (.exit id)) h1))
      | goto t => exact .one (stepR_round_goto hb hk hend (run_endRound (some (.goto t)) h1))
      | _ => exact hend.elim
    · cases e
  · cases e

/-- a call of a loop's function -/
theorem enterR_sound {o : Opt} {inv : Inv} {l : Nat} {p : Place} {r : ALoop} {args args' : List Value} {h h' : AHeap} {v : Value} (hm : P.follows .mixedOrders = true) (hinv : InvOk P inv) (hp : ρ l = some p) (hg : h.get l = some (.loop r)) (hlen : args.length = r.params.toList.length)
    (ha : VRels ρ args args') (st : Sim P base ρ h w) (e : enterR P o inv l r args h = some (v, h')) : Done P base ρ h w (invoke (.fn (.yield p.block) #[]) args'.toArray) v h' := by
  unfold enterR at e
  obtain ⟨hslots, e⟩ := cond_some e
  split at e
  · rename_i tr todo defers h₁ hrun
    obtain ⟨r', h1, h2⟩ := loop_at st hp hg
    obtain ⟨k1, k2, k3, k4, k5, k6, k7, k8⟩ := h2
    have hl' := ha.length
    have hy := run_yield (P := P) (args := args'.toArray) h1 (by rw [k4]; simp only [Array.length_toList] at hlen; simp; omega)
    have hfold : (r'.params.zip args'.toArray).foldl (fun tmps (p : Tmp × Value) => tmps.setIfInBounds p.1 p.2) r'.tmps = (r.params.toList.zip args').foldl (fun tmps (p : Tmp × Value) => tmps.setIfInBounds p.1 p.2) r'.tmps := by
      rw [k4, ← Array.foldl_toList]
      simp
    let tmps := (r.params.toList.zip args').foldl (fun tmps (p : Tmp × Value) => tmps.setIfInBounds p.1 p.2) r'.tmps
    let b : Frame := Frame.round p.block r.fn tmps r.assign r.body .normal
    have hb0 : Frame.round p.block r.fn tmps r.assign r.body .normal = b.atR ⟨tmps, []⟩ [.code r.assign, .beginRound, .code r.body] := rfl
    have hfr : FrR P base ⟨P, inv, r.fn, r.size, some l, Nat.lor r.shared (paramsMask r.params.toList)⟩ b ρ (putAll r.params.toList args r.tr) [] h ⟨tmps, []⟩ w := by
      refine ⟨st, putAll_rel (fun t ht => ⟨slots_lt hslots t ht, bit_or_r (params_bit ht)⟩) ha ⟨k7.1, fun t v e => ⟨bit_or_l (k7.2 t v e).1, (k7.2 t v e).2⟩⟩, ⟨p, hp, rfl⟩, .nil⟩
    obtain ⟨⟨ρ₁, w₁, a₁, s1, g1, f1⟩, hend⟩ := runF_sound (b := b) hm rfl hinv rfl o.steps ρ w ⟨tmps, []⟩ _ [] h _ hfr hrun
    obtain ⟨w₂, s2, g2, hv⟩ := round_end f1 (g1.le _ _ hp) rfl rfl hend e
    refine ⟨ρ₁, v, w₂, .round (l := p.block) (f := r.fn) (tmps := tmps) (assign := r.assign) (body := r.body) (w₁ := w) ?_ fun c cs => ?_, hv, g1.trans g2⟩
    · have : (invoke (.fn (.yield p.block) #[]) args'.toArray : Sem Next) = Instr.yield p.block (args'.toArray ++ #[]) := rfl
      rw [this, Array.append_empty, hy]
      rw [show (r'.params.zip args'.toArray).foldl (fun tmps (t, a) => tmps.setIfInBounds t a) r'.tmps = tmps from hfold, k3, k5, k6]
    · rw [hb0]
      exact (s1 _).trans (s2 c cs)
  · cases e

/-- A function without arguments that returns true, in every world, and changes nothing. -/
def Shut (P : Program) (f : FuncId) : Prop :=
  ∀ w : World, ∃ w', (∀ cs, ∃ fr, Steps P (lone (Frame.enter P f #[] .normal) cs w) (lone fr cs w') ∧ fr.fn = f ∧ fr.leaving P w' (.returned (.bool true))) ∧ RowKit.Below w.heap.size w w'

theorem Shut.calls {f : FuncId} (h : Shut P f) (w : World) : Calls P f #[] w fun e w' => e = .returned (.bool true) ∧ RowKit.Below w.heap.size w w' := by
  obtain ⟨w', h1, h2⟩ := h w
  intro cs
  obtain ⟨fr, k1, k2, k3⟩ := h1 cs
  exact ⟨_, w', fr, ⟨rfl, h2⟩, k1, k2, k3⟩

def ShutAll (P : Program) (K : List Nat) : Prop := ∀ f, f ∈ K → Shut P f ∧ ∃ fn body, P.funcs[f]? = some fn ∧ fn.body = some body

theorem isIn_mem {K : List Nat} {f : Nat} (h : isIn K f = true) : f ∈ K := by
  induction K with
  | nil => cases h
  | cons k K ih =>
    have h' : (Bool.rec (motive := fun _ => Bool) (isIn K f) true (Nat.beq k f) : Bool) = true := h
    cases hb : Nat.beq k f with
    | true => rw [Nat.eq_of_beq_eq_true hb]; exact .head _
    | false => rw [hb] at h'; exact .tail _ (ih h')

theorem below_went {h : AHeap} {w' : World} (st : Sim P base ρ h w) (hb : RowKit.Below w.heap.size w w') : Went P base ρ h w ρ h w' := by
  have hsame : ∀ c, c < w.heap.size → w'.heap[c]? = w.heap[c]? := hb.block
  refine ⟨⟨⟨fun b p hρ => ?_, st.rel.inj, fun b p hρ => Nat.lt_of_lt_of_le (st.rel.size b p hρ) hb.size, st.rel.lo⟩, st.void, Nat.le_trans st.room hb.size⟩,
    ⟨Ren.le_refl ρ, ⟨hb.os, hb.tape, hb.output, hb.size, fun k hk => hsame k (Nat.lt_of_lt_of_le hk st.room)⟩, fun c hc _ => hsame c hc, fun b p h1 h2 => (by rw [h2] at h1; cases h1), Nat.le_refl _, fun _ _ _ => rfl, fun b h1 h2 => absurd h1 (Nat.not_le.2 h2)⟩⟩
  obtain ⟨o, h1, h2⟩ := st.rel.obj b p hρ
  exact ⟨o, h1, by rw [hsame _ (st.rel.size b p hρ)]; exact h2⟩

/-- what stands in for some functions is right -/
def XGood (P : Program) (X : Inv → Inv) : Prop := ∀ i, InvOk P i → InvOk P (X i)
theorem noX_good (P : Program) : XGood P noX := fun _ _ _ _ _ _ _ _ _ _ _ _ e => by cases e

/-- the evaluator's calls are right -/
theorem inv_ok {o : Opt} {K : List Nat} (hX : XGood P o.X) (hm : P.follows .mixedOrders = true) (hnum : NoNum P) (hK : ShutAll P K) : ∀ n, InvOk P (inv P K o n)
  | 0 => fun base ρ w fn fn' args args' h h' v e _ _ _ => by cases e
  | n + 1 => fun base ρ w fn fn' args args' h h' v e hfn ha st => by
    cases fn with
    | func f =>
      have hfn' : fn' = .func f := by
        rcases hfn with ⟨g, h1, h2⟩ | ⟨l, p, h1, _⟩
        · cases h1; exact h2
        · cases h1
      subst hfn'
      have e0 : cond (isIn o.L f) (o.X (inv P K o n) (.func f) args h) (cond (isIn K f && noArgs args) (some (.bool true, h)) (match funcAt P f with
        | some (fn, body) => enterF P o (inv P K o n) f fn body args h
        | none => none)) = some (v, h') := e
      cases hl : isIn o.L f with
      | true =>
        rw [hl, cond_true] at e0
        exact hX _ (inv_ok hX hm hnum hK n) base ρ w _ _ args args' h h' v e0 (.inl ⟨f, rfl, rfl⟩) ha st
      | false =>
      rw [hl, cond_false] at e0
      have e' : cond (isIn K f && noArgs args) (some (.bool true, h)) (match funcAt P f with
        | some (fn, body) => enterF P o (inv P K o n) f fn body args h
        | none => none) = some (v, h') := e0
      cases hk : (isIn K f && noArgs args) with
      | true =>
        rw [hk, cond_true] at e'
        cases e'
        obtain ⟨k1, k2⟩ := ble_and hk
        obtain ⟨hshut, fn, body, hf, hb⟩ := hK f (isIn_mem k1)
        have ha0 : args' = [] := by
          cases args with
          | nil => cases ha; rfl
          | cons => cases k2
        subst ha0
        obtain ⟨w', h1, h2⟩ := hshut w
        refine ⟨ρ, .bool true, w', .enter (run_enter hnum hf hb) fun c cs => ?_, .bool true, below_went st h2⟩
        obtain ⟨fr, j1, _, j2⟩ := h1 (c :: cs)
        exact j1.trans (.one (step_leave_returned j2))
      | false =>
        rw [hk, cond_false] at e'
        unfold funcAt at e'
        rw [nth_eq] at e'
        cases hf : P.funcs.toList[f]? with
        | none => rw [hf] at e'; cases e'
        | some fn =>
          rw [hf] at e'
          dsimp only at e'
          cases hb : fn.body with
          | none => rw [hb] at e'; cases e'
          | some body =>
            rw [hb] at e'
            exact enterF_sound hm hnum (inv_ok hX hm hnum hK n) (by simpa using hf) hb ha st e'
    | yield l =>
      rcases hfn with ⟨g, h1, _⟩ | ⟨l', p, h1, hp, hfn'⟩
      · cases h1
      · cases h1
        subst hfn'
        have e' : (match h.get l with
          | some (.loop r) => cond (Nat.beq args.length r.params.toList.length) (enterR P o (inv P K o n) l r args h) none
          | _ => none) = some (v, h') := e
        split at e'
        · rename_i r hg
          obtain ⟨hlen, e'⟩ := cond_some e'
          exact enterR_sound hm (inv_ok hX hm hnum hK n) hp hg (Nat.eq_of_beq_eq_true hlen) ha st e'
        · cases e'
    | _ => cases e

theorem sim_empty (P : Program) (w : World) : Sim P w.heap.size (fun _ => none) (emptyHeap P) w :=
  ⟨⟨fun _ _ h => (nomatch h), fun _ _ _ _ _ _ h => (nomatch h), fun _ _ h => (nomatch h), fun _ _ _ h => (nomatch h)⟩, fun _ _ => rfl, Nat.le_refl _⟩

/-- .. and has a body -/
noncomputable def hasBody (P : Program) (f : Nat) : Bool :=
  match funcAt P f with
  | some _ => true
  | none => false
theorem hasBody_spec {f : Nat} (h : hasBody P f = true) : ∃ fn body, P.funcs[f]? = some fn ∧ fn.body = some body := by
  unfold hasBody funcAt at h
  rw [nth_eq] at h
  cases hf : P.funcs.toList[f]? with
  | none => rw [hf] at h; cases h
  | some fn =>
    rw [hf] at h
    dsimp only at h
    cases hb : fn.body with
    | none => rw [hb] at h; cases h
    | some body => exact ⟨fn, body, by simpa using hf, hb⟩

theorem shut_nil (P : Program) : ShutAll P [] := fun f h => by cases h
theorem shut_cons {K : List Nat} {f : Nat} (h : Shut P f) (hb : hasBody P f = true) (hK : ShutAll P K) : ShutAll P (f :: K) := fun g hg => by
  cases hg with
  | head => exact ⟨h, hasBody_spec hb⟩
  | tail _ hg => exact hK g hg
end Go.Ev
