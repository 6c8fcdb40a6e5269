/- The evaluator with panics: operations, and regions in the order of the text. -/
import Derived.Test.YtocpjjngpfjgpaaDoorX1
import Derived.Defers
import Derived.Laws.IdiomStrings
set_option linter.unusedSimpArgs false
set_option linter.unusedVariables false
namespace Go.Ev

variable {P : Program} {base : Nat} {ρ : Ren} {w : World}

/-- what recover gives in a frame of that kind, and what it does to the frames above: K true, then K false -/
def KRel (ρ : Ren) (q : Option Value) (kind : CallKind) (K : Bool → List Frame → List Frame) : Prop :=
  (∀ (fr : Frame) cs, fr.kind = kind → tryRecover fr (K false cs) = none) ∧
  ∀ v, q = some v → ∃ v', VRel ρ v v' ∧ ∀ (fr : Frame) cs, fr.kind = kind → tryRecover fr (K true cs) = some (v', K false cs)

theorem KRel.mono {ρ ρ' : Ren} (hl : ρ.le ρ') {q : Option Value} {kind : CallKind} {K : Bool → List Frame → List Frame} (h : KRel ρ q kind K) : KRel ρ' q kind K :=
  ⟨h.1, fun v e => let ⟨v', h1, h2⟩ := h.2 v e; ⟨v', h1.mono hl, h2⟩⟩
theorem KRel.off {q : Option Value} {kind : CallKind} {K : Bool → List Frame → List Frame} (h : KRel ρ q kind K) : KRel ρ none kind K := ⟨h.1, fun v e => by cases e⟩

/-- a call, or an operation, that panics: at once, or by the steps of another frame -/
inductive Goes (P : Program) (s : Sem Next) (w : World) (v : Value) (w' : World) : Prop where
  | now (h : s.run P w = .halt (.panic v) w')
  | enter {f : FuncId} {args : Array Value} {w₁ : World} (h : s.run P w = .ok (.enter f args) w₁) (hc : ∀ (c : Frame) (cs : List Frame), Steps P (lone (Frame.enter P f args .normal) (c :: cs) w₁) (lone (c.raise [{ v, recovered := false }]) cs w'))

def Pans (P : Program) (base : Nat) (ρ : Ren) (h : AHeap) (w : World) (s : Sem Next) (v : Value) (h' : AHeap) : Prop :=
  ∃ ρ' v' w', Goes P s w v' w' ∧ VRel ρ' v v' ∧ Went P base ρ h w ρ' h' w'

/-- a deferred call: from its frame's start to its leaving -/
def Backs (P : Program) (base : Nat) (ρ : Ren) (h : AHeap) (w : World) (g : FuncId) (args' : Array Value) (K : Bool → List Frame → List Frame) (q : Option Value) (h' : AHeap) (q' : Option Value) : Prop :=
  ∃ ρ' v' w', (∀ cs, ∃ fr, Steps P (lone (Frame.enter P g args' .deferred) (K q.isSome cs) w) (lone fr (K q'.isSome cs) w') ∧ fr.kind = .deferred ∧ fr.going P w' (.returned v')) ∧ Went P base ρ h w ρ' h' w' ∧ (q' = none ∨ q' = q) ∧ ∃ fn body, P.funcs[g]? = some fn ∧ fn.body = some body

/-- the evaluator's calls are right -/
structure XOk (P : Program) (x : InvX) : Prop where
  val : InvOk P (asInv x)
  pan : ∀ (base : Nat) (ρ : Ren) (w : World) (g : FuncId) (args args' : List Value) (h h' : AHeap) (v : Value), x .norm (.func g) args h = .pan v h' → VRels ρ args args' → Sim P base ρ h w →
    Pans P base ρ h w (invoke (.fn (.func g) #[]) args'.toArray) v h'
  dfr : ∀ (base : Nat) (ρ : Ren) (w : World) (q q' : Option Value) (g : FuncId) (args args' : List Value) (h h' : AHeap) (v : Value) (K : Bool → List Frame → List Frame), x (.defd q) (.func g) args h = .ok v h' q' → VRels ρ args args' → Sim P base ρ h w → KRel ρ q .deferred K →
    Backs P base ρ h w g args'.toArray K q h' q'

theorem resOf_ok {q q' : Option Value} {o : Option (Value × AHeap)} {v : Value} {h : AHeap} (e : resOf q o = .ok v h q') : o = some (v, h) ∧ q' = q := by
  cases o with
  | none => cases e
  | some r => cases r; cases e; exact ⟨rfl, rfl⟩
theorem resOf_pan {q : Option Value} {o : Option (Value × AHeap)} {v : Value} {h : AHeap} (e : resOf q o = .pan v h) : False := by
  cases o with
  | none => cases e
  | some r => cases r; cases e

theorem callX_ok {x : InvX} {f : Value} {args : List Value} {h h' : AHeap} {q q' : Option Value} {v : Value} (e : callX x f args h q = .ok v h' q') : callV (asInv x) f args h = some (v, h') ∧ q' = q := by
  unfold callX at e
  split at e
  · rename_i fn first captured
    split at e
    · rename_i g
      split at e
      · rename_i r hr
        cases e
        exact ⟨by show plainR (x .norm (.func g) _ h) = _; rw [hr]; rfl, rfl⟩
      · cases e
      · cases e
    · rename_i l
      exact resOf_ok e
    · cases e
  · cases e

theorem callX_pan {x : InvX} {f : Value} {args : List Value} {h h' : AHeap} {q : Option Value} {v : Value} (e : callX x f args h q = .pan v h') :
    ∃ g first captured, f = .func (.func g) first captured ∧ x .norm (.func g) (first.toList ++ args ++ captured.toList) h = .pan v h' := by
  unfold callX at e
  split at e
  · rename_i fn first captured
    split at e
    · rename_i g
      split at e
      · cases e
      · rename_i hr
        cases e
        exact ⟨g, first, captured, rfl, hr⟩
      · cases e
    · exact (resOf_pan e).elim
    · cases e
  · cases e

/-- a call of a function value that panics -/
theorem callX_pans {x : InvX} {f f' : Value} {args : List Value} {args' : Array Value} {h h' : AHeap} {q : Option Value} {v : Value} (hx : XOk P x) (st : Sim P base ρ h w) (e : callX x f args h q = .pan v h') (hf : VRel ρ f f') (ha : VRels ρ args args'.toList) :
    Pans P base ρ h w (do let d ← Deferred.ofValue f' args'; invoke d.target d.args) v h' := by
  obtain ⟨g, first, captured, rfl, e1⟩ := callX_pan e
  cases hf with
  | fn hp h1 h2 =>
    rename_i us vs
    obtain ⟨ρ', v', w', d1, d2, d3⟩ := hx.pan base ρ w g _ (us ++ args'.toList ++ vs) h h' v e1 ((h1.append ha).append h2) st
    refine ⟨ρ', v', w', ?_, d2, d3⟩
    have key : (do let d ← Deferred.ofValue (.func (.func g) ⟨us⟩ ⟨vs⟩) args'; invoke d.target d.args : Sem Next) = callFunc g ((⟨us⟩ ++ args') ++ ⟨vs⟩) := rfl
    have key2 : invoke (.fn (.func g) #[]) (us ++ args'.toList ++ vs).toArray = callFunc g ((us ++ args'.toList ++ vs).toArray ++ #[]) := rfl
    rw [key2] at d1
    rw [key]
    have : ((⟨us⟩ ++ args') ++ ⟨vs⟩ : Array Value) = (us ++ args'.toList ++ vs).toArray ++ #[] := by
      apply Array.ext'; simp
    rw [this]; exact d1

theorem resolve_value {ev : Operand → Value} {c : Call} {ty : TypeId} {f : Operand} (hc : c.callee = .value f) : (do let d ← resolve ev c ty; invoke d.target d.args : Sem Next) = (do let d ← Deferred.ofValue (ev f) (c.args.map ev); invoke d.target d.args) := by
  unfold resolve; simp only [hc]
theorem resolve_builtin {ev : Operand → Value} {c : Call} {ty : TypeId} {b : Builtin} (hc : c.callee = .builtin b) : (do let d ← resolve ev c ty; invoke d.target d.args : Sem Next) = builtin b c.argTypes ty (c.args.map fun | .const _ => true | _ => false) (c.args.map ev) := by
  unfold resolve; simp only [hc]; rfl

theorem nilEq_sound {op : BinOp} {t : TypeId} {x y : Operand} {v : Value} (e : nilEq P op t = some v) (hl : (nilLit x || nilLit y) = true) : (do eqGuard op t x y .nilIface .nilIface; binOp op t .nilIface .nilIface : Sem Value).run P w = .ok v w := by
  unfold nilEq at e
  split at e
  · rename_i ms hu
    have hg : ∀ op, (op = .eql ∨ op = .neq) → (eqGuard op t x y .nilIface .nilIface).run P w = .ok () w := fun op ho => by
      unfold eqGuard
      revert hl
      rcases ho with rfl | rfl <;> cases x <;> cases y <;> simp [nilLit]
    split at e
    · cases e
      simp only [Sem.run_bind, hg .eql (.inl rfl), Result.andThen_ok]
      show (do pure (.bool (← Op.equal t .nilIface .nilIface)) : Sem Value).run P w = _
      have := eqNilNil (P := P) (w := w) 9999 hu
      simp only [Sem.run_bind, Op.equal, Op.maxDepth, this, Result.andThen_ok, Sem.run_pure]
    · cases e
      simp only [Sem.run_bind, hg .neq (.inr rfl), Result.andThen_ok]
      show (do pure (.bool (!(← Op.equal t .nilIface .nilIface))) : Sem Value).run P w = _
      have := eqNilNil (P := P) (w := w) 9999 hu
      simp only [Sem.run_bind, Op.equal, Op.maxDepth, this, Result.andThen_ok, Sem.run_pure, Bool.not_true]
    · cases e
  · cases e

theorem shift_sound {op : BinOp} {t : TypeId} {x y : Operand} {a b a' b' v : Value} (e : shiftV op a b = some v) (ha : VRel ρ a a') (hb : VRel ρ b b') : (do eqGuard op t x y a' b'; binOp op t a' b' : Sem Value).run P w = .ok v w ∧ VRel ρ v v := by
  unfold shiftV at e
  split at e
  · split at e
    · rename_i k n
      split at e
      · rename_i k' m
        cases e
        rw [ha.int_inv, hb.int_inv]
        refine ⟨?_, .int _ _⟩
        have h1 : (eqGuard .shr t x y (.int k n) (.int k' (.ofNat m))).run P w = .ok () w := rfl
        simp only [Sem.run_bind, h1, Result.andThen_ok]
        have h2 : ¬ ((Int.ofNat m) < 0) := by simp
        show (Op.shift .shr k n k' (.ofNat m)).run P w = _
        unfold Op.shift
        rw [if_neg h2]
        simp only [Sem.run_pure]
        congr 3
      · cases e
    · cases e
  · split at e
    · rename_i k n
      split at e
      · rename_i k' m
        cases e
        rw [ha.int_inv, hb.int_inv]
        refine ⟨?_, .int _ _⟩
        have h1 : (eqGuard .shl t x y (.int k n) (.int k' (.ofNat m))).run P w = .ok () w := rfl
        simp only [Sem.run_bind, h1, Result.andThen_ok]
        have h2 : ¬ ((Int.ofNat m) < 0) := by simp
        show (Op.shift .shl k n k' (.ofNat m)).run P w = _
        unfold Op.shift
        rw [if_neg h2, wrapF_eq]
        simp only [Sem.run_pure]
        congr 3
      · cases e
    · cases e
  · cases e

theorem most2_sound {mx : Bool} {x y z : Value} (e : most2 mx x y = some z) {x' y' : Value} (hx : VRel ρ x x') (hy : VRel ρ y y') : (cond mx (Builtin.max2 x' y') (Builtin.min2 x' y')).run P w = .ok z w ∧ VRel ρ z z := by
  unfold most2 at e
  split at e
  · split at e
    · cases e
      rw [hx.int_inv, hy.int_inv]
      refine ⟨?_, .int _ _⟩
      rename_i _ k a _ k' b
      cases mx
      · rw [cond_false, cond_false]
        simp only [Builtin.min2, Sem.run_pure]
        rw [ltI_spec]
        by_cases h : b < a <;> simp [h]
      · rw [cond_true, cond_true]
        simp only [Builtin.max2, Sem.run_pure]
        rw [ltI_spec]
        by_cases h : a < b <;> simp [h]
    · cases e
  · cases e

theorem mostV_sound {mx : Bool} : ∀ {l l' : List Value} {x x' v : Value}, mostV mx l x = some v → VRels ρ l l' → VRel ρ x x' → ∃ v', (l'.foldlM (fun a b => cond mx (Builtin.max2 a b) (Builtin.min2 a b)) x' : Sem Value).run P w = .ok v' w ∧ VRel ρ v v'
  | [], _, x, x', v, e, .nil, hx => by
    have e' : some x = some v := e
    cases e'
    exact ⟨x', by simp, hx⟩
  | y :: l, _, x, x', v, e, .cons (v' := y') (l' := l') hy hl, hx => by
    have e' : (match most2 mx x y with
      | some z => mostV mx l z
      | none => none) = some v := e
    split at e'
    · rename_i z hz
      obtain ⟨h1, h2⟩ := most2_sound (P := P) (w := w) hz hx hy
      obtain ⟨v', h3, h4⟩ := mostV_sound e' hl (h2 : VRel ρ z z)
      refine ⟨v', ?_, h4⟩
      rw [List.foldlM_cons]
      simp only [Sem.run_bind, h1, Result.andThen_ok, h3]
    · cases e'

theorem mostOf_sound {mx : Bool} {l : List Value} {l' : Array Value} {v : Value} {ts : Array TypeId} {ty : TypeId} (e : mostOf mx l = some v) (hl : VRels ρ l l'.toList) : ∃ v', (cond mx (Builtin.max_ ts ty l') (Builtin.min_ ts ty l')).run P w = .ok v' w ∧ VRel ρ v v' := by
  obtain ⟨l'⟩ := l'
  cases hl with
  | nil => cases e
  | cons hx hr =>
    obtain ⟨v', h1, h2⟩ := mostV_sound e hr hx
    refine ⟨v', ?_, h2⟩
    cases mx
    · rw [cond_false]; exact h1
    · rw [cond_true]; exact h1

theorem byteCells_rels : ∀ (l : List UInt8), VRels ρ (byteCells l) (l.map fun b => .int .u8 (b.toNat : Int))
  | [] => .nil
  | b :: l => .cons (.int _ _) (byteCells_rels l)
theorem byteCells_length : ∀ (l : List UInt8), (byteCells l).length = l.length
  | [] => rfl
  | b :: l => by show (byteCells l).length + 1 = l.length + 1; rw [byteCells_length l]

theorem bytesA_spec {s d : TypeId} {x : Value} {e : TypeId} {l : List UInt8} (h : bytesA P s d x = some (e, l)) : ∃ b i, x = .string b ∧ l = b.data.toList ∧ P.underlying s = some .string ∧ P.underlying d = some (.slice e) ∧ P.underlying e = some (.int .u8) ∧ P.info? e = some i ∧ i.size = 1 ∧ l.length ≤ 1000000000 := by
  unfold bytesA at h
  split at h
  · rename_i h1
    split at h
    · rename_i e' h2
      split at h
      · rename_i h3
        split at h
        · rename_i i h4
          split at h
          · rename_i b
            obtain ⟨h5, h⟩ := cond_some h
            cases h
            obtain ⟨h6, h7⟩ := ble_and h5
            exact ⟨b, i, rfl, rfl, h1, h2, h3, h4, Nat.eq_of_beq_eq_true h6, Nat.le_of_ble_eq_true h7⟩
          · cases h
        · cases h
      · cases h
    · cases h
  · cases h

theorem bytesA_sound {h : AHeap} {s d : TypeId} {x x' : Value} {e : TypeId} {l : List UInt8} (st : Sim P base ρ h w) (hb : bytesA P s d x = some (e, l)) (hx : VRel ρ x x') : Gives P base ρ h w (convert s d x') (sliceTo h.next l.length) (h.new (.cells (byteCells l) e false)) := by
  obtain ⟨b, i, rfl, rfl, h1, h2, h3, h4, h5, h6⟩ := bytesA_spec hb
  rw [hx.string_inv]
  have hrun := run_bytes_of_string (P := P) w s d e b h1 h2 h3
  have hge := grownCap_ge w b.size 0 e
  have hsz : b.data.toList.length = b.size := Array.length_toList
  have hrow : (bytesRow b (grownCap w b.size 0 e)).size = grownCap w b.size 0 e := by
    unfold bytesRow
    rw [Array.size_append, Array.size_map, Array.size_replicate]
    have : b.data.size = b.size := rfl
    omega
  have d1 := st.drew
  have d2 := d1.sim.new (.cells (byteCells b.data.toList) e false) (.cells (bytesRow b (grownCap w b.size 0 e)) e ((bytesRow b (grownCap w b.size 0 e)).size, (bytesRow b (grownCap w b.size 0 e)).size + 1)) (P.cellsOf e) (bytesRow b (grownCap w b.size 0 e)).size
    ⟨fun q => (by cases q), rfl, rfl, (by
      refine CRel.mono (Ren.le_put d1.sim.unmet) ?_
      unfold bytesRow
      refine CRel.append_array ?_ _
      simpa using byteCells_rels (ρ := ρ) b.data.toList)⟩
  refine ⟨_, _, _, hrun, new_slice' (p := ⟨w.heap.size, 0, P.cellsOf e, (bytesRow b (grownCap w b.size 0 e)).size⟩) rfl (by omega) (by omega) ?_, d1.trans d2⟩
  show 0 + grownCap w b.size 0 e * P.cellsOf e ≤ (bytesRow b (grownCap w b.size 0 e)).size
  rw [hrow, cellsOf_eq h4, h5]
  omega

/-- an operation that comes to a value: as before, or it recovers -/
theorem opX_ok {x : InvX} {ev ev' : Operand → Value} {h h' : AHeap} {o : Oper} {q q' : Option Value} {v : Value} (hx : XOk P x) (st : Sim P base ρ h w) (hev : EvRel ρ ev ev') (hd : isDefer o.op = none) (e : opX P x o.op ev h q = .ok v h' q') :
    (Done P base ρ h w (execOp ev' o) v h' ∧ q' = q ∨ (execOp ev' o).run P w = .ok .recover w ∧ recX h q = .ok v h' q') ∧ ∀ c, o.op ≠ .defer c := by
  obtain ⟨dst, op, type, pos, after, guard⟩ := o
  have hnd : ∀ c, op ≠ .defer c := fun c hc => by subst hc; cases hd
  refine ⟨?_, hnd⟩
  have dflt : ∀ (op' : Op), op = op' → resOf q ((opC P op').f (fun _ _ _ => none) ev h) = .ok v h' q' → Done P base ρ h w (execOp ev' ⟨dst, op', type, pos, after, guard⟩) v h' ∧ q' = q := fun op' _ e => by
    obtain ⟨e1, e2⟩ := resOf_ok e
    exact ⟨(op_sound (o := ⟨dst, op', type, pos, after, guard⟩) (inv := fun _ _ _ => none) (fun _ _ _ _ _ _ _ _ _ _ e => by cases e) st hev e1).1, e2⟩
  cases op <;> simp only [opX] at e
  case call c =>
    have ha : VRels ρ (evs ev c.args.toList) (c.args.map ev').toList := by
      rw [Array.toList_map]; exact evs_rel hev _
    unfold callOpX at e
    split at e
    · rename_i f hc
      obtain ⟨e1, e2⟩ := callX_ok e
      refine .inl ⟨?_, e2⟩
      have := callV_sound (args' := c.args.map ev') hx.val st e1 (hev f) ha
      show Done P base ρ h w (do let d ← resolve ev' c type; invoke d.target d.args) v h'
      rw [resolve_value hc]; exact this
    · rename_i b hc
      split at e
      · refine .inr ⟨?_, e⟩
        show (do let d ← resolve ev' c type; invoke d.target d.args : Sem Next).run P w = _
        rw [resolve_builtin hc]
        rfl
      · obtain ⟨e1, e2⟩ := resOf_ok e
        obtain ⟨e3, e4⟩ := pv_inv e1
        refine .inl ⟨?_, e2⟩
        show Done P base ρ h w (do let d ← resolve ev' c type; invoke d.target d.args) v h'
        rw [resolve_builtin hc, e4]
        obtain ⟨v', k1, k2⟩ := mostOf_sound (P := P) (w := w) (ρ := ρ) (mx := true) (ts := c.argTypes) (ty := type) e3 ha
        refine ⟨ρ, v', w, .value ?_, k2, .refl st⟩
        show (do pure (.value (← Builtin.max_ c.argTypes type (c.args.map ev'))) : Sem Next).run P w = _
        rw [cond_true] at k1
        simp only [Sem.run_bind, k1, Result.andThen_ok, Sem.run_pure]
      · obtain ⟨e1, e2⟩ := resOf_ok e
        obtain ⟨e3, e4⟩ := pv_inv e1
        refine .inl ⟨?_, e2⟩
        show Done P base ρ h w (do let d ← resolve ev' c type; invoke d.target d.args) v h'
        rw [resolve_builtin hc, e4]
        obtain ⟨v', k1, k2⟩ := mostOf_sound (P := P) (w := w) (ρ := ρ) (mx := false) (ts := c.argTypes) (ty := type) e3 ha
        refine ⟨ρ, v', w, .value ?_, k2, .refl st⟩
        show (do pure (.value (← Builtin.min_ c.argTypes type (c.args.map ev'))) : Sem Next).run P w = _
        rw [cond_false] at k1
        simp only [Sem.run_bind, k1, Result.andThen_ok, Sem.run_pure]
      · obtain ⟨e1, e2⟩ := resOf_ok e
        refine .inl ⟨?_, e2⟩
        show Done P base ρ h w (do let d ← resolve ev' c type; invoke d.target d.args) v h'
        rw [resolve_builtin hc]
        exact builtin_sound st e1 ha
    · cases e
  case panic y =>
    unfold boomX at e
    split at e <;> cases e
  case convert s d y =>
    cases hb : bytesA P s d (ev y) with
    | some r =>
      obtain ⟨t, l⟩ := r
      rw [hb] at e
      dsimp only at e
      rw [AHeap.newK_eq] at e
      cases e
      exact .inl ⟨(bytesA_sound st hb (hev y)).done, rfl⟩
    | none =>
      rw [hb] at e
      exact .inl (dflt _ rfl e)
  case binOp op t y z yt =>
    cases hc : ((nilLit y || nilLit z) && (isNilI (ev y) && isNilI (ev z))) with
    | true =>
      rw [hc, cond_true] at e
      obtain ⟨e1, e2⟩ := resOf_ok e
      obtain ⟨e3, e4⟩ := pv_inv e1
      obtain ⟨k1, k2⟩ := ble_and hc
      obtain ⟨k3, k4⟩ := ble_and k2
      have n1 : ev' y = .nilIface := by
        have := hev y
        revert k3 this
        cases ev y <;> intro k3 this <;> first | exact this.nilIface_inv | cases k3
      have n2 : ev' z = .nilIface := by
        have := hev z
        revert k4 this
        cases ev z <;> intro k4 this <;> first | exact this.nilIface_inv | cases k4
      refine .inl ⟨?_, e2⟩
      rw [e4]
      have hb : ∃ b, v = .bool b := by
        unfold nilEq at e3
        split at e3
        · split at e3 <;> cases e3 <;> exact ⟨_, rfl⟩
        · cases e3
      obtain ⟨b, rfl⟩ := hb
      refine ⟨ρ, .bool b, w, .value ?_, .bool b, .refl st⟩
      show (do Pure.pure (.value (← (do eqGuard op t y z (ev' y) (ev' z); binOp op t (ev' y) (ev' z)))) : Sem Next).run P w = _
      rw [n1, n2]
      have := nilEq_sound (P := P) (w := w) e3 k1
      rw [Sem.run_bind, this]
      rfl
    | false =>
      rw [hc, cond_false] at e
      cases hs : shiftV op (ev y) (ev z) with
      | some u =>
        rw [hs] at e
        cases e
        obtain ⟨k1, k2⟩ := shift_sound (P := P) (w := w) (t := t) (x := y) (y := z) hs (hev y) (hev z)
        refine .inl ⟨⟨ρ, v, w, .value ?_, k2, .refl st⟩, rfl⟩
        show (do Pure.pure (.value (← (do eqGuard op t y z (ev' y) (ev' z); binOp op t (ev' y) (ev' z)))) : Sem Next).run P w = _
        rw [Sem.run_bind, k1]
        rfl
      | none =>
        rw [hs] at e
        exact .inl (dflt _ rfl e)
  all_goals exact .inl (dflt _ rfl e)

/-- an operation that panics -/
theorem opX_pan {x : InvX} {ev ev' : Operand → Value} {h h' : AHeap} {o : Oper} {q : Option Value} {v : Value} (hx : XOk P x) (st : Sim P base ρ h w) (hev : EvRel ρ ev ev') (hd : isDefer o.op = none) (e : opX P x o.op ev h q = .pan v h') :
    Pans P base ρ h w (execOp ev' o) v h' ∧ ∀ c, o.op ≠ .defer c := by
  obtain ⟨dst, op, type, pos, after, guard⟩ := o
  have hnd : ∀ c, op ≠ .defer c := fun c hc => by subst hc; cases hd
  refine ⟨?_, hnd⟩
  cases op <;> simp only [opX] at e
  case call c =>
    have ha : VRels ρ (evs ev c.args.toList) (c.args.map ev').toList := by
      rw [Array.toList_map]; exact evs_rel hev _
    unfold callOpX at e
    split at e
    · rename_i f hc
      show Pans P base ρ h w (do let d ← resolve ev' c type; invoke d.target d.args) v h'
      rw [resolve_value hc]
      exact callX_pans hx st e (hev f) ha
    · split at e
      · unfold recX at e; split at e <;> cases e
      · exact (resOf_pan e).elim
      · exact (resOf_pan e).elim
      · exact (resOf_pan e).elim
    · cases e
  case panic y =>
    unfold boomX at e
    split at e
    · rename_i t u hy
      cases e
      have hv := hev y
      rw [hy] at hv
      obtain ⟨u', hu, hrel⟩ := hv.iface_inv
      refine ⟨ρ, .iface t u', w, .now ?_, .iface hrel, .refl st⟩
      simp only [execOp, hu, Instr.panic]
      rfl
    · cases e
  case convert s d y =>
    cases hb : bytesA P s d (ev y) with
    | some r =>
      obtain ⟨t, l⟩ := r
      rw [hb] at e
      dsimp only at e
      rw [AHeap.newK_eq] at e
      cases e
    | none => rw [hb] at e; exact (resOf_pan e).elim
  case binOp op t y z yt =>
    cases hc : ((nilLit y || nilLit z) && (isNilI (ev y) && isNilI (ev z))) with
    | true => rw [hc, cond_true] at e; exact (resOf_pan e).elim
    | false =>
      rw [hc, cond_false] at e
      cases hs : shiftV op (ev y) (ev z) with
      | some u => rw [hs] at e; cases e
      | none => rw [hs] at e; exact (resOf_pan e).elim
  all_goals exact (resOf_pan e).elim
end Go.Ev
