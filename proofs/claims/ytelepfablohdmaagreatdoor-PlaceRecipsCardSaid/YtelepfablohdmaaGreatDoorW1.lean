/- What calls come to: no steps to count, no order to draw. Frames, regions, calls. -/
import Derived.Test.YtelepfablohdmaaGreatDoorEv27
set_option linter.unusedSimpArgs false
set_option linter.unusedVariables false
namespace Go.Ev

structure Pr where
  P : Program
  K : List Nat
  L : List Nat := []
  X : Inv → Inv := noX

noncomputable def Pr.inv (p : Pr) (n S : Nat) : Inv := Ev.inv p.P p.K ⟨S, true, p.L, p.X⟩ n

/-- a call comes to a value and a heap of which Q holds -/
def Wc (p : Pr) (fn : Fn) (args : List Value) (h : AHeap) (Q : Value → AHeap → Prop) : Prop :=
  ∃ v h', (∃ N, ∀ n S, N ≤ n → N ≤ S → p.inv n S fn args h = some (v, h')) ∧ Q v h'

theorem Wc.mono {p : Pr} {fn : Fn} {args : List Value} {h : AHeap} {Q Q' : Value → AHeap → Prop} (w : Wc p fn args h Q) (hq : ∀ v h', Q v h' → Q' v h') : Wc p fn args h Q' := by
  obtain ⟨v, h', hn, q⟩ := w
  exact ⟨v, h', hn, hq v h' q⟩

/-- a frame: its program, its function, how many slots it has, its round -/
structure Fx where
  p : Pr
  fn : FuncId
  size : Nat
  round : Option Nat
  mask : Nat
  full : ∀ t, t < size → bitOf mask t = true

noncomputable def Fx.ctx (F : Fx) (n S : Nat) : Ctx := ⟨F.p.P, F.p.inv n S, F.fn, F.size, F.round, F.mask⟩

/-- what the evaluator's tree, and a region's list ahead of it, say of a frame's slots -/
def Agr (l : Loc) (tr : Tr Value) (E : Loc) : Prop := ∀ t, l.look t (got (tr.get t)) = E.look t top
def Small (size : Nat) : Loc → Prop
  | .nil => True
  | .cons t _ r => t < size ∧ Small size r

noncomputable def evE (E : Loc) (x : Operand) : Value :=
  match x with
  | .tmp t => E.look t top
  | .const v => Bool.rec (motive := fun _ => Value) top v (constOk v)
  | .global _ => top
  | .func f => .func (.func f) #[] #[]

theorem evE_eq {l E : Loc} {tr : Tr Value} (h : Agr l tr E) : ev l tr = evE E := by
  funext x
  cases x with
  | tmp t => exact h t
  | _ => rfl

/-! ### operations -/
def noInv : Inv := fun _ _ _ => none

noncomputable def opE (P : Program) (op : Op) (E : Loc) (h : AHeap) : Option (Value × AHeap) := (opC P op).f noInv (evE E) h

theorem opC_noInv {P : Program} {op : Op} {e : Operand → Value} {h : AHeap} {r : Value × AHeap} (inv : Inv) (hr : (opC P op).f noInv e h = some r) : (opC P op).f inv e h = some r := by
  cases op with
  | call c =>
    revert hr
    show callOp P noInv e h c = some r → callOp P inv e h c = some r
    unfold callOp
    cases c.callee with
    | value f =>
      intro hr
      have h' : callV noInv (e f) (evs e c.args.toList) h = some r := hr
      unfold callV at h'
      split at h'
      · split at h' <;> cases h'
      · cases h'
    | builtin b => exact id
    | invoke a b => exact id
  | makeMap t r => cases r <;> exact hr
  | _ => exact hr

def opR (p : Pr) (op : Op) (E : Loc) (h : AHeap) (Q : Value → AHeap → Prop) : Prop :=
  ∃ v h', (∃ N, ∀ n S, N ≤ n → N ≤ S → (opC p.P op).f (p.inv n S) (evE E) h = some (v, h')) ∧ Q v h'

/-- if there is a value -/
def OptP (o : Option (Value × AHeap)) (Q : Value → AHeap → Prop) : Prop :=
  match o with
  | some r => Q r.1 r.2
  | none => False
theorem optP_some {v : Value} {h : AHeap} {Q : Value → AHeap → Prop} (q : Q v h) : OptP (some (v, h)) Q := q

theorem opR_pure {p : Pr} {op : Op} {E : Loc} {h : AHeap} {Q : Value → AHeap → Prop} (q : OptP (opE p.P op E h) Q) : opR p op E h Q := by
  unfold OptP at q
  split at q
  · rename_i r hr
    exact ⟨r.1, r.2, ⟨0, fun n S _ _ => opC_noInv _ hr⟩, q⟩
  · exact q.elim

/-- a call of a function's value -/
def CallP (p : Pr) (f : Value) (args : List Value) (h : AHeap) (Q : Value → AHeap → Prop) : Prop :=
  match f with
  | .func fn first captured => match fn with
    | .func g => Wc p (.func g) (first.toList ++ args ++ captured.toList) h Q
    | .yield l => Wc p (.yield l) args h Q
    | _ => False
  | _ => False

theorem callP_inv {p : Pr} {f : Value} {args : List Value} {h : AHeap} {Q : Value → AHeap → Prop} (c : CallP p f args h Q) :
    ∃ v h', (∃ N, ∀ n S, N ≤ n → N ≤ S → callV (p.inv n S) f args h = some (v, h')) ∧ Q v h' := by
  unfold CallP at c
  unfold callV
  split at c
  · split at c
    · exact c
    · exact c
    · exact c.elim
  · exact c.elim

theorem opR_call {p : Pr} {f : Operand} {as : Array Operand} {ts : Array TypeId} {E : Loc} {h : AHeap} {Q : Value → AHeap → Prop} (c : CallP p (evE E f) (evs (evE E) as.toList) h Q) : opR p (.call ⟨.value f, as, ts⟩) E h Q := callP_inv c

/-! ### regions -/
def Wo (F : Fx) (ops rest : List Oper) (E : Loc) (h : AHeap) (Q : Loc → AHeap → Prop) : Prop :=
  ∀ l tr, Small F.size l → Agr l tr E → ∃ l' h' E', Small F.size l' ∧ Agr l' tr E' ∧ (∃ N, ∀ n S, N ≤ n → N ≤ S → runOps F.p.P (F.p.inv n S) F.size ops tr rest l h = some (l', h')) ∧ Q E' h'

theorem wo_nil {F : Fx} {ops : List Oper} {E : Loc} {h : AHeap} {Q : Loc → AHeap → Prop} (q : Q E h) : Wo F ops [] E h Q :=
  fun l _ hs ha => ⟨l, h, E, hs, ha, ⟨0, fun _ _ _ _ => rfl⟩, q⟩

theorem small_put {size : Nat} {d : Option Tmp} {v : Value} {l : Loc} (h : Small size l) : Small size (putL size d v l) := by
  cases d with
  | none => exact h
  | some d =>
    show Small size (Bool.rec (motive := fun _ => Loc) l (.cons d v l) (Nat.blt d size))
    cases hb : Nat.blt d size with
    | false => exact h
    | true => exact ⟨blt_lt hb, h⟩

theorem agr_put {size : Nat} {d : Option Tmp} {v : Value} {l E : Loc} {tr : Tr Value} (h : Agr l tr E) : Agr (putL size d v l) tr (putL size d v E) := by
  intro t
  cases d with
  | none => exact h t
  | some d =>
    show (Bool.rec (motive := fun _ => Loc) l (.cons d v l) (Nat.blt d size) : Loc).look t _ = (Bool.rec (motive := fun _ => Loc) E (.cons d v E) (Nat.blt d size) : Loc).look t _
    cases Nat.blt d size with
    | false => exact h t
    | true =>
      show (Loc.cons d v l).look t _ = (Loc.cons d v E).look t _
      rw [look_cons, look_cons, h t]

noncomputable def wantsE (ops : List Oper) (E : Loc) (j : Nat) (want : Bool) : Option Bool :=
  match nth ops j with
  | some o => match o.dst with
    | some t => isB want (E.look t top)
    | none => some false
  | none => some false
theorem wants_eq {ops : List Oper} {l E : Loc} {tr : Tr Value} (h : Agr l tr E) (j : Nat) (want : Bool) : wantsAt ops l tr j want = wantsE ops E j want := by
  unfold wantsAt wantsE
  cases nth ops j with
  | none => rfl
  | some o =>
    dsimp only
    cases o.dst with
    | none => rfl
    | some t => dsimp only; rw [h t]

/-- one operation, its guard first -/
def opG (F : Fx) (ops : List Oper) (o : Oper) (E : Loc) (h : AHeap) (Q : Value → AHeap → Prop) : Prop :=
  match o.guard with
  | none => opR F.p o.op E h Q
  | some (j, want) => match wantsE ops E j want with
    | some true => opR F.p o.op E h Q
    | some false => Q undef h
    | none => False

theorem opG_inv {F : Fx} {ops : List Oper} {o : Oper} {l E : Loc} {tr : Tr Value} {h : AHeap} {Q : Value → AHeap → Prop} (ha : Agr l tr E) (q : opG F ops o E h Q) :
    ∃ v h', (∃ N, ∀ n S, N ≤ n → N ≤ S → oneOp F.p.P (F.p.inv n S) ops o l tr h = some (v, h')) ∧ Q v h' := by
  unfold opG at q
  unfold oneOp
  rw [evE_eq ha]
  split at q
  · rename_i hg
    rw [hg]
    exact q
  · rename_i j want hg
    rw [hg]
    dsimp only
    rw [wants_eq ha]
    split at q
    · rename_i hw
      rw [hw]
      exact q
    · rename_i hw
      rw [hw]
      exact ⟨undef, h, ⟨0, fun _ _ _ _ => rfl⟩, q⟩
    · exact q.elim

theorem wo_cons {F : Fx} {ops rest : List Oper} {o : Oper} {E : Loc} {h : AHeap} {Q : Loc → AHeap → Prop} (q : opG F ops o E h fun v h' => Wo F ops rest (putL F.size o.dst v E) h' Q) : Wo F ops (o :: rest) E h Q := by
  intro l tr hs ha
  obtain ⟨v, h', ⟨N, hN⟩, q⟩ := opG_inv ha q
  obtain ⟨l', h'', E', hs', ha', ⟨N', hN'⟩, q⟩ := q (putL F.size o.dst v l) tr (small_put hs) (agr_put ha)
  refine ⟨l', h'', E', hs', ha', ⟨max N N', fun n S hn hS => ?_⟩, q⟩
  rw [runOps_cons, hN n S (by omega) (by omega)]
  exact hN' n S (by omega) (by omega)

theorem opG_none {F : Fx} {ops : List Oper} {d : Option Tmp} {op : Op} {ty : TypeId} {pos : String} {aft : Array Edge} {E : Loc} {h : AHeap} {Q : Value → AHeap → Prop} (q : opR F.p op E h Q) : opG F ops ⟨d, op, ty, pos, aft, none⟩ E h Q := q
theorem opG_no {F : Fx} {ops : List Oper} {d : Option Tmp} {op : Op} {ty : TypeId} {pos : String} {aft : Array Edge} {j : Nat} {want : Bool} {E : Loc} {h : AHeap} {Q : Value → AHeap → Prop} (hw : wantsE ops E j want = some false) (q : Q undef h) : opG F ops ⟨d, op, ty, pos, aft, some (j, want)⟩ E h Q := by
  unfold opG; dsimp only; rw [hw]; exact q

/-! ### frames -/
def Wk (F : Fx) (E : Loc) (ds : List Deferred) (h : AHeap) (todo : List Item) (Q : Loc → List Deferred → AHeap → List Item → Prop) : Prop :=
  ∀ tr, Agr .nil tr E → ∃ st E', Agr .nil st.tr E' ∧ (∃ N, ∀ n S m, N ≤ n → N ≤ S → N ≤ m → runF (F.ctx n S) m tr ds h todo = some st) ∧ Q E' st.defers st.h st.todo

variable {F : Fx} {E : Loc} {ds : List Deferred} {h : AHeap} {k : List Item} {Q : Loc → List Deferred → AHeap → List Item → Prop}

theorem wk_nil (q : Q E ds h []) : Wk F E ds h [] Q := fun tr ha => ⟨⟨tr, [], ds, h⟩, E, ha, ⟨1, fun n S m _ _ hm => by
  obtain ⟨m, rfl⟩ : ∃ m', m = m' + 1 := ⟨m - 1, by omega⟩
  rfl⟩, q⟩

theorem wk_go {x : Item} {todo : List Item} (hx : ∀ (c : Ctx) (tr : Tr Value), (itemC x).f c tr ds h k = .go todo) (w : Wk F E ds h todo Q) : Wk F E ds h (x :: k) Q := by
  intro tr ha
  obtain ⟨st, E', ha', ⟨N, hN⟩, q⟩ := w tr ha
  refine ⟨st, E', ha', ⟨N + 1, fun n S m hn hS hm => ?_⟩, q⟩
  obtain ⟨m, rfl⟩ : ∃ m', m = m' + 1 := ⟨m - 1, by omega⟩
  rw [runF_cons, hx]
  exact hN n S m (by omega) (by omega) (by omega)

theorem wk_set {x : Item} {todo : List Item} {ds' : List Deferred} {h' : AHeap} (hx : ∀ (n S : Nat) (tr : Tr Value), (itemC x).f (F.ctx n S) tr ds h k = .set tr h' todo ds') (w : Wk F E ds' h' todo Q) : Wk F E ds h (x :: k) Q := by
  intro tr ha
  obtain ⟨st, E', ha', ⟨N, hN⟩, q⟩ := w tr ha
  refine ⟨st, E', ha', ⟨N + 1, fun n S m hn hS hm => ?_⟩, q⟩
  obtain ⟨m, rfl⟩ : ∃ m', m = m' + 1 := ⟨m - 1, by omega⟩
  rw [runF_cons, hx]
  exact hN n S m (by omega) (by omega) (by omega)

theorem wk_done {x : Item} (hx : ∀ (c : Ctx) (tr : Tr Value), (itemC x).f c tr ds h k = .done) (q : Q E ds h (x :: k)) : Wk F E ds h (x :: k) Q := fun tr ha => ⟨⟨tr, x :: k, ds, h⟩, E, ha, ⟨1, fun n S m _ _ hm => by
  obtain ⟨m, rfl⟩ : ∃ m', m = m' + 1 := ⟨m - 1, by omega⟩
  rw [runF_cons, hx]
  rfl⟩, q⟩

theorem wk_skip (w : Wk F E ds h k Q) : Wk F E ds h (.code .skip :: k) Q := wk_go (fun _ _ => rfl) w
theorem wk_label {l : Nat} (w : Wk F E ds h k Q) : Wk F E ds h (.code (.label l) :: k) Q := wk_go (fun _ _ => rfl) w
theorem wk_seq {a b : Code} (w : Wk F E ds h (.code a :: .code b :: k) Q) : Wk F E ds h (.code (.seq a b) :: k) Q := wk_go (fun _ _ => rfl) w
theorem wk_block {id : Nat} {b : Code} (w : Wk F E ds h (.code b :: .inBlock id :: k) Q) : Wk F E ds h (.code (.block id b) :: k) Q := wk_go (fun _ _ => rfl) w
theorem wk_scope {b : Code} (w : Wk F E ds h (.code b :: .inScope b :: k) Q) : Wk F E ds h (.code (.scope b) :: k) Q := wk_go (fun _ _ => rfl) w
theorem wk_inBlock {id : Nat} (w : Wk F E ds h k Q) : Wk F E ds h (.inBlock id :: k) Q := wk_go (fun _ _ => rfl) w
theorem wk_inScope {b : Code} (w : Wk F E ds h k Q) : Wk F E ds h (.inScope b :: k) Q := wk_go (fun _ _ => rfl) w
theorem wk_toLoop {b : Code} (w : Wk F E ds h (.code b :: .inLoop b :: k) Q) : Wk F E ds h (.code (.loop b) :: k) Q := wk_go (fun _ _ => rfl) w
theorem wk_inLoop {b : Code} (w : Wk F E ds h (.code b :: .inLoop b :: k) Q) : Wk F E ds h (.inLoop b :: k) Q := wk_go (fun _ _ => rfl) w
/-- where a jump leads -/
def ExitK (id : Nat) (C : List Item → Prop) (k : List Item) : Prop :=
  match exitTo id k with
  | some todo => C todo
  | none => False
theorem exitK_code {id : Nat} {C : List Item → Prop} {c : Code} (w : ExitK id C k) : ExitK id C (.code c :: k) := w
theorem exitK_inLoop {id : Nat} {C : List Item → Prop} {c : Code} (w : ExitK id C k) : ExitK id C (.inLoop c :: k) := w
theorem exitK_inScope {id : Nat} {C : List Item → Prop} {c : Code} (w : ExitK id C k) : ExitK id C (.inScope c :: k) := w
theorem exitK_hit {id : Nat} {C : List Item → Prop} (w : C k) : ExitK id C (.inBlock id :: k) := by
  have : exitTo id (.inBlock id :: k) = some k := by unfold exitTo; simp
  unfold ExitK
  rw [this]
  exact w
theorem exitK_miss {id id' : Nat} {C : List Item → Prop} (hb : Nat.beq id' id = false) (w : ExitK id C k) : ExitK id C (.inBlock id' :: k) := by
  have hb' : ¬ id' = id := fun e => by subst e; rw [Nat.beq_refl] at hb; cases hb
  have : exitTo id (.inBlock id' :: k) = exitTo id k := by
    show (if (id' == id) = true then some k else exitTo id k) = _
    rw [if_neg (by simpa using hb')]
  unfold ExitK
  rw [this]
  exact w
theorem wk_exit {id : Nat} (w : ExitK id (fun todo => Wk F E ds h todo Q) k) : Wk F E ds h (.code (.exit id) :: k) Q := by
  unfold ExitK at w
  split at w
  · rename_i he
    exact wk_go (fun _ _ => by show exitNx (exitTo id k) = _; rw [he]; rfl) w
  · exact w.elim
theorem wk_ret (q : Q E ds h (.code .ret :: k)) : Wk F E ds h (.code .ret :: k) Q := wk_done (fun _ _ => rfl) q

/-- a test -/
def CondP (v : Value) (A B : Prop) : Prop :=
  match v with
  | .bool true => A
  | .bool false => B
  | _ => False
theorem condP_true {b : Bool} {A B : Prop} (hb : b = true) (a : A) : CondP (.bool b) A B := by subst hb; exact a
theorem condP_false {b : Bool} {A B : Prop} (hb : b = false) (a : B) : CondP (.bool b) A B := by subst hb; exact a
theorem condP_bool {b : Bool} {A B : Prop} (ht : b = true → A) (hf : b = false → B) : CondP (.bool b) A B := by
  cases b with
  | true => exact ht rfl
  | false => exact hf rfl
theorem condP_yes {c : Prop} [Decidable c] {A B : Prop} (hc : c) (a : A) : CondP (.bool (decide c)) A B := condP_true (decide_eq_true hc) a
theorem condP_no {c : Prop} [Decidable c] {A B : Prop} (hc : ¬ c) (a : B) : CondP (.bool (decide c)) A B := condP_false (decide_eq_false hc) a
theorem condP_dec {c : Prop} [Decidable c] {A B : Prop} (ht : c → A) (hf : ¬ c → B) : CondP (.bool (decide c)) A B :=
  condP_bool (fun e => ht (of_decide_eq_true e)) (fun e => hf (of_decide_eq_false e))

theorem condP_decn {c : Prop} [Decidable (¬ c)] {A B : Prop} (ht : ¬ c → A) (hf : c → B) : CondP (.bool (decide (¬ c))) A B :=
  condP_bool (fun e => ht (of_decide_eq_true e)) (fun e => hf (Classical.not_not.1 (of_decide_eq_false e)))
theorem condP_non {c : Prop} [Decidable (¬ c)] {A B : Prop} (hc : c) (a : B) : CondP (.bool (decide (¬ c))) A B := condP_no (fun h => h hc) a

theorem wk_cond {v : Operand} {a b : Code} (w : CondP (evE E v) (Wk F E ds h (.code a :: k) Q) (Wk F E ds h (.code b :: k) Q)) : Wk F E ds h (.code (.cond v a b) :: k) Q := by
  intro tr ha
  unfold CondP at w
  have hv : ev .nil tr v = evE E v := by rw [evE_eq ha]
  split at w
  · rename_i hb
    obtain ⟨st, E', ha', ⟨N, hN⟩, q⟩ := w tr ha
    refine ⟨st, E', ha', ⟨N + 1, fun n S m hn hS hm => ?_⟩, q⟩
    obtain ⟨m, rfl⟩ : ∃ m', m = m' + 1 := ⟨m - 1, by omega⟩
    rw [runF_cons]
    show nextF tr ds h _ k _ (condNx (ev .nil tr v) a b k) = _
    rw [hv, hb]
    exact hN n S m (by omega) (by omega) (by omega)
  · rename_i hb
    obtain ⟨st, E', ha', ⟨N, hN⟩, q⟩ := w tr ha
    refine ⟨st, E', ha', ⟨N + 1, fun n S m hn hS hm => ?_⟩, q⟩
    obtain ⟨m, rfl⟩ : ∃ m', m = m' + 1 := ⟨m - 1, by omega⟩
    rw [runF_cons]
    show nextF tr ds h _ k _ (condNx (ev .nil tr v) a b k) = _
    rw [hv, hb]
    exact hN n S m (by omega) (by omega) (by omega)
  · exact w.elim

theorem agr_flush {size mask : Nat} {tr : Tr Value} {E : Loc} (full : ∀ t, t < size → bitOf mask t = true) {l : Loc} (hs : Small size l) (ha : Agr l tr E) : Agr .nil (l.flushed mask tr) E := by
  have key : ∀ (l : Loc), Small size l → ∀ t, got ((l.flushed mask tr).get t) = l.look t (got (tr.get t)) := by
    intro l
    induction l with
    | nil => intro _ t; rfl
    | cons t' v l ih =>
      intro hs t
      rw [flushed_cons, full t' hs.1]
      show got (((l.flushed mask tr).set t' v).get t) = _
      rw [Tr.get_set, look_cons]
      by_cases e : t' = t
      · rw [if_pos e, if_pos e]; rfl
      · rw [if_neg e, if_neg e]; exact ih hs.2 t
  intro t
  show got ((l.flushed mask tr).get t) = _
  rw [key l hs t]
  exact ha t

theorem region_go {ops : Array Oper} {id : Nat} {draw : Bool} (w : Wo F ops.toList ops.toList E h fun E' h' => Wk F E' ds h' k Q)
    (hx : ∀ (n S : Nat) (tr : Tr Value) r, runOps F.p.P (F.p.inv n S) F.size ops.toList tr ops.toList .nil h = some r → (itemC (.code (.region id ops draw))).f (F.ctx n S) tr ds h k = regionNx F.mask tr k ds (some r)) : Wk F E ds h (.code (.region id ops draw) :: k) Q := by
  intro tr ha
  obtain ⟨l', h', E', hs', ha', ⟨N, hN⟩, w⟩ := w .nil tr trivial ha
  obtain ⟨st, E'', ha'', ⟨N', hN'⟩, q⟩ := w (l'.flushed F.mask tr) (agr_flush F.full hs' ha')
  refine ⟨st, E'', ha'', ⟨max N N' + 1, fun n S m hn hS hm => ?_⟩, q⟩
  obtain ⟨m, rfl⟩ : ∃ m', m = m' + 1 := ⟨m - 1, by omega⟩
  rw [runF_cons, hx n S tr _ (hN n S (by omega) (by omega))]
  unfold regionNx
  dsimp only
  rw [flushK_eq]
  exact hN' n S m (by omega) (by omega) (by omega)

theorem wk_region {ops : Array Oper} {id : Nat} (w : Wo F ops.toList ops.toList E h fun E' h' => Wk F E' ds h' k Q) : Wk F E ds h (.code (.region id ops false) :: k) Q :=
  region_go w fun n S tr r hr => by
    show regionNx F.mask tr k ds (runOps F.p.P (F.p.inv n S) F.size ops.toList tr ops.toList .nil h) = _
    rw [hr]

theorem wk_draw {ops : Array Oper} {id : Nat} (hd : drawOk ops.toList = true) (hq : quietB ops.toList = true) (w : Wo F ops.toList ops.toList E h fun E' h' => Wk F E' ds h' k Q) : Wk F E ds h (.code (.region id ops true) :: k) Q :=
  region_go w fun n S tr r hr => by
    show regionNx F.mask tr k ds (runAny F.p.P (F.p.inv n S) F.size ops.toList tr h) = _
    unfold runAny
    rw [hd, hq]
    show regionNx F.mask tr k ds (runOps F.p.P (F.p.inv n S) F.size ops.toList tr ops.toList .nil h) = _
    rw [hr]

/-- a loop: what holds at its head, and a number that falls from round to round -/
theorem wk_loop {b : Code} (I : Nat → Loc → AHeap → Prop) (n0 : Nat) (h0 : I n0 E h)
    (round : ∀ n E h, I n E h → (∀ n' E' h', n' < n → I n' E' h' → Wk F E' ds h' (.inLoop b :: k) Q) → Wk F E ds h (.code b :: .inLoop b :: k) Q) : Wk F E ds h (.code (.loop b) :: k) Q := by
  refine wk_toLoop ?_
  have key : ∀ n E h, I n E h → Wk F E ds h (.code b :: .inLoop b :: k) Q := by
    intro n
    induction n using Nat.strongRecOn with
    | _ n ih => exact fun E h hi => round n E h hi fun n' E' h' hlt hi' => wk_inLoop (ih n' hlt E' h' hi')
  exact key n0 E h h0

/-! ### calls of functions -/
def argsE : List Value → Nat → Loc
  | [], _ => .nil
  | v :: l, i => .cons i v (argsE l (i + 1))

theorem argsE_look : ∀ {l : List Value} {i t : Nat} {d : Value}, t < i → (argsE l i).look t d = d
  | [], _, _, _, _ => rfl
  | v :: l, i, t, d, h => by
    show (Loc.cons i v (argsE l (i + 1))).look t d = d
    rw [look_cons, if_neg (by omega)]
    exact argsE_look (by omega)

theorem treeOf_agr : ∀ (l : List Value) (i : Nat) (tr : Tr Value) (t : Nat), got ((treeOf l i tr).get t) = (argsE l i).look t (got (tr.get t))
  | [], _, _, _ => rfl
  | v :: l, i, tr, t => by
    show got ((Tr.setK tr i v fun tr => treeOf l (Nat.succ i) tr).get t) = (Loc.cons i v (argsE l (i + 1))).look t _
    rw [Tr.setK_eq, treeOf_agr l (Nat.succ i), look_cons, Tr.get_set]
    by_cases e : i = t
    · rw [if_pos e, if_pos e]
      exact argsE_look (by show t < i + 1; omega)
    · rw [if_neg e, if_neg e]

noncomputable def resE (P : Program) (E : Loc) (h : AHeap) (r : ResultVar) : Option Value :=
  match r with
  | .tmp t => some (E.look t top)
  | .cell a t => cellV P h t (E.look a top)

noncomputable def resEs (P : Program) (E : Loc) (h : AHeap) : List ResultVar → Option (List Value)
  | [] => some []
  | r :: rs =>
    match resE P E h r, resEs P E h rs with
    | some v, some vs => some (v :: vs)
    | _, _ => none

theorem resAll_eq {P : Program} {tr : Tr Value} {E : Loc} {h : AHeap} (ha : Agr .nil tr E) : ∀ rs, resAll P tr h rs = resEs P E h rs
  | [] => rfl
  | r :: rs => by
    have hr : resV P tr h r = resE P E h r := by
      cases r with
      | tmp t => show some (ev .nil tr (.tmp t)) = _; rw [evE_eq ha]; rfl
      | cell a t => show cellV P h t (ev .nil tr (.tmp a)) = _; rw [evE_eq ha]; rfl
    show (match resV P tr h r, resAll P tr h rs with
      | some v, some vs => some (v :: vs)
      | _, _ => none) = _
    rw [hr, resAll_eq ha rs]
    rfl

/-- on the way out of a function -/
def GiveP (P : Program) (rs : List ResultVar) (Q : Value → AHeap → Prop) (E : Loc) (ds : List Deferred) (h : AHeap) (todo : List Item) : Prop :=
  retOk todo = true ∧ ∃ h2 vs, unwindA ds h = some h2 ∧ resEs P E h2 rs = some vs ∧ Q (asResult vs) h2

theorem full_ones (n : Nat) : ∀ t, t < n → bitOf (Nat.sub (Nat.shiftLeft 1 n) 1) t = true := fun t h => by
  rw [bitOf_eq]
  show ((1 <<< n) - 1).testBit t = true
  rw [Nat.one_shiftLeft, Nat.testBit_two_pow_sub_one]
  exact decide_eq_true h

def Fx.func (p : Pr) (f : FuncId) (size : Nat) : Fx := ⟨p, f, size, none, Nat.sub (Nat.shiftLeft 1 size) 1, full_ones size⟩

theorem wc_func {p : Pr} {f : FuncId} {fn : Func} {body : Code} {args : List Value} {h : AHeap} {Q : Value → AHeap → Prop} (hf : p.P.funcs[f]? = some fn) (hb : fn.body = some body) (hK : isIn p.K f = false)
    (h1 : Nat.ble args.length (fn.params.size + fn.nfree) = true) (h2 : Nat.ble args.length fn.ntmps = true)
    (w : Wk (Fx.func p f fn.ntmps) (argsE args 0) [] h [.code body] (GiveP p.P fn.results.toList Q)) (hL : isIn p.L f = false := by rfl) : Wc p (.func f) args h Q := by
  obtain ⟨st, E', ha', ⟨N, hN⟩, hret, h2', vs, hu, hr, q⟩ := w (treeOf args 0 .lf) (fun t => treeOf_agr args 0 .lf t)
  refine ⟨asResult vs, h2', ⟨N + 1, fun n S hn hS => ?_⟩, q⟩
  obtain ⟨n, rfl⟩ : ∃ m', n = m' + 1 := ⟨n - 1, by omega⟩
  show cond (isIn p.L f) (p.X (p.inv n S) (.func f) args h) (cond (isIn p.K f && noArgs args) (some (.bool true, h)) (match funcAt p.P f with
      | some (fn, body) => enterF p.P ⟨S, true, p.L, p.X⟩ (Ev.inv p.P p.K ⟨S, true, p.L, p.X⟩ n) f fn body args h
      | none => none)) = _
  rw [hL, cond_false, hK, Bool.false_and, cond_false]
  have hfa : funcAt p.P f = some (fn, body) := by
    unfold funcAt
    rw [nth_eq, Array.getElem?_toList, hf]
    dsimp only
    rw [hb]
  rw [hfa]
  dsimp only
  unfold enterF
  rw [frmOf_eq]
  dsimp only
  rw [h1, h2]
  have hrun := hN n S S (by omega) (by omega) (by omega)
  have hrun' : runF ⟨p.P, Ev.inv p.P p.K ⟨S, true, p.L, p.X⟩ n, f, fn.ntmps, none, maskOf ⟨S, true, p.L, p.X⟩ fn body⟩ S (treeOf args 0 .lf) [] h [.code body] = some st := hrun
  show (match runF ⟨p.P, Ev.inv p.P p.K ⟨S, true, p.L, p.X⟩ n, f, fn.ntmps, none, maskOf ⟨S, true, p.L, p.X⟩ fn body⟩ S (treeOf args 0 .lf) [] h [.code body] with
      | some ⟨tr, todo, defers, h⟩ => giveBack p.P fn tr todo defers h
      | none => none) = _
  rw [hrun']
  show giveBack p.P fn st.tr st.todo st.defers st.h = _
  unfold giveBack
  rw [hret, cond_true, hu]
  dsimp only
  rw [resAll_eq ha', hr]

/-- a closed call that is known -/
theorem wc_known {p : Pr} {f : FuncId} {h : AHeap} {Q : Value → AHeap → Prop} (hK : isIn p.K f = true) (q : Q (.bool true) h) (hL : isIn p.L f = false := by rfl) : Wc p (.func f) [] h Q := by
  refine ⟨_, _, ⟨1, fun n S hn hS => ?_⟩, q⟩
  obtain ⟨n, rfl⟩ : ∃ m', n = m' + 1 := ⟨n - 1, by omega⟩
  show cond (isIn p.L f) (p.X (p.inv n S) (.func f) [] h) (cond (isIn p.K f && noArgs []) (some (Value.bool true, h)) (match funcAt p.P f with
      | some (fn, body) => enterF p.P ⟨S, true, p.L, p.X⟩ (Ev.inv p.P p.K ⟨S, true, p.L, p.X⟩ n) f fn body [] h
      | none => none)) = _
  rw [hL, hK]
  rfl

/-- a function that something else stands in for -/
theorem wc_x {p : Pr} {f : FuncId} {args : List Value} {h h' : AHeap} {v : Value} {Q : Value → AHeap → Prop} (hL : isIn p.L f = true) (hx : ∃ N, ∀ n S, N ≤ n → N ≤ S → p.X (p.inv n S) (.func f) args h = some (v, h')) (q : Q v h') : Wc p (.func f) args h Q := by
  obtain ⟨N, hN⟩ := hx
  refine ⟨v, h', ⟨N + 1, fun n S hn hS => ?_⟩, q⟩
  obtain ⟨n, rfl⟩ : ∃ m', n = m' + 1 := ⟨n - 1, by omega⟩
  show cond (isIn p.L f) (p.X (p.inv n S) (.func f) args h) (cond (isIn p.K f && noArgs args) (some (Value.bool true, h)) (match funcAt p.P f with
      | some (fn, body) => enterF p.P ⟨S, true, p.L, p.X⟩ (Ev.inv p.P p.K ⟨S, true, p.L, p.X⟩ n) f fn body args h
      | none => none)) = _
  rw [hL, cond_true]
  exact hN n S (by omega) (by omega)

theorem give_nil {P : Program} {rs : List ResultVar} {Q : Value → AHeap → Prop} {E : Loc} {h : AHeap} {todo : List Item} {vs : List Value} (hr : retOk todo = true) (he : resEs P E h rs = some vs) (q : Q (asResult vs) h) : GiveP P rs Q E [] h todo :=
  ⟨hr, h, vs, rfl, he, q⟩

/-! ### from the evaluator to the model -/
theorem Wc.calls {p : Pr} {base : Nat} {ρ : Ren} {w : World} {f : FuncId} {fn : Func} {body : Code} {args args' : List Value} {h : AHeap} {Q : Value → AHeap → Prop} (hm : p.P.follows .mixedOrders = true) (hnum : NoNum p.P) (hK : ShutAll p.P p.K) (hf : p.P.funcs[f]? = some fn) (hb : fn.body = some body) (hno : isIn p.K f = false)
    (ha : VRels ρ args args') (st : Sim p.P base ρ h w) (c : Wc p (.func f) args h Q) (hL : isIn p.L f = false := by rfl) (hX : XGood p.P p.X := by exact noX_good _) : Calls p.P f args'.toArray w fun e w' => ∃ ρ' v v' h', e = .returned v' ∧ VRel ρ' v v' ∧ Went p.P base ρ h w ρ' h' w' ∧ Q v h' := by
  obtain ⟨v, h', ⟨N, hN⟩, q⟩ := c
  have e := hN (N + 1) N (by omega) (by omega)
  have e' : cond (isIn p.L f) (p.X (p.inv N N) (.func f) args h) (cond (isIn p.K f && noArgs args) (some (.bool true, h)) (match funcAt p.P f with
      | some (fn, body) => enterF p.P ⟨N, true, p.L, p.X⟩ (Ev.inv p.P p.K ⟨N, true, p.L, p.X⟩ N) f fn body args h
      | none => none)) = some (v, h') := e
  rw [hL, cond_false, hno, Bool.false_and, cond_false] at e'
  have hfa : funcAt p.P f = some (fn, body) := by
    unfold funcAt
    rw [nth_eq, Array.getElem?_toList, hf]
    dsimp only
    rw [hb]
  rw [hfa] at e'
  dsimp only at e'
  obtain ⟨ρ', v', w', h1, h2, h3⟩ := enterF_leaves hm hnum (inv_ok hX hm hnum hK N) hf hb ha st e'
  intro cs
  obtain ⟨fr, k1, k2, k3⟩ := h1 cs
  exact ⟨_, w', fr, ⟨ρ', v, v', h', rfl, h2, h3, q⟩, k1, k2, k3⟩
end Go.Ev
