/- Known calls that come to a list of plain values: what stands in for them. -/
import Derived.Test.YtelepfablohdmaaGreatDoorEv26
import Derived.Defers
import Derived.Laws.IdiomStrings
import Derived.Recover
import Derived.Test.YtelepfablohdmaaGreatDoorW1
set_option linter.unusedSimpArgs false
set_option linter.unusedVariables false
/- The evaluator with panics: what a computation comes to, and how frames are unwound. -/
namespace Go.Ev
noncomputable section

/-- what a call comes to: a value, the heap, and what recover would still give; a panic with a value; or it cannot be told -/
inductive ResV where
  | ok (v : Value) (h : AHeap) (q : Option Value)
  | pan (v : Value) (h : AHeap)
  | no

/-- how a function is called: as usual, or as a deferred call, with what recover gives there -/
inductive Md where
  | norm
  | defd (q : Option Value)

def Md.q (m : Md) : Option Value :=
  match m with
  | .norm => none
  | .defd q => q

abbrev InvX := Md → Fn → List Value → AHeap → ResV

def plainR (r : ResV) : Option (Value × AHeap) :=
  match r with
  | .ok v h _ => some (v, h)
  | _ => none

/-- the calls that come to a value -/
def asInv (x : InvX) : Inv := fun fn args h => plainR (x .norm fn args h)

def resOf (q : Option Value) (o : Option (Value × AHeap)) : ResV :=
  match o with
  | some (v, h) => .ok v h q
  | none => .no

def callX (x : InvX) (f : Value) (args : List Value) (h : AHeap) (q : Option Value) : ResV :=
  match f with
  | .func fn first captured => match fn with
    | .func g => match x .norm (.func g) (first.toList ++ args ++ captured.toList) h with
      | .ok v h _ => .ok v h q
      | .pan v h => .pan v h
      | .no => .no
    | .yield l => resOf q (asInv x (.yield l) args h)
    | _ => .no
  | _ => .no

def boomX (v : Value) (h : AHeap) : ResV :=
  match v with
  | .iface t u => .pan (.iface t u) h
  | _ => .no

/-- recover: what it gives; from then on it gives nothing -/
def recX (h : AHeap) (q : Option Value) : ResV :=
  match q with
  | some v => .ok v h none
  | none => .ok .nilIface h none

def callOpX (P : Program) (x : InvX) (ev : Operand → Value) (h : AHeap) (q : Option Value) (c : Call) : ResV :=
  match c.callee with
  | .value f => callX x (ev f) (evs ev c.args.toList) h q
  | .builtin b => match b with
    | .recover => recX h q
    | .max => resOf q (pv h (mostOf true (evs ev c.args.toList)))
    | .min => resOf q (pv h (mostOf false (evs ev c.args.toList)))
    | b => resOf q (builtinOp P h b c.argTypes.toList (evs ev c.args.toList))
  | .invoke _ _ => .no

/-- is it a constant of the text? -/
def nilLit (x : Operand) : Bool :=
  match x with
  | .const _ => true
  | _ => false
def isNilI (v : Value) : Bool :=
  match v with
  | .nilIface => true
  | _ => false
/-- two nil values of an interface type, one of them a constant of the text -/
def nilEq (P : Program) (op : BinOp) (t : TypeId) : Option Value :=
  match P.underlying t with
  | some (.interface _) => match op with
    | .eql => some (.bool true)
    | .neq => some (.bool false)
    | _ => none
  | _ => none

/-- a string as bytes: the type of the cells, and the bytes -/
def bytesA (P : Program) (s d : TypeId) (x : Value) : Option (TypeId × List UInt8) :=
  match P.underlying s with
  | some .string => match P.underlying d with
    | some (.slice e) => match P.underlying e with
      | some (.int .u8) => match P.info? e with
        | some i => match x with
          | .string b => cond (Nat.beq i.size 1 && Nat.ble b.data.toList.length 1000000000) (some (e, b.data.toList)) none
          | _ => none
        | none => none
      | _ => none
    | _ => none
  | _ => none
def byteCells (l : List UInt8) : List Value := List.rec (motive := fun _ => List Value) [] (fun b _ ih => .int .u8 (Int.ofNat b.toNat) :: ih) l

/-- an operation -/
def opX (P : Program) (x : InvX) (op : Op) (ev : Operand → Value) (h : AHeap) (q : Option Value) : ResV :=
  match op with
  | .call c => callOpX P x ev h q c
  | .panic v => boomX (ev v) h
  | .convert s d y => match bytesA P s d (ev y) with
    | some (e, l) => h.newK (.cells (byteCells l) e false) fun b h => .ok (sliceTo b l.length) h q
    | none => resOf q ((opC P (.convert s d y)).f (fun _ _ _ => none) ev h)
  | .binOp op t y z u => cond ((nilLit y || nilLit z) && (isNilI (ev y) && isNilI (ev z))) (resOf q (pv h (nilEq P op t))) (match shiftV op (ev y) (ev z) with
    | some v => .ok v h q
    | none => resOf q ((opC P (.binOp op t y z u)).f (fun _ _ _ => none) ev h))
  | op => resOf q ((opC P op).f (fun _ _ _ => none) ev h)

/-- a deferred call of a function -/
def deferOf (f : Value) (args : List Value) : Option Deferred :=
  match f with
  | .func fn first captured => match fn with
    | .func g => some { target := .fn (.func g) captured, args := ⟨first.toList ++ args⟩ }
    | _ => none
  | _ => none

def deferX (ev : Operand → Value) (c : Call) : Option Deferred :=
  match c.callee with
  | .value f => deferOf (ev f) (evs ev c.args.toList)
  | _ => none

/-- a list, cell by cell -/
def forceL {β : Type} (l : List Value) : (List Value → β) → β :=
  List.rec (motive := fun _ => (List Value → β) → β) (fun k => k []) (fun v _ ih k => forceV v fun v => ih fun l => k (v :: l)) l
/-- a block's cells, each of them -/
def forceB {β : Type} (h : AHeap) (b : Nat) (k : AHeap → β) : β :=
  match h.get b with
  | some (.cells c e rw) => forceL c fun c => h.setK b (.cells c e rw) k
  | _ => k h

def blockOf (v : Value) : Option Nat :=
  match v with
  | .pointer (some a) => some a.block
  | .slice (some a) _ _ => some a.block
  | _ => none

/-- the block that an operation has written, or made -/
def target (op : Op) (ev : Operand → Value) (v : Value) : Option Nat :=
  match op with
  | .store _ x _ => blockOf (ev x)
  | .box _ _ => blockOf v
  | .buildSlice _ _ _ => blockOf v
  | .call c => match c.callee with
    | .builtin b => match b with
      | .append => blockOf v
      | .copy => match c.args.toList with
        | x :: _ => blockOf (ev x)
        | [] => none
      | _ => none
    | _ => none
  | _ => none

def finX (op : Op) (ev : Operand → Value) (r : ResV) : ResV :=
  match r with
  | .ok v h q => match target op ev v with
    | some b => forceB h b fun h => .ok v h q
    | none => .ok v h q
  | r => r

/-- what a region comes to -/
inductive ResR where
  | ok (l : Loc) (h : AHeap) (q : Option Value) (ds : List Deferred)
  | pan (v : Value) (l : Loc) (h : AHeap) (q : Option Value) (ds : List Deferred)
  | no

/-- the deferred call that an operation is, if it is one -/
def isDefer (op : Op) : Option Call :=
  match op with
  | .defer c => some c
  | _ => none

/-- one operation that is wanted -/
def goX (P : Program) (x : InvX) (size : Nat) (o : Oper) (tr : Tr Value) (l : Loc) (h : AHeap) (q : Option Value) (ds : List Deferred) (k : Loc → AHeap → Option Value → List Deferred → ResR) : ResR :=
  match isDefer o.op with
  | some c => match deferX (ev l tr) c with
    | some d => k (putL size o.dst undef l) h q (d :: ds)
    | none => .no
  | none => match finX o.op (ev l tr) (opX P x o.op (ev l tr) h q) with
    | .ok v h q => forceV v fun v => k (putL size o.dst v l) h q ds
    | .pan v h => .pan v l h q ds
    | .no => .no

def wantX (ops : List Oper) (o : Oper) (l : Loc) (tr : Tr Value) : Option Bool :=
  match o.guard with
  | none => some true
  | some (j, want) => wantsAt ops l tr j want

/-- operations in the order of the text -/
def runX (P : Program) (x : InvX) (size : Nat) (ops : List Oper) (tr : Tr Value) (rest : List Oper) : Loc → AHeap → Option Value → List Deferred → ResR :=
  List.rec (motive := fun _ => Loc → AHeap → Option Value → List Deferred → ResR) (fun l h q ds => .ok l h q ds)
    (fun o _ ih l h q ds =>
      match wantX ops o l tr with
      | some b => Bool.rec (motive := fun _ => ResR) (ih (putL size o.dst undef l) h q ds) (goX P x size o tr l h q ds ih) b
      | none => .no) rest

/-- is the order of a region's operations that of the text, whatever is drawn? -/
def chainB (ops : List Oper) : Bool :=
  allBelow ops.length fun j => (match nth ops j with
    | some o => edgesOk j o.after.toList
    | none => true) && (match j with
    | 0 => true
    | Nat.succ i => mustBefore ops i j)

/-- what a frame does next -/
inductive NxX where
  | go (todo : List Item)
  | set (tr : Tr Value) (h : AHeap) (todo : List Item) (defers : List Deferred) (q : Option Value)
  | done
  | pan (v : Value) (tr : Tr Value) (h : AHeap) (q : Option Value) (ds : List Deferred)
  | fail

structure CtxX where
  c : Ctx
  x : InvX

def regionX (shared : Nat) (tr : Tr Value) (k : List Item) (r : ResR) : NxX :=
  match r with
  | .ok l h q ds => l.flushK shared tr fun tr => .set tr h k ds q
  | .pan v l h q ds => l.flushK shared tr fun tr => .pan v tr h q ds
  | .no => .fail

def liftX (q : Option Value) (nx : Nx) : NxX :=
  match nx with
  | .go todo => .go todo
  | .set tr h todo defers => .set tr h todo defers q
  | .done => .done
  | .fail => .fail

structure NVX where
  f : CtxX → Tr Value → List Deferred → AHeap → List Item → Option Value → NxX

/-- a region that draws its order: in that of the text if there is no other one; else without panics -/
def drawX (ops : Array Oper) : NVX :=
  Bool.rec (motive := fun _ => NVX)
    ⟨fun c tr defers h k q => liftX q (regionNx c.c.shared tr k defers (runAny c.c.P c.c.inv c.c.size ops.toList tr h))⟩
    ⟨fun c tr defers h k q => regionX c.c.shared tr k (runX c.c.P c.x c.c.size ops.toList tr ops.toList .nil h q defers)⟩ (chainB ops.toList)

def textX (ops : Array Oper) : NVX :=
  ⟨fun c tr defers h k q => regionX c.c.shared tr k (runX c.c.P c.x c.c.size ops.toList tr ops.toList .nil h q defers)⟩

def codeX (x : Code) : NVX :=
  match x with
  | .region _ ops draw => Bool.rec (motive := fun _ => NVX) (textX ops) (drawX ops) draw
  | x => ⟨fun c tr defers h k q => liftX q ((codeC x).f c.c tr defers h k)⟩

def itemX (x : Item) : NVX :=
  match x with
  | .code x => codeX x
  | x => ⟨fun c tr defers h k q => liftX q ((itemC x).f c.c tr defers h k)⟩

/-- how a frame's run ends: it returns, or it panics -/
inductive StX where
  | ret (tr : Tr Value) (todo : List Item) (defers : List Deferred) (h : AHeap) (q : Option Value)
  | pan (v : Value) (tr : Tr Value) (h : AHeap) (q : Option Value) (defers : List Deferred)
  | no

def nextX (tr : Tr Value) (defers : List Deferred) (h : AHeap) (q : Option Value) (x : Item) (k : List Item) (ih : Tr Value → List Deferred → AHeap → Option Value → List Item → StX) (nx : NxX) : StX :=
  match nx with
  | .go todo => ih tr defers h q todo
  | .set tr h todo defers q => ih tr defers h q todo
  | .done => .ret tr (x :: k) defers h q
  | .pan v tr h q ds => .pan v tr h q ds
  | .fail => .no

def runFX (c : CtxX) (n : Nat) : Tr Value → List Deferred → AHeap → Option Value → List Item → StX :=
  Nat.rec (motive := fun _ => Tr Value → List Deferred → AHeap → Option Value → List Item → StX) (fun _ _ _ _ _ => .no)
    (fun _ ih tr defers h q todo =>
      List.rec (motive := fun _ => StX) (.ret tr [] defers h q) (fun x k _ => nextX tr defers h q x k ih ((itemX x).f c tr defers h k q)) todo) n

/-- on the way out: the deferred calls, one after the other; 'pend': the value of the panic, if there is one. What is left of it, and the heap. -/
structure Out where
  pend : Option Value
  h : AHeap

def unwindX (x : InvX) : List Deferred → Option Value → AHeap → Option Out
  | [], pend, h => some ⟨pend, h⟩
  | d :: ds, pend, h =>
    match d.target with
    | .collected b => match h.get b with
      | some (.deferred (some [])) => h.setK b (.deferred none) fun h => unwindX x ds pend h
      | _ => none
    | .fn (.func g) cap => match x (.defd pend) (.func g) (d.args.toList ++ cap.toList) h with
      | .ok _ h q => unwindX x ds q h
      | _ => none
    | _ => none

/-- what a frame gives behind its deferred calls -/
def leaveX (P : Program) (fn : Func) (tr : Tr Value) (q : Option Value) (o : Option Out) : ResV :=
  match o with
  | some ⟨some v, h⟩ => .pan v h
  | some ⟨none, h⟩ => match resAll P tr h fn.results.toList with
    | some vs => .ok (asResult vs) h q
    | none => .no
  | none => .no

def endX (P : Program) (x : InvX) (fn : Func) (s : StX) : ResV :=
  match s with
  | .ret tr todo defers h q => cond (retOk todo) (leaveX P fn tr q (unwindX x defers none h)) .no
  | .pan v tr h q ds => leaveX P fn tr q (unwindX x ds (some v) h)
  | .no => .no

def enterX (P : Program) (o : Opt) (x : InvX) (m : Md) (f : FuncId) (fn : Func) (body : Code) (args : List Value) (h : AHeap) : ResV :=
  match frmOf o fn body with
  | ⟨size, shared, most⟩ => cond (Nat.ble args.length most && Nat.ble args.length size)
    (endX P x fn (runFX ⟨⟨P, asInv x, f, size, none, shared⟩, x⟩ o.steps (treeOf args 0 .lf) [] h m.q [.code body])) .no

def normB (m : Md) : Bool :=
  match m with
  | .norm => true
  | .defd _ => false

/-- only a frame that was called as usual may panic on -/
def onlyV (m : Md) (r : ResV) : ResV :=
  match r with
  | .pan v h => cond (normB m) (.pan v h) .no
  | r => r

/-- functions whose results hang on their arguments alone -/
abbrev Prim := Nat → List Value → Option Value

def primX (pm : Prim) (f : Nat) (args : List Value) (h : AHeap) : ResV := resOf none (pv h (pm f args))

/-- values without addresses -/
def pl1 (v : Value) : Bool := match v with
  | .int _ _ => true
  | .bool _ => true
  | _ => false
def allB (p : Value → Bool) (l : List Value) : Bool := List.rec (motive := fun _ => Bool) true (fun v _ ih => Bool.rec (motive := fun _ => Bool) false ih (p v)) l
def pl2 (v : Value) : Bool := match v with
  | .agg xs => allB pl1 xs.toList
  | v => pl1 v
def pl3 (v : Value) : Bool := match v with
  | .tuple xs => allB pl2 xs.toList
  | v => pl2 v
def intB (a b : Int) : Bool := match a, b with
  | .ofNat a, .ofNat b => Nat.beq a b
  | .negSucc a, .negSucc b => Nat.beq a b
  | _, _ => false
def eq1 (a b : Value) : Bool := match a, b with
  | .int k a, .int k' b => decide (k = k') && intB a b
  | .bool a, .bool b => match a, b with
    | true, true => true
    | false, false => true
    | _, _ => false
  | _, _ => false
def eqs (p : Value → Value → Bool) : List Value → List Value → Bool
  | [], [] => true
  | a :: l, b :: m => cond (p a b) (eqs p l m) false
  | _, _ => false
def eq2 (a b : Value) : Bool := match a, b with
  | .agg xs, .agg ys => eqs eq1 xs.toList ys.toList
  | a, b => eq1 a b
/-- calls that are known: a function, its arguments, its result -/
abbrev Memo := List (Nat × List Value × Value)
def memoAt : Memo → Nat → List Value → Option Value
  | [], _, _ => none
  | (g, as, v) :: M, f, args => cond (Nat.beq g f) (cond (eqs eq2 as args) (some v) (memoAt M f args)) (memoAt M f args)

def invX (P : Program) (pm : Prim) (K : List Nat) (M : Memo) (o : Opt) : Nat → InvX
  | 0, _, _, _, _ => .no
  | n + 1, m, fn, args, h =>
    match fn with
    | .func f => match memoAt M f args with
      | some v => cond (normB m) (.ok v h none) .no
      | none => cond (isIn K f && noArgs args && normB m) (.ok (.bool true) h none) (match funcAt P f with
        | some (fn, body) => onlyV m (enterX P o (invX P pm K M o n) m f fn body args h)
        | none => cond (normB m) (primX pm f args h) .no)
    | .yield l => cond (normB m) (match h.get l with
      | some (.loop r) => cond (Nat.beq args.length r.params.toList.length) (resOf none (enterR P o (asInv (invX P pm K M o n)) l r args h)) .no
      | _ => .no) .no
    | _ => .no

/-- a call's result -/
def resultX (P : Program) (pm : Prim) (K : List Nat) (M : Memo) (f : FuncId) (args : List Value) : Option Value := match invX P pm K M ⟨STEPS, false, [], noX⟩ 400 .norm (.func f) args (emptyHeap P) with
  | .ok v _ _ => some v
  | _ => none
end
end Go.Ev
/- The evaluator with panics: operations, and regions in the order of the text. -/
namespace Go.Ev

variable {P : Program} {base : Nat} {ρ : Ren} {w : World}

/-- what recover gives in a frame of that kind, and what it does to the frames above: K true, then K false -/
def KRel (ρ : Ren) (q : Option Value) (kind : CallKind) (K : Bool → List Frame → List Frame) : Prop :=
  (∀ (fr : Frame) cs, fr.kind = kind → tryRecover fr (K false cs) = none) ∧
  ∀ v, q = some v → ∃ v', VRel ρ v v' ∧ ∀ (fr : Frame) cs, fr.kind = kind → tryRecover fr (K true cs) = some (v', K false cs)

theorem KRel.mono {ρ ρ' : Ren} (hl : ρ.le ρ') {q : Option Value} {kind : CallKind} {K : Bool → List Frame → List Frame} (h : KRel ρ q kind K) : KRel ρ' q kind K :=
  ⟨h.1, fun v e => let ⟨v', h1, h2⟩ := h.2 v e; ⟨v', h1.mono hl, h2⟩⟩
theorem KRel.off {q : Option Value} {kind : CallKind} {K : Bool → List Frame → List Frame} (h : KRel ρ q kind K) : KRel ρ none kind K := ⟨h.1, fun v e => by cases e⟩

/-- a call, or an operation, that panics: at once, or by the steps of another frame -/
inductive Goes (P : Program) (s : Sem Next) (w : World) (v : Value) (w' : World) : Prop where
  | now (h : s.run P w = .halt (.panic v) w')
  | enter {f : FuncId} {args : Array Value} {w₁ : World} (h : s.run P w = .ok (.enter f args) w₁) (hc : ∀ (c : Frame) (cs : List Frame), Steps P (lone (Frame.enter P f args .normal) (c :: cs) w₁) (lone (c.raise [{ v, recovered := false }]) cs w'))

def Pans (P : Program) (base : Nat) (ρ : Ren) (h : AHeap) (w : World) (s : Sem Next) (v : Value) (h' : AHeap) : Prop :=
  ∃ ρ' v' w', Goes P s w v' w' ∧ VRel ρ' v v' ∧ Went P base ρ h w ρ' h' w'

/-- a deferred call: from its frame's start to its leaving -/
def Backs (P : Program) (base : Nat) (ρ : Ren) (h : AHeap) (w : World) (g : FuncId) (args' : Array Value) (K : Bool → List Frame → List Frame) (q : Option Value) (h' : AHeap) (q' : Option Value) : Prop :=
  ∃ ρ' v' w', (∀ cs, ∃ fr, Steps P (lone (Frame.enter P g args' .deferred) (K q.isSome cs) w) (lone fr (K q'.isSome cs) w') ∧ fr.kind = .deferred ∧ fr.going P w' (.returned v')) ∧ Went P base ρ h w ρ' h' w' ∧ (q' = none ∨ q' = q) ∧ ∃ fn body, P.funcs[g]? = some fn ∧ fn.body = some body

/-- the evaluator's calls are right -/
structure XOk (P : Program) (x : InvX) : Prop where
  val : InvOk P (asInv x)
  pan : ∀ (base : Nat) (ρ : Ren) (w : World) (g : FuncId) (args args' : List Value) (h h' : AHeap) (v : Value), x .norm (.func g) args h = .pan v h' → VRels ρ args args' → Sim P base ρ h w →
    Pans P base ρ h w (invoke (.fn (.func g) #[]) args'.toArray) v h'
  dfr : ∀ (base : Nat) (ρ : Ren) (w : World) (q q' : Option Value) (g : FuncId) (args args' : List Value) (h h' : AHeap) (v : Value) (K : Bool → List Frame → List Frame), x (.defd q) (.func g) args h = .ok v h' q' → VRels ρ args args' → Sim P base ρ h w → KRel ρ q .deferred K →
    Backs P base ρ h w g args'.toArray K q h' q'

theorem resOf_ok {q q' : Option Value} {o : Option (Value × AHeap)} {v : Value} {h : AHeap} (e : resOf q o = .ok v h q') : o = some (v, h) ∧ q' = q := by
  cases o with
  | none => cases e
  | some r => cases r; cases e; exact ⟨rfl, rfl⟩
theorem resOf_pan {q : Option Value} {o : Option (Value × AHeap)} {v : Value} {h : AHeap} (e : resOf q o = .pan v h) : False := by
  cases o with
  | none => cases e
  | some r => cases r; cases e

theorem callX_ok {x : InvX} {f : Value} {args : List Value} {h h' : AHeap} {q q' : Option Value} {v : Value} (e : callX x f args h q = .ok v h' q') : callV (asInv x) f args h = some (v, h') ∧ q' = q := by
  unfold callX at e
  split at e
  · rename_i fn first captured
    split at e
    · rename_i g
      split at e
      · rename_i r hr
        cases e
        exact ⟨by show plainR (x .norm (.func g) _ h) = _; rw [hr]; rfl, rfl⟩
      · cases e
      · cases e
    · rename_i l
      exact resOf_ok e
    · cases e
  · cases e

theorem callX_pan {x : InvX} {f : Value} {args : List Value} {h h' : AHeap} {q : Option Value} {v : Value} (e : callX x f args h q = .pan v h') :
    ∃ g first captured, f = .func (.func g) first captured ∧ x .norm (.func g) (first.toList ++ args ++ captured.toList) h = .pan v h' := by
  unfold callX at e
  split at e
  · rename_i fn first captured
    split at e
    · rename_i g
      split at e
      · cases e
      · rename_i hr
        cases e
        exact ⟨g, first, captured, rfl, hr⟩
      · cases e
    · exact (resOf_pan e).elim
    · cases e
  · cases e

/-- a call of a function value that panics -/
theorem callX_pans {x : InvX} {f f' : Value} {args : List Value} {args' : Array Value} {h h' : AHeap} {q : Option Value} {v : Value} (hx : XOk P x) (st : Sim P base ρ h w) (e : callX x f args h q = .pan v h') (hf : VRel ρ f f') (ha : VRels ρ args args'.toList) :
    Pans P base ρ h w (do let d ← Deferred.ofValue f' args'; invoke d.target d.args) v h' := by
  obtain ⟨g, first, captured, rfl, e1⟩ := callX_pan e
  cases hf with
  | fn hp h1 h2 =>
    rename_i us vs
    obtain ⟨ρ', v', w', d1, d2, d3⟩ := hx.pan base ρ w g _ (us ++ args'.toList ++ vs) h h' v e1 ((h1.append ha).append h2) st
    refine ⟨ρ', v', w', ?_, d2, d3⟩
    have key : (do let d ← Deferred.ofValue (.func (.func g) ⟨us⟩ ⟨vs⟩) args'; invoke d.target d.args : Sem Next) = callFunc g ((⟨us⟩ ++ args') ++ ⟨vs⟩) := rfl
    have key2 : invoke (.fn (.func g) #[]) (us ++ args'.toList ++ vs).toArray = callFunc g ((us ++ args'.toList ++ vs).toArray ++ #[]) := rfl
    rw [key2] at d1
    rw [key]
    have : ((⟨us⟩ ++ args') ++ ⟨vs⟩ : Array Value) = (us ++ args'.toList ++ vs).toArray ++ #[] := by
      apply Array.ext'; simp
    rw [this]; exact d1

theorem resolve_value {ev : Operand → Value} {c : Call} {ty : TypeId} {f : Operand} (hc : c.callee = .value f) : (do let d ← resolve ev c ty; invoke d.target d.args : Sem Next) = (do let d ← Deferred.ofValue (ev f) (c.args.map ev); invoke d.target d.args) := by
  unfold resolve; simp only [hc]
theorem resolve_builtin {ev : Operand → Value} {c : Call} {ty : TypeId} {b : Builtin} (hc : c.callee = .builtin b) : (do let d ← resolve ev c ty; invoke d.target d.args : Sem Next) = builtin b c.argTypes ty (c.args.map fun | .const _ => true | _ => false) (c.args.map ev) := by
  unfold resolve; simp only [hc]; rfl

theorem nilEq_sound {op : BinOp} {t : TypeId} {x y : Operand} {v : Value} (e : nilEq P op t = some v) (hl : (nilLit x || nilLit y) = true) : (do eqGuard op t x y .nilIface .nilIface; binOp op t .nilIface .nilIface : Sem Value).run P w = .ok v w := by
  unfold nilEq at e
  split at e
  · rename_i ms hu
    have hg : ∀ op, (op = .eql ∨ op = .neq) → (eqGuard op t x y .nilIface .nilIface).run P w = .ok () w := fun op ho => by
      unfold eqGuard
      revert hl
      rcases ho with rfl | rfl <;> cases x <;> cases y <;> simp [nilLit]
    split at e
    · cases e
      simp only [Sem.run_bind, hg .eql (.inl rfl), Result.andThen_ok]
      show (do pure (.bool (← Op.equal t .nilIface .nilIface)) : Sem Value).run P w = _
      have := eqNilNil (P := P) (w := w) 9999 hu
      simp only [Sem.run_bind, Op.equal, Op.maxDepth, this, Result.andThen_ok, Sem.run_pure]
    · cases e
      simp only [Sem.run_bind, hg .neq (.inr rfl), Result.andThen_ok]
      show (do pure (.bool (!(← Op.equal t .nilIface .nilIface))) : Sem Value).run P w = _
      have := eqNilNil (P := P) (w := w) 9999 hu
      simp only [Sem.run_bind, Op.equal, Op.maxDepth, this, Result.andThen_ok, Sem.run_pure, Bool.not_true]
    · cases e
  · cases e

theorem byteCells_rels : ∀ (l : List UInt8), VRels ρ (byteCells l) (l.map fun b => .int .u8 (b.toNat : Int))
  | [] => .nil
  | b :: l => .cons (.int _ _) (byteCells_rels l)
theorem bytesA_spec {s d : TypeId} {x : Value} {e : TypeId} {l : List UInt8} (h : bytesA P s d x = some (e, l)) : ∃ b i, x = .string b ∧ l = b.data.toList ∧ P.underlying s = some .string ∧ P.underlying d = some (.slice e) ∧ P.underlying e = some (.int .u8) ∧ P.info? e = some i ∧ i.size = 1 ∧ l.length ≤ 1000000000 := by
  unfold bytesA at h
  split at h
  · rename_i h1
    split at h
    · rename_i e' h2
      split at h
      · rename_i h3
        split at h
        · rename_i i h4
          split at h
          · rename_i b
            obtain ⟨h5, h⟩ := cond_some h
            cases h
            obtain ⟨h6, h7⟩ := ble_and h5
            exact ⟨b, i, rfl, rfl, h1, h2, h3, h4, Nat.eq_of_beq_eq_true h6, Nat.le_of_ble_eq_true h7⟩
          · cases h
        · cases h
      · cases h
    · cases h
  · cases h

theorem bytesA_sound {h : AHeap} {s d : TypeId} {x x' : Value} {e : TypeId} {l : List UInt8} (st : Sim P base ρ h w) (hb : bytesA P s d x = some (e, l)) (hx : VRel ρ x x') : Gives P base ρ h w (convert s d x') (sliceTo h.next l.length) (h.new (.cells (byteCells l) e false)) := by
  obtain ⟨b, i, rfl, rfl, h1, h2, h3, h4, h5, h6⟩ := bytesA_spec hb
  rw [hx.string_inv]
  have hrun := run_bytes_of_string (P := P) w s d e b h1 h2 h3
  have hge := grownCap_ge w b.size 0 e
  have hsz : b.data.toList.length = b.size := Array.length_toList
  have hrow : (bytesRow b (grownCap w b.size 0 e)).size = grownCap w b.size 0 e := by
    unfold bytesRow
    rw [Array.size_append, Array.size_map, Array.size_replicate]
    have : b.data.size = b.size := rfl
    omega
  have d1 := st.drew
  have d2 := d1.sim.new (.cells (byteCells b.data.toList) e false) (.cells (bytesRow b (grownCap w b.size 0 e)) e ((bytesRow b (grownCap w b.size 0 e)).size, (bytesRow b (grownCap w b.size 0 e)).size + 1)) (P.cellsOf e) (bytesRow b (grownCap w b.size 0 e)).size
    ⟨fun q => (by cases q), rfl, rfl, (by
      refine CRel.mono (Ren.le_put d1.sim.unmet) ?_
      unfold bytesRow
      refine CRel.append_array ?_ _
      simpa using byteCells_rels (ρ := ρ) b.data.toList)⟩
  refine ⟨_, _, _, hrun, new_slice' (p := ⟨w.heap.size, 0, P.cellsOf e, (bytesRow b (grownCap w b.size 0 e)).size⟩) rfl (by omega) (by omega) ?_, d1.trans d2⟩
  show 0 + grownCap w b.size 0 e * P.cellsOf e ≤ (bytesRow b (grownCap w b.size 0 e)).size
  rw [hrow, cellsOf_eq h4, h5]
  omega

/-- an operation that comes to a value: as before, or it recovers -/
theorem opX_ok {x : InvX} {ev ev' : Operand → Value} {h h' : AHeap} {o : Oper} {q q' : Option Value} {v : Value} (hx : XOk P x) (st : Sim P base ρ h w) (hev : EvRel ρ ev ev') (hd : isDefer o.op = none) (e : opX P x o.op ev h q = .ok v h' q') :
    (Done P base ρ h w (execOp ev' o) v h' ∧ q' = q ∨ (execOp ev' o).run P w = .ok .recover w ∧ recX h q = .ok v h' q') ∧ ∀ c, o.op ≠ .defer c := by
  obtain ⟨dst, op, type, pos, after, guard⟩ := o
  have hnd : ∀ c, op ≠ .defer c := fun c hc => by subst hc; cases hd
  refine ⟨?_, hnd⟩
  have dflt : ∀ (op' : Op), op = op' → resOf q ((opC P op').f (fun _ _ _ => none) ev h) = .ok v h' q' → Done P base ρ h w (execOp ev' ⟨dst, op', type, pos, after, guard⟩) v h' ∧ q' = q := fun op' _ e => by
    obtain ⟨e1, e2⟩ := resOf_ok e
    exact ⟨(op_sound (o := ⟨dst, op', type, pos, after, guard⟩) (inv := fun _ _ _ => none) (fun _ _ _ _ _ _ _ _ _ _ e => by cases e) st hev e1).1, e2⟩
  cases op <;> simp only [opX] at e
  case call c =>
    have ha : VRels ρ (evs ev c.args.toList) (c.args.map ev').toList := by
      rw [Array.toList_map]; exact evs_rel hev _
    unfold callOpX at e
    split at e
    · rename_i f hc
      obtain ⟨e1, e2⟩ := callX_ok e
      refine .inl ⟨?_, e2⟩
      have := callV_sound (args' := c.args.map ev') hx.val st e1 (hev f) ha
      show Done P base ρ h w (do let d ← resolve ev' c type; invoke d.target d.args) v h'
      rw [resolve_value hc]; exact this
    · rename_i b hc
      split at e
      · refine .inr ⟨?_, e⟩
        show (do let d ← resolve ev' c type; invoke d.target d.args : Sem Next).run P w = _
        rw [resolve_builtin hc]
        rfl
      · obtain ⟨e1, e2⟩ := resOf_ok e
        obtain ⟨e3, e4⟩ := pv_inv e1
        refine .inl ⟨?_, e2⟩
        show Done P base ρ h w (do let d ← resolve ev' c type; invoke d.target d.args) v h'
        rw [resolve_builtin hc, e4]
        obtain ⟨v', k1, k2⟩ := mostOf_sound (P := P) (w := w) (ρ := ρ) (mx := true) (ts := c.argTypes) (ty := type) e3 ha
        refine ⟨ρ, v', w, .value ?_, k2, .refl st⟩
        show (do pure (.value (← Builtin.max_ c.argTypes type (c.args.map ev'))) : Sem Next).run P w = _
        rw [cond_true] at k1
        simp only [Sem.run_bind, k1, Result.andThen_ok, Sem.run_pure]
      · obtain ⟨e1, e2⟩ := resOf_ok e
        obtain ⟨e3, e4⟩ := pv_inv e1
        refine .inl ⟨?_, e2⟩
        show Done P base ρ h w (do let d ← resolve ev' c type; invoke d.target d.args) v h'
        rw [resolve_builtin hc, e4]
        obtain ⟨v', k1, k2⟩ := mostOf_sound (P := P) (w := w) (ρ := ρ) (mx := false) (ts := c.argTypes) (ty := type) e3 ha
        refine ⟨ρ, v', w, .value ?_, k2, .refl st⟩
        show (do pure (.value (← Builtin.min_ c.argTypes type (c.args.map ev'))) : Sem Next).run P w = _
        rw [cond_false] at k1
        simp only [Sem.run_bind, k1, Result.andThen_ok, Sem.run_pure]
      · obtain ⟨e1, e2⟩ := resOf_ok e
        refine .inl ⟨?_, e2⟩
        show Done P base ρ h w (do let d ← resolve ev' c type; invoke d.target d.args) v h'
        rw [resolve_builtin hc]
        exact builtin_sound st e1 ha
    · cases e
  case panic y =>
    unfold boomX at e
    split at e <;> cases e
  case convert s d y =>
    cases hb : bytesA P s d (ev y) with
    | some r =>
      obtain ⟨t, l⟩ := r
      rw [hb] at e
      dsimp only at e
      rw [AHeap.newK_eq] at e
      cases e
      exact .inl ⟨(bytesA_sound st hb (hev y)).done, rfl⟩
    | none =>
      rw [hb] at e
      exact .inl (dflt _ rfl e)
  case binOp op t y z yt =>
    cases hc : ((nilLit y || nilLit z) && (isNilI (ev y) && isNilI (ev z))) with
    | true =>
      rw [hc, cond_true] at e
      obtain ⟨e1, e2⟩ := resOf_ok e
      obtain ⟨e3, e4⟩ := pv_inv e1
      obtain ⟨k1, k2⟩ := ble_and hc
      obtain ⟨k3, k4⟩ := ble_and k2
      have n1 : ev' y = .nilIface := by
        have := hev y
        revert k3 this
        cases ev y <;> intro k3 this <;> first | exact this.nilIface_inv | cases k3
      have n2 : ev' z = .nilIface := by
        have := hev z
        revert k4 this
        cases ev z <;> intro k4 this <;> first | exact this.nilIface_inv | cases k4
      refine .inl ⟨?_, e2⟩
      rw [e4]
      have hb : ∃ b, v = .bool b := by
        unfold nilEq at e3
        split at e3
        · split at e3 <;> cases e3 <;> exact ⟨_, rfl⟩
        · cases e3
      obtain ⟨b, rfl⟩ := hb
      refine ⟨ρ, .bool b, w, .value ?_, .bool b, .refl st⟩
      show (do Pure.pure (.value (← (do eqGuard op t y z (ev' y) (ev' z); binOp op t (ev' y) (ev' z)))) : Sem Next).run P w = _
      rw [n1, n2]
      have := nilEq_sound (P := P) (w := w) e3 k1
      rw [Sem.run_bind, this]
      rfl
    | false =>
      rw [hc, cond_false] at e
      cases hs : shiftV op (ev y) (ev z) with
      | some u =>
        rw [hs] at e
        cases e
        obtain ⟨k1, k2⟩ := shift_sound (P := P) (w := w) (t := t) (x := y) (y := z) hs (hev y) (hev z)
        refine .inl ⟨⟨ρ, v, w, .value ?_, k2, .refl st⟩, rfl⟩
        show (do Pure.pure (.value (← (do eqGuard op t y z (ev' y) (ev' z); binOp op t (ev' y) (ev' z)))) : Sem Next).run P w = _
        rw [Sem.run_bind, k1]
        rfl
      | none =>
        rw [hs] at e
        exact .inl (dflt _ rfl e)
  all_goals exact .inl (dflt _ rfl e)

/-- an operation that panics -/
theorem opX_pan {x : InvX} {ev ev' : Operand → Value} {h h' : AHeap} {o : Oper} {q : Option Value} {v : Value} (hx : XOk P x) (st : Sim P base ρ h w) (hev : EvRel ρ ev ev') (hd : isDefer o.op = none) (e : opX P x o.op ev h q = .pan v h') :
    Pans P base ρ h w (execOp ev' o) v h' ∧ ∀ c, o.op ≠ .defer c := by
  obtain ⟨dst, op, type, pos, after, guard⟩ := o
  have hnd : ∀ c, op ≠ .defer c := fun c hc => by subst hc; cases hd
  refine ⟨?_, hnd⟩
  cases op <;> simp only [opX] at e
  case call c =>
    have ha : VRels ρ (evs ev c.args.toList) (c.args.map ev').toList := by
      rw [Array.toList_map]; exact evs_rel hev _
    unfold callOpX at e
    split at e
    · rename_i f hc
      show Pans P base ρ h w (do let d ← resolve ev' c type; invoke d.target d.args) v h'
      rw [resolve_value hc]
      exact callX_pans hx st e (hev f) ha
    · split at e
      · unfold recX at e; split at e <;> cases e
      · exact (resOf_pan e).elim
      · exact (resOf_pan e).elim
      · exact (resOf_pan e).elim
    · cases e
  case panic y =>
    unfold boomX at e
    split at e
    · rename_i t u hy
      cases e
      have hv := hev y
      rw [hy] at hv
      obtain ⟨u', hu, hrel⟩ := hv.iface_inv
      refine ⟨ρ, .iface t u', w, .now ?_, .iface hrel, .refl st⟩
      simp only [execOp, hu, Instr.panic]
      rfl
    · cases e
  case convert s d y =>
    cases hb : bytesA P s d (ev y) with
    | some r =>
      obtain ⟨t, l⟩ := r
      rw [hb] at e
      dsimp only at e
      rw [AHeap.newK_eq] at e
      cases e
    | none => rw [hb] at e; exact (resOf_pan e).elim
  case binOp op t y z yt =>
    cases hc : ((nilLit y || nilLit z) && (isNilI (ev y) && isNilI (ev z))) with
    | true => rw [hc, cond_true] at e; exact (resOf_pan e).elim
    | false =>
      rw [hc, cond_false] at e
      cases hs : shiftV op (ev y) (ev z) with
      | some u => rw [hs] at e; cases e
      | none => rw [hs] at e; exact (resOf_pan e).elim
  all_goals exact (resOf_pan e).elim
end Go.Ev
/- The evaluator with panics: regions in the order of the text. -/
namespace Go.Ev

variable {P : Program} {base : Nat} {ρ : Ren} {w : World}

theorem put_defers (a : Act) (dst : Option Tmp) (v : Value) : (a.put dst v).defers = a.defers := by cases dst <;> rfl

section steps
variable {o : Oper} {b : Frame} {a : Act} {ops : Array Oper} {i : Nat} {rest : List Nat} {k : List Item} {cs cs' : List Frame}

theorem recover_some {v : Value} (ho : ops[i]? = some o) (hw : Region.wanted o (yielded ops a.tmps) = true) (hnd : ∀ c, o.op ≠ .defer c) (hb : b.roundOf = none) (hr : (execOp a.eval o).run P w = .ok .recover w)
    (ht : tryRecover (b.atR a (.inRegion ops (i :: rest) :: k)) cs = some (v, cs')) :
    Steps P (lone (b.atR a (.inRegion ops (i :: rest) :: k)) cs w) (lone (b.atR (a.put o.dst v) (.inRegion ops rest :: k)) cs' w) := by
  have hfin : (b.atR a (.inRegion ops (i :: rest) :: k)).finish v = b.atR (a.put o.dst v) (.inRegion ops rest :: k) := by
    rw [Frame.finish_atR, ho]; rfl
  have hg := stepGR_op (P := P) (b := b) (a := a) (k := k) (cs := cs) (w := w) (rest := rest) ho hw
  rw [Oper.semAt_eq _ _ _ hnd] at hg
  have hro : (b.atR a (.inRegion ops (i :: rest) :: k)).roundOf = none := hb
  refine .one (step_lone_go ?_)
  rw [hg, ← hfin]
  simp [stepG.apply, Sem.runT_eq, hr, GStep.bare_after, hro, ht]

theorem recover_none (ho : ops[i]? = some o) (hw : Region.wanted o (yielded ops a.tmps) = true) (hnd : ∀ c, o.op ≠ .defer c) (hb : b.roundOf = none) (hr : (execOp a.eval o).run P w = .ok .recover w)
    (ht : tryRecover (b.atR a (.inRegion ops (i :: rest) :: k)) cs = none) :
    Steps P (lone (b.atR a (.inRegion ops (i :: rest) :: k)) cs w) (lone (b.atR (a.put o.dst .nilIface) (.inRegion ops rest :: k)) cs w) := by
  have hfin : (b.atR a (.inRegion ops (i :: rest) :: k)).finish .nilIface = b.atR (a.put o.dst .nilIface) (.inRegion ops rest :: k) := by
    rw [Frame.finish_atR, ho]; rfl
  have hg := stepGR_op (P := P) (b := b) (a := a) (k := k) (cs := cs) (w := w) (rest := rest) ho hw
  rw [Oper.semAt_eq _ _ _ hnd] at hg
  have hro : (b.atR a (.inRegion ops (i :: rest) :: k)).roundOf = none := hb
  refine .one (step_lone_go ?_)
  rw [hg, ← hfin]
  simp [stepG.apply, Sem.runT_eq, hr, GStep.bare_after, hro, ht]

theorem goes_steps {v : Value} {w' : World} (hd : Goes P (execOp a.eval o) w v w') (ho : ops[i]? = some o) (hw : Region.wanted o (yielded ops a.tmps) = true) (hnd : ∀ c, o.op ≠ .defer c) :
    Steps P (lone (b.atR a (.inRegion ops (i :: rest) :: k)) cs w) (lone ((b.atR a (.inRegion ops (i :: rest) :: k)).raise [{ v, recovered := false }]) cs w') := by
  have hg := stepGR_op (P := P) (b := b) (a := a) (k := k) (cs := cs) (w := w) (rest := rest) ho hw
  rw [Oper.semAt_eq _ _ _ hnd] at hg
  cases hd with
  | now h =>
    refine .one (step_lone_go ?_)
    rw [hg]
    simp [stepG.apply, Sem.runT_eq, h, GStep.bare_after]
  | enter h hc =>
    rename_i f args w₁
    have h1 : step P (lone (b.atR a (.inRegion ops (i :: rest) :: k)) cs w) = .next (lone (Frame.enter P f args .normal) (b.atR a (.inRegion ops (i :: rest) :: k) :: cs) w₁) :=
      step_lone_go (by rw [hg]; simp [stepG.apply, Sem.runT_eq, h, GStep.bare_after, Frame.atR])
    exact .head h1 (hc _ cs)

theorem defer_steps {c : Call} {d : Deferred} (ho : ops[i]? = some o) (hw : Region.wanted o (yielded ops a.tmps) = true) (hop : o.op = .defer c) (hb : b.roundOf = none) (hr : (resolve a.eval c o.type).run P w = .ok d w) :
    Steps P (lone (b.atR a (.inRegion ops (i :: rest) :: k)) cs w) (lone (b.atR ({ a with defers := d :: a.defers }.put o.dst undef) (.inRegion ops rest :: k)) cs w) := by
  have hfin : (b.atR { a with defers := d :: a.defers } (.inRegion ops (i :: rest) :: k)).finish undef = b.atR ({ a with defers := d :: a.defers }.put o.dst undef) (.inRegion ops rest :: k) := by
    rw [Frame.finish_atR, ho]; rfl
  have hg := stepGR_op (P := P) (b := b) (a := a) (k := k) (cs := cs) (w := w) (rest := rest) ho hw
  rw [hb, Oper.semAt_none] at hg
  have hx : (execOp a.eval o).run P w = .ok (.defer d) w := by
    unfold execOp; rw [hop]; simp [hr]
  refine .one (step_lone_go ?_)
  rw [hg, ← hfin]
  simp [stepG.apply, Sem.runT_eq, hx, GStep.bare_after, Frame.atR]
end steps

theorem deferOf_rel {f f' : Value} {args args' : List Value} {d : Deferred} (e : deferOf f args = some d) (hf : VRel ρ f f') (ha : VRels ρ args args') :
    ∃ g cap cap' xs xs', d = ⟨.fn (.func g) ⟨cap⟩, ⟨xs⟩⟩ ∧ VRels ρ cap cap' ∧ VRels ρ xs xs' ∧ (Deferred.ofValue f' ⟨args'⟩).run P w = .ok ⟨.fn (.func g) ⟨cap'⟩, ⟨xs'⟩⟩ w := by
  unfold deferOf at e
  split at e
  · rename_i fn first captured
    split at e
    · rename_i g
      cases e
      cases hf with
      | fn hp h1 h2 =>
        rename_i xs ys us vs
        refine ⟨g, ys, vs, xs ++ args, us ++ args', rfl, h2, h1.append ha, ?_⟩
        have : (⟨us⟩ ++ ⟨args'⟩ : Array Value) = ⟨us ++ args'⟩ := by apply Array.ext'; simp
        unfold Deferred.ofValue
        simp [this]
    · cases e
  · cases e

theorem Tr_set_self {α : Type} : ∀ (t : Tr α) (n : Nat) (a : α), t.get n = some a → t.set n a = t
  | .lf, n, a, h => by rw [Tr.get_lf] at h; cases h
  | .nd v l r, n, a, h => by
    rw [Tr.get_nd] at h
    show Tr.turn (Tr.nd (some a) l r) (fun m => Tr.nd v (l.set m a) r) (fun m => Tr.nd v l (r.set m a)) n = _
    cases n with
    | zero =>
      rw [Tr.turn_zero] at h ⊢
      rw [h]
    | succ m =>
      by_cases hm : m % 2 = 0
      · rw [Tr.turn_even _ _ _ hm] at h ⊢
        rw [Tr_set_self l _ _ h]
      · rw [Tr.turn_odd _ _ _ hm] at h ⊢
        rw [Tr_set_self r _ _ h]
theorem forceL_eq {β : Type} : ∀ (l : List Value) (k : List Value → β), forceL l k = k l
  | [], k => rfl
  | v :: l, k => by
    show forceV v (fun v => forceL l fun l => k (v :: l)) = _
    rw [forceV_eq, forceL_eq l]
theorem forceB_eq {β : Type} (h : AHeap) (b : Nat) (k : AHeap → β) : forceB h b k = k h := by
  unfold forceB
  split
  · rename_i c e rw' hg
    rw [forceL_eq, AHeap.setK_eq]
    have : h.set b (.cells c e rw') = h := by
      cases h with
      | mk tr next =>
        show AHeap.mk (tr.set b (.cells c e rw')) next = _
        rw [Tr_set_self tr b _ hg]
    rw [this]
  · rfl
theorem finX_eq (op : Op) (ev : Operand → Value) (r : ResV) : finX op ev r = r := by
  unfold finX
  split
  · split
    · rw [forceB_eq]
    · rfl
  · rfl

/-- how a run panics -/
def Ends (P : Program) (base : Nat) (b : Frame) (K : Bool → List Frame → List Frame) (ρ : Ren) (tr : Tr Value) (h : AHeap) (a : Act) (w : World) (todo : List Item) (q : Option Value) (v : Value) (l' : Loc) (h' : AHeap) (q' : Option Value) (ds' : List Deferred) : Prop :=
  ∃ ρ' w' a' v' todo', (∀ cs, Steps P (lone (b.atR a todo) (K q.isSome cs) w) (lone ((b.atR a' todo').raise [{ v := v', recovered := false }]) (K q'.isSome cs) w')) ∧ Went P base ρ h w ρ' h' w' ∧ VRel ρ' v v' ∧ EnvRel ρ' l' tr a'.tmps ∧ a'.tmps.size = a.tmps.size ∧ DRels ρ' ds' a'.defers ∧ KRel ρ' q' b.kind K ∧ (q' = none ∨ q' = q)

/-- how a region is left -/
def Walks (P : Program) (base : Nat) (b : Frame) (K : Bool → List Frame → List Frame) (ρ : Ren) (tr : Tr Value) (h : AHeap) (a : Act) (w : World) (todo todo' : List Item) (q : Option Value) (l' : Loc) (h' : AHeap) (q' : Option Value) (ds' : List Deferred) : Prop :=
  ∃ ρ' w' a', (∀ cs, Steps P (lone (b.atR a todo) (K q.isSome cs) w) (lone (b.atR a' todo') (K q'.isSome cs) w')) ∧ Went P base ρ h w ρ' h' w' ∧ EnvRel ρ' l' tr a'.tmps ∧ a'.tmps.size = a.tmps.size ∧ DRels ρ' ds' a'.defers ∧ KRel ρ' q' b.kind K ∧ (q' = none ∨ q' = q)

theorem or_trans {α : Type} {q q₁ q' : Option α} (h1 : q₁ = none ∨ q₁ = q) (h2 : q' = none ∨ q' = q₁) : q' = none ∨ q' = q := by
  rcases h2 with h | h
  · exact .inl h
  · rw [h]; exact h1

section region
variable {b : Frame} {K : Bool → List Frame → List Frame} {tr : Tr Value} {h h₁ h' : AHeap} {a a₁ : Act} {todo todo₁ todo' : List Item} {q q₁ q' : Option Value} {ds' : List Deferred} {ρ₁ : Ren} {w₁ : World}

theorem Ends.after {v : Value} {l' : Loc} (s : ∀ cs, Steps P (lone (b.atR a todo) (K q.isSome cs) w) (lone (b.atR a₁ todo₁) (K q₁.isSome cs) w₁)) (g : Went P base ρ h w ρ₁ h₁ w₁) (hsz : a₁.tmps.size = a.tmps.size) (hq : q₁ = none ∨ q₁ = q) (e : Ends P base b K ρ₁ tr h₁ a₁ w₁ todo₁ q₁ v l' h' q' ds') : Ends P base b K ρ tr h a w todo q v l' h' q' ds' := by
  obtain ⟨ρ', w', a', v', todo', s2, g2, r, ev, z, d, kk, o⟩ := e
  exact ⟨ρ', w', a', v', todo', fun cs => (s cs).trans (s2 cs), g.trans g2, r, ev, z.trans hsz, d, kk, or_trans hq o⟩
theorem Walks.after {l' : Loc} (s : ∀ cs, Steps P (lone (b.atR a todo) (K q.isSome cs) w) (lone (b.atR a₁ todo₁) (K q₁.isSome cs) w₁)) (g : Went P base ρ h w ρ₁ h₁ w₁) (hsz : a₁.tmps.size = a.tmps.size) (hq : q₁ = none ∨ q₁ = q) (e : Walks P base b K ρ₁ tr h₁ a₁ w₁ todo₁ todo' q₁ l' h' q' ds') : Walks P base b K ρ tr h a w todo todo' q l' h' q' ds' := by
  obtain ⟨ρ', w', a', s2, g2, r, z, d, kk, o⟩ := e
  exact ⟨ρ', w', a', fun cs => (s cs).trans (s2 cs), g.trans g2, r, z.trans hsz, d, kk, or_trans hq o⟩
end region

theorem runX_cons (x : InvX) (size : Nat) (ops : List Oper) (tr : Tr Value) (o : Oper) (rest : List Oper) (l : Loc) (h : AHeap) (q : Option Value) (ds : List Deferred) :
    runX P x size ops tr (o :: rest) l h q ds = match wantX ops o l tr with
      | some true => goX P x size o tr l h q ds (runX P x size ops tr rest)
      | some false => runX P x size ops tr rest (putL size o.dst undef l) h q ds
      | none => .no := by
  show (match wantX ops o l tr with
      | some b => Bool.rec (motive := fun _ => ResR) (runX P x size ops tr rest (putL size o.dst undef l) h q ds) (goX P x size o tr l h q ds (runX P x size ops tr rest)) b
      | none => .no) = _
  cases wantX ops o l tr with
  | none => rfl
  | some b => cases b <;> rfl

theorem wantX_sound {ops : Array Oper} {o : Oper} {l : Loc} {tr : Tr Value} {tmps : Array Value} {r : Bool} (henv : EnvRel ρ l tr tmps) (e : wantX ops.toList o l tr = some r) : Region.wanted o (yielded ops tmps) = r := by
  unfold wantX at e
  split at e
  · rename_i hg
    cases e
    simp [Region.wanted, hg]
  · rename_i j want hg
    simp only [Region.wanted, hg]
    exact wants_sound henv e

/-- what a region comes to is right -/
def RegOk (P : Program) (base : Nat) (b : Frame) (K : Bool → List Frame → List Frame) (ρ : Ren) (tr : Tr Value) (h : AHeap) (a : Act) (w : World) (todo todo' : List Item) (q : Option Value) : ResR → Prop
  | .ok l' h' q' ds' => Walks P base b K ρ tr h a w todo todo' q l' h' q' ds'
  | .pan v l' h' q' ds' => Ends P base b K ρ tr h a w todo q v l' h' q' ds'
  | .no => True

theorem RegOk.after {b : Frame} {K : Bool → List Frame → List Frame} {tr : Tr Value} {h h₁ : AHeap} {a a₁ : Act} {todo todo₁ todo' : List Item} {q q₁ : Option Value} {ρ₁ : Ren} {w₁ : World} {r : ResR}
    (s : ∀ cs, Steps P (lone (b.atR a todo) (K q.isSome cs) w) (lone (b.atR a₁ todo₁) (K q₁.isSome cs) w₁)) (g : Went P base ρ h w ρ₁ h₁ w₁) (hsz : a₁.tmps.size = a.tmps.size) (hq : q₁ = none ∨ q₁ = q) (e : RegOk P base b K ρ₁ tr h₁ a₁ w₁ todo₁ todo' q₁ r) : RegOk P base b K ρ tr h a w todo todo' q r := by
  cases r with
  | ok l' h' q' ds' => exact Walks.after s g hsz hq e
  | pan v l' h' q' ds' => exact Ends.after s g hsz hq e
  | no => trivial

theorem recX_cases {h h' : AHeap} {q q' : Option Value} {v : Value} (e : recX h q = .ok v h' q') : h' = h ∧ q' = none ∧ (q = none ∧ v = .nilIface ∨ q = some v) := by
  unfold recX at e
  split at e <;> cases e
  · exact ⟨rfl, rfl, .inr rfl⟩
  · exact ⟨rfl, rfl, .inl ⟨rfl, rfl⟩⟩

/-- operations in the order of the text -/
theorem runX_sound {x : InvX} {ops : Array Oper} {b : Frame} {K : Bool → List Frame → List Frame} {k : List Item} {tr : Tr Value} (hx : XOk P x) (hb : b.roundOf = none) : ∀ (rest : List Oper) (i : Nat) (ρ : Ren) (w : World) (l : Loc) (h : AHeap) (q : Option Value) (ds : List Deferred) (a : Act), i + rest.length = ops.size → ops.toList.drop i = rest →
    Sim P base ρ h w → EnvRel ρ l tr a.tmps → DRels ρ ds a.defers → KRel ρ q b.kind K → RegOk P base b K ρ tr h a w (.inRegion ops (List.range' i rest.length) :: k) k q (runX P x a.tmps.size ops.toList tr rest l h q ds)
  | [], i, ρ, w, l, h, q, ds, a, _, _, st, henv, hds, hK => ⟨ρ, w, a, fun cs => .one stepR_region_end, .refl st, henv, rfl, hds, hK, .inr rfl⟩
  | o :: rest, i, ρ, w, l, h, q, ds, a, hlen, hdrop, st, henv, hds, hK => by
    rw [runX_cons]
    have ho : ops[i]? = some o := by
      have : (ops.toList.drop i)[0]? = some o := by rw [hdrop]; rfl
      rw [List.getElem?_drop, Nat.add_zero] at this
      simpa using this
    have hlen' : i + 1 + rest.length = ops.size := by rw [List.length_cons] at hlen; omega
    have hdrop' : ops.toList.drop (i + 1) = rest := by rw [← List.drop_drop, hdrop]; rfl
    rw [List.length_cons, List.range'_succ]
    cases hw0 : wantX ops.toList o l tr with
    | none => trivial
    | some r =>
      have hw := wantX_sound henv hw0
      cases r with
      | false =>
        dsimp only
        have ih := runX_sound (k := k) hx hb rest (i + 1) ρ w (putL a.tmps.size o.dst undef l) h q ds (a.put o.dst undef) hlen' hdrop' st (henv.put .undef o.dst) (by rw [put_defers]; exact hds) hK
        rw [put_size] at ih
        refine RegOk.after (fun cs => ?_) (.refl st) (put_size _ _ _) (.inr rfl) ih
        have := stepR_op_skip (P := P) (b := b) (a := a) (k := k) (cs := K q.isSome cs) (w := w) (ops := ops) (i := i) (rest := List.range' (i + 1) rest.length) (by simp [ho, hw])
        rw [ho] at this
        exact .one this
      | true =>
        dsimp only
        unfold goX
        cases hd : isDefer o.op with
        | some c =>
          dsimp only
          have hop : o.op = .defer c := by
            revert hd
            cases o.op <;> intro hd <;> cases hd <;> rfl
          cases hdd : deferX (ev l tr) c with
          | none => trivial
          | some d =>
            dsimp only
            have hdf : ∃ f, c.callee = .value f ∧ deferOf (ev l tr f) (evs (ev l tr) c.args.toList) = some d := by
              unfold deferX at hdd
              split at hdd
              · rename_i f hc; exact ⟨f, hc, hdd⟩
              · cases hdd
            obtain ⟨f, hc, hdo⟩ := hdf
            have ha : VRels ρ (evs (ev l tr) c.args.toList) (c.args.map a.eval).toList := by
              rw [Array.toList_map]; exact evs_rel henv.ev _
            obtain ⟨g, cap, cap', xs, xs', rfl, h1, h2, h3⟩ := deferOf_rel (P := P) (w := w) hdo (henv.ev f) ha
            have hres : (resolve a.eval c o.type).run P w = .ok ⟨.fn (.func g) ⟨cap'⟩, ⟨xs'⟩⟩ w := by
              unfold resolve; simp only [hc]; exact h3
            let a₁ : Act := ({ a with defers := ⟨.fn (.func g) ⟨cap'⟩, ⟨xs'⟩⟩ :: a.defers } : Act).put o.dst undef
            have hsz : a₁.tmps.size = a.tmps.size := put_size _ _ _
            have ih := runX_sound (k := k) hx hb rest (i + 1) ρ w (putL a.tmps.size o.dst undef l) h q (⟨.fn (.func g) ⟨cap⟩, ⟨xs⟩⟩ :: ds) a₁ hlen' hdrop' st (EnvRel.put (a := { a with defers := ⟨.fn (.func g) ⟨cap'⟩, ⟨xs'⟩⟩ :: a.defers }) henv .undef o.dst) (by
              show DRels ρ _ (Act.put _ _ _).defers
              rw [put_defers]; exact .fn rfl h1 h2 rfl hds) hK
            rw [hsz] at ih
            exact RegOk.after (fun cs => defer_steps ho hw hop hb hres) (.refl st) hsz (.inr rfl) ih
        | none =>
          dsimp only
          rw [finX_eq]
          cases hop : opX P x o.op (ev l tr) h q with
          | no => trivial
          | pan v h' =>
            dsimp only
            obtain ⟨⟨ρ', v', w', p1, p2, p3⟩, hnd⟩ := opX_pan hx st henv.ev hd hop
            exact ⟨ρ', w', a, v', _, fun cs => goes_steps p1 ho hw hnd, p3, p2, henv.mono p3.le, rfl, hds.mono p3.le, hK.mono p3.le, .inr rfl⟩
          | ok v h' q' =>
            dsimp only
            rw [forceV_eq]
            obtain ⟨h1, hnd⟩ := opX_ok hx st henv.ev hd hop
            rcases h1 with ⟨⟨ρ₁, v', w₁, d1, r1, g1⟩, rfl⟩ | ⟨hr, hrec⟩
            · have ih := runX_sound (k := k) hx hb rest (i + 1) ρ₁ w₁ (putL a.tmps.size o.dst v l) h' q' ds (a.put o.dst v') hlen' hdrop' g1.sim ((henv.mono g1.le).put r1 o.dst) (by rw [put_defers]; exact hds.mono g1.le) (hK.mono g1.le)
              rw [put_size] at ih
              exact RegOk.after (fun cs => does_steps d1 ho hw hnd) g1 (put_size _ _ _) (.inr rfl) ih
            · obtain ⟨rfl, rfl, hc⟩ := recX_cases hrec
              rcases hc with ⟨rfl, rfl⟩ | rfl
              · have ih := runX_sound (k := k) hx hb rest (i + 1) ρ w (putL a.tmps.size o.dst .nilIface l) h' none ds (a.put o.dst .nilIface) hlen' hdrop' st (henv.put .nilIface o.dst) (by rw [put_defers]; exact hds) hK
                rw [put_size] at ih
                exact RegOk.after (fun cs => recover_none ho hw hnd hb hr (hK.1 _ cs rfl)) (.refl st) (put_size _ _ _) (.inr rfl) ih
              · obtain ⟨v', hv, ht⟩ := hK.2 v rfl
                have ih := runX_sound (k := k) hx hb rest (i + 1) ρ w (putL a.tmps.size o.dst v l) h' none ds (a.put o.dst v') hlen' hdrop' st (henv.put hv o.dst) (by rw [put_defers]; exact hds) hK.off
                rw [put_size] at ih
                exact RegOk.after (q₁ := none) (fun cs => recover_some ho hw hnd hb hr (ht _ cs rfl)) (.refl st) (put_size _ _ _) (.inl rfl) ih
end Go.Ev
/- The evaluator with panics: items, and a frame's run. -/
namespace Go.Ev

variable {P : Program} {base : Nat} {ρ : Ren} {w : World}

theorem edges_of {j : Nat} : ∀ {es : List Edge}, edgesOk j es = true → ∀ {e : Edge}, e ∈ es → Region.binds .any e = true → e.on < j
  | [], _, e, he, _ => by cases he
  | x :: es, h, e, he, hb => by
    have h2 : (Bool.rec (motive := fun _ => Bool) (edgesOk j es) (Bool.rec (motive := fun _ => Bool) false (edgesOk j es) (Nat.blt x.on j)) (Region.binds .any x) : Bool) = true := h
    cases he with
    | head =>
      rw [hb] at h2
      cases hlt : Nat.blt x.on j with
      | true => exact blt_lt hlt
      | false => rw [hlt] at h2; cases h2
    | tail _ he =>
      refine edges_of (es := es) ?_ he hb
      cases hb' : Region.binds .any x with
      | false => rw [hb'] at h2; exact h2
      | true =>
        rw [hb'] at h2
        cases hlt : Nat.blt x.on j with
        | true => rw [hlt] at h2; exact h2
        | false => rw [hlt] at h2; cases h2

theorem chainB_edges {l : List Oper} (hc : chainB l = true) {j : Nat} {o : Oper} (ho : l[j]? = some o) : edgesOk j o.after.toList = true := by
  have hj : j < l.length := by
    rcases Nat.lt_or_ge j l.length with h | h
    · exact h
    · rw [List.getElem?_eq_none h] at ho; cases ho
  have h1 := (ble_and (allBelow_iff.1 hc j hj)).1
  rw [nth_eq, ho] at h1
  exact h1
theorem chainB_must {l : List Oper} (hc : chainB l = true) {i : Nat} (hj : i + 1 < l.length) : mustBefore l i (i + 1) = true :=
  (ble_and (allBelow_iff.1 hc (i + 1) hj)).2

theorem chain_go {ops : Array Oper} (hc : chainB ops.toList = true) : ∀ (fuel t m : Nat) (listed : Array Bool), listed.size = ops.size → (∀ j, Listed listed j ↔ j < m) → m + fuel = ops.size →
    Region.linearise.go .any ops fuel t listed [] = List.range' m fuel
  | 0, t, m, listed, _, _, _ => by simp [Region.linearise.go]
  | fuel + 1, t, m, listed, hsz, hl, hm => by
    have hun : ∀ j, ¬ j < m → listed.getD j false = false := fun j hj => by
      have := mt (hl j).1 hj
      unfold Listed at this
      simpa using this
    have hclosed : Closed ops.toList (fun j => j < m) := fun j o e ho he hb hj => by
      have := edges_of (chainB_edges hc ho) he hb
      show e.on < m
      have hj' : j < m := hj
      omega
    have hone : ∀ j, j ∈ Region.ready .any ops listed → j = m := fun j hj => by
      obtain ⟨h1, o, ho, hall⟩ := mem_ready.1 hj
      have hjl := op_lt ho
      have hge : ¬ j < m := fun h => by
        have := (hl j).2 h
        unfold Listed at this
        rw [listed_lt (by omega), this] at h1
        cases h1
      rcases Nat.lt_or_ge m j with h | h
      · exfalso
        obtain ⟨i, rfl⟩ : ∃ i, j = i + 1 := ⟨j - 1, by omega⟩
        have hr := must_reach (chainB_must hc (i := i) (by simpa using hjl))
        have key : ∀ x y, Reach ops.toList x y → ops.toList[y]? = some o → x < m := by
          intro x y hr hy
          cases hr with
          | edge ho' he hb =>
            rw [hy] at ho'; cases ho'
            exact (hl _).1 (hall _ (by simpa using he) hb)
          | trans ho' he hb hr' =>
            rw [hy] at ho'; cases ho'
            exact hclosed.reach hr' ((hl _).1 (hall _ (by simpa using he) hb))
        have hin : i < m := key _ _ hr (by simpa using ho)
        omega
      · omega
    obtain ⟨o, ho⟩ := op_at (ops := ops) (i := m) (by omega)
    have hmem : m ∈ Region.ready .any ops listed := mem_ready.2 ⟨by rw [listed_lt (by omega)]; exact hun m (Nat.lt_irrefl m), o, ho, fun e he hb => by
      have := edges_of (chainB_edges hc (j := m) (o := o) (by simpa using ho)) (by simpa using he) hb
      exact (hl e.on).2 this⟩
    have hidx : (Region.ready .any ops listed)[t % (Region.ready .any ops listed).length]? = some m := by
      have hpos : 0 < (Region.ready .any ops listed).length := List.length_pos_of_mem hmem
      have hlt := Nat.mod_lt t hpos
      have h1 := List.getElem?_eq_getElem hlt
      rw [h1, hone _ (List.getElem_mem hlt)]
    simp only [Region.linearise.go]
    change (match (Region.ready .any ops listed)[t % (Region.ready .any ops listed).length]? with
      | some i => Region.linearise.go .any ops fuel (t / (Region.ready .any ops listed).length) (listed.setIfInBounds i true) [i]
      | none => [].reverse) = _
    rw [hidx]
    dsimp only
    rw [linearise_go_acc, List.reverse_singleton, List.singleton_append, List.range'_succ]
    congr 1
    refine chain_go hc fuel _ (m + 1) (listed.setIfInBounds m true) (by rw [Array.size_setIfInBounds]; exact hsz) (fun j => ?_) (by omega)
    rw [listed_set (by omega), hl j]
    omega

theorem chain_schedule {ops : Array Oper} (hc : chainB ops.toList = true) (t : Nat) : Region.linearise .any ops t = List.range' 0 ops.size := by
  unfold Region.linearise
  refine chain_go hc ops.size t 0 _ (by simp) (fun j => ?_) (by omega)
  unfold Listed
  simp only [Array.getD_eq_getD_getElem?, Array.getElem?_replicate]
  constructor
  · intro h
    split at h <;> simp at h
  · intro h; exact absurd h (Nat.not_lt_zero j)

/-- from one state of a frame on to another one -/
def MovesX (P : Program) (base : Nat) (c : Ctx) (b : Frame) (K : Bool → List Frame → List Frame) (ρ : Ren) (h : AHeap) (a : Act) (w : World) (todo : List Item) (q : Option Value) (tr' : Tr Value) (defers' : List Deferred) (h' : AHeap) (todo' : List Item) (q' : Option Value) : Prop :=
  ∃ ρ' w' a', (∀ cs, Steps P (lone (b.atR a todo) (K q.isSome cs) w) (lone (b.atR a' todo') (K q'.isSome cs) w')) ∧ Went P base ρ h w ρ' h' w' ∧ FrR P base c b ρ' tr' defers' h' a' w' ∧ KRel ρ' q' b.kind K ∧ (q' = none ∨ q' = q)

/-- how a frame's run panics -/
def EndsX (P : Program) (base : Nat) (c : Ctx) (b : Frame) (K : Bool → List Frame → List Frame) (ρ : Ren) (h : AHeap) (a : Act) (w : World) (todo : List Item) (q : Option Value) (v : Value) (tr' : Tr Value) (h' : AHeap) (q' : Option Value) (ds' : List Deferred) : Prop :=
  ∃ ρ' w' a' v' todo', (∀ cs, Steps P (lone (b.atR a todo) (K q.isSome cs) w) (lone ((b.atR a' todo').raise [{ v := v', recovered := false }]) (K q'.isSome cs) w')) ∧ Went P base ρ h w ρ' h' w' ∧ VRel ρ' v v' ∧ FrR P base c b ρ' tr' ds' h' a' w' ∧ (q' = none ∨ q' = q)

def ItemOkX (P : Program) (base : Nat) (c : Ctx) (b : Frame) (K : Bool → List Frame → List Frame) (tr : Tr Value) (defers : List Deferred) (h : AHeap) (x : Item) (k : List Item) (q : Option Value) (nx : NxX) : Prop :=
  ∀ (ρ : Ren) (w : World) (a : Act), FrR P base c b ρ tr defers h a w → KRel ρ q b.kind K → match nx with
    | .go todo => MovesX P base c b K ρ h a w (x :: k) q tr defers h todo q
    | .set tr' h' todo defers' q' => MovesX P base c b K ρ h a w (x :: k) q tr' defers' h' todo q'
    | .done => EndOk (x :: k)
    | .pan v tr' h' q' ds' => EndsX P base c b K ρ h a w (x :: k) q v tr' h' q' ds'
    | .fail => True

theorem lift_ok {c : Ctx} {b : Frame} {K : Bool → List Frame → List Frame} {tr : Tr Value} {defers : List Deferred} {h : AHeap} {x : Item} {k : List Item} {q : Option Value} {nx : Nx} (hi : ItemOk P base c b tr defers h x k nx) : ItemOkX P base c b K tr defers h x k q (liftX q nx) := by
  intro ρ w a f hK
  have := hi ρ w a f
  cases nx with
  | go todo =>
    obtain ⟨ρ', w', a', s, g, f'⟩ := this
    exact ⟨ρ', w', a', fun cs => s _, g, f', hK.mono g.le, .inr rfl⟩
  | set tr' h' todo defers' =>
    obtain ⟨ρ', w', a', s, g, f'⟩ := this
    exact ⟨ρ', w', a', fun cs => s _, g, f', hK.mono g.le, .inr rfl⟩
  | done => exact this
  | fail => trivial

theorem regionX_ok {c : Ctx} {b : Frame} {K : Bool → List Frame → List Frame} {tr : Tr Value} {defers : List Deferred} {h : AHeap} {x : Item} {k : List Item} {q : Option Value} {r : ResR}
    (H : ∀ (ρ : Ren) (w : World) (a : Act), FrR P base c b ρ tr defers h a w → KRel ρ q b.kind K → RegOk P base b K ρ tr h a w (x :: k) k q r) : ItemOkX P base c b K tr defers h x k q (regionX c.shared tr k r) := by
  intro ρ w a f hK
  have := H ρ w a f hK
  cases r with
  | ok l h' q' ds =>
    unfold regionX
    dsimp only
    rw [flushK_eq]
    dsimp only
    obtain ⟨ρ', w', a', s, g, e, z, d, kk, o⟩ := this
    exact ⟨ρ', w', a', s, g, ⟨g.sim, e.flush (by rw [z]; exact f.tmps.1) (fun t v e => (f.tmps.2 t v e).1), f.round.mono g.le, d⟩, kk, o⟩
  | pan v l h' q' ds =>
    unfold regionX
    dsimp only
    rw [flushK_eq]
    dsimp only
    obtain ⟨ρ', w', a', v', todo', s, g, r, e, z, d, kk, o⟩ := this
    exact ⟨ρ', w', a', v', todo', s, g, r, ⟨g.sim, e.flush (by rw [z]; exact f.tmps.1) (fun t v e => (f.tmps.2 t v e).1), f.round.mono g.le, d⟩, o⟩
  | no => trivial

theorem item_okX {cx : CtxX} {b : Frame} {K : Bool → List Frame → List Frame} (hm : P.follows .mixedOrders = true) (hP : cx.c.P = P) (hx : XOk P cx.x) (hci : cx.c.inv = asInv cx.x) (hfn : b.fn = cx.c.fn) (hb : b.roundOf = none) (x : Item) (tr : Tr Value) (defers : List Deferred) (h : AHeap) (k : List Item) (q : Option Value) :
    ItemOkX P base cx.c b K tr defers h x k q ((itemX x).f cx tr defers h k q) := by
  have hinv : InvOk P cx.c.inv := by rw [hci]; exact hx.val
  have hlift : ∀ x, ItemOkX P base cx.c b K tr defers h x k q (liftX q ((itemC x).f cx.c tr defers h k)) := fun x => lift_ok (item_ok hm hP hinv hfn x tr defers h k)
  cases x with
  | code x =>
    cases x with
    | region id ops draw =>
      have htext : ∀ (ρ : Ren) (w : World) (a : Act), FrR P base cx.c b ρ tr defers h a w → KRel ρ q b.kind K →
          RegOk P base b K ρ tr h a w (.inRegion ops (List.range' 0 ops.size) :: k) k q (runX cx.c.P cx.x cx.c.size ops.toList tr ops.toList .nil h q defers) := fun ρ w a f hK => by
        have := runX_sound (P := P) (base := base) (ops := ops) (K := K) (k := k) (tr := tr) hx hb ops.toList 0 ρ w .nil h q defers a (by simp) rfl f.sim f.tmps.env f.defs hK
        rw [hP, ← f.tmps.1]
        simpa using this
      cases draw with
      | false =>
        refine regionX_ok fun ρ w a f hK => ?_
        refine RegOk.after (q₁ := q) (fun cs => ?_) (.refl f.sim) rfl (.inr rfl) (htext ρ w a f hK)
        refine .one ?_
        rw [stepR_region, List.range_eq_range']
      | true =>
        show ItemOkX P base cx.c b K tr defers h _ k q ((drawX ops).f cx tr defers h k q)
        unfold drawX
        cases hc : chainB ops.toList with
        | false => exact hlift (.code (.region id ops true))
        | true =>
          refine regionX_ok fun ρ w a f hK => ?_
          have hd := f.sim.drew
          refine RegOk.after (q₁ := q) (w₁ := w.drew) (fun cs => ?_) hd rfl (.inr rfl) (htext ρ w.drew a (f.wentBy hd) hK)
          refine .one ?_
          rw [stepR_region_draw]
          simp only [Region.schedule, hm, Bool.true_or, if_true, chain_schedule hc]
          rfl
    | _ => exact hlift _
  | _ => exact hlift _

theorem runFX_cons (c : CtxX) (n : Nat) (tr : Tr Value) (defers : List Deferred) (h : AHeap) (q : Option Value) (x : Item) (k : List Item) : runFX c (n + 1) tr defers h q (x :: k) = nextX tr defers h q x k (runFX c n) ((itemX x).f c tr defers h k q) := rfl

def RunOk (P : Program) (base : Nat) (c : Ctx) (b : Frame) (K : Bool → List Frame → List Frame) (ρ : Ren) (h : AHeap) (a : Act) (w : World) (todo : List Item) (q : Option Value) : StX → Prop
  | .ret tr' todo' defers' h' q' => MovesX P base c b K ρ h a w todo q tr' defers' h' todo' q' ∧ EndOk todo'
  | .pan v tr' h' q' ds' => EndsX P base c b K ρ h a w todo q v tr' h' q' ds'
  | .no => True

theorem RunOk.after {c : Ctx} {b : Frame} {K : Bool → List Frame → List Frame} {h h₁ : AHeap} {a a₁ : Act} {todo todo₁ : List Item} {q q₁ : Option Value} {ρ₁ : Ren} {w₁ : World} {r : StX}
    (s : ∀ cs, Steps P (lone (b.atR a todo) (K q.isSome cs) w) (lone (b.atR a₁ todo₁) (K q₁.isSome cs) w₁)) (g : Went P base ρ h w ρ₁ h₁ w₁) (hsz : a₁.tmps.size = a.tmps.size) (hq : q₁ = none ∨ q₁ = q) (e : RunOk P base c b K ρ₁ h₁ a₁ w₁ todo₁ q₁ r) : RunOk P base c b K ρ h a w todo q r := by
  cases r with
  | ret tr' todo' defers' h' q' =>
    obtain ⟨⟨ρ', w', a', s2, g2, f, kk, o⟩, e2⟩ := e
    exact ⟨⟨ρ', w', a', fun cs => (s cs).trans (s2 cs), g.trans g2, f, kk, or_trans hq o⟩, e2⟩
  | pan v tr' h' q' ds' =>
    obtain ⟨ρ', w', a', v', todo', s2, g2, r, f, o⟩ := e
    exact ⟨ρ', w', a', v', todo', fun cs => (s cs).trans (s2 cs), g.trans g2, r, f, or_trans hq o⟩
  | no => trivial

/-- a frame's run -/
theorem runFX_sound {cx : CtxX} {b : Frame} {K : Bool → List Frame → List Frame} (hm : P.follows .mixedOrders = true) (hP : cx.c.P = P) (hx : XOk P cx.x) (hci : cx.c.inv = asInv cx.x) (hfn : b.fn = cx.c.fn) (hb : b.roundOf = none) : ∀ (n : Nat) (ρ : Ren) (w : World) (a : Act) (tr : Tr Value) (defers : List Deferred) (h : AHeap) (q : Option Value) (todo : List Item),
    FrR P base cx.c b ρ tr defers h a w → KRel ρ q b.kind K → RunOk P base cx.c b K ρ h a w todo q (runFX cx n tr defers h q todo)
  | 0, _, _, _, _, _, _, _, _, _, _ => trivial
  | n + 1, ρ, w, a, tr, defers, h, q, [], f, hK => ⟨⟨ρ, w, a, fun cs => .refl _ _, .refl f.sim, f, hK, .inr rfl⟩, trivial⟩
  | n + 1, ρ, w, a, tr, defers, h, q, x :: k, f, hK => by
    rw [runFX_cons]
    have hi := item_okX (base := base) (b := b) (K := K) hm hP hx hci hfn hb x tr defers h k q ρ w a f hK
    revert hi
    generalize (itemX x).f cx tr defers h k q = nx
    intro hi
    cases nx with
    | go todo =>
      obtain ⟨ρ', w', a', s1, g1, f1, k1, o1⟩ := hi
      exact RunOk.after s1 g1 (by rw [f1.tmps.1, f.tmps.1]) o1 (runFX_sound hm hP hx hci hfn hb n ρ' w' a' tr defers h q todo f1 k1)
    | set tr' h' todo defers' q' =>
      obtain ⟨ρ', w', a', s1, g1, f1, k1, o1⟩ := hi
      exact RunOk.after s1 g1 (by rw [f1.tmps.1, f.tmps.1]) o1 (runFX_sound hm hP hx hci hfn hb n ρ' w' a' tr' defers' h' q' todo f1 k1)
    | done => exact ⟨⟨ρ, w, a, fun cs => .refl _ _, .refl f.sim, f, hK, .inr rfl⟩, hi⟩
    | pan v tr' h' q' ds' => exact hi
    | fail => trivial
end Go.Ev
/- The evaluator with panics: frames on their way out, calls, and a closed call's result. -/
namespace Go.Ev

variable {P : Program} {base : Nat} {ρ : Ren} {w : World}

/-- what is pending, and a frame's mode -/
def MRel (ρ : Ren) (pend : Option Value) (m : FrameMode) : Prop :=
  (pend = none ∧ m = .returning) ∨ ∃ v v', pend = some v ∧ VRel ρ v v' ∧ m = .panicking [{ v := v', recovered := false }]

theorem MRel.run {pend : Option Value} {m : FrameMode} (h : MRel ρ pend m) : m ≠ .run := by
  rcases h with ⟨_, rfl⟩ | ⟨v, v', _, _, rfl⟩ <;> exact fun h => by cases h
theorem MRel.mono {ρ ρ' : Ren} (hl : ρ.le ρ') {pend : Option Value} {m : FrameMode} (h : MRel ρ pend m) : MRel ρ' pend m := by
  rcases h with h | ⟨v, v', h1, h2, h3⟩
  · exact .inl h
  · exact .inr ⟨v, v', h1, h2.mono hl, h3⟩

theorem unwindX_nil (x : InvX) (pend : Option Value) (h : AHeap) : unwindX x [] pend h = some ⟨pend, h⟩ := rfl

/-- the deferred calls -/
theorem unwindX_sound {x : InvX} (hnum : NoNum P) (hx : XOk P x) : ∀ {ds ds' : List Deferred} {ρ : Ren} {pend : Option Value} {h : AHeap} {o : Out} {fr : Frame} {w : World}, DRels ρ ds ds' → MRel ρ pend fr.mode → fr.defers = ds' → unwindX x ds pend h = some o → Sim P base ρ h w →
    ∃ ρ' w' m', (∀ cs, Steps P (lone fr cs w) (lone { fr with defers := [], mode := m' } cs w')) ∧ Went P base ρ h w ρ' o.h w' ∧ MRel ρ' o.pend m' ∧ (pend = none → o.pend = none)
  | _, _, ρ, pend, h, o, fr, w, .nil, hm, hd, e, st => by
    rw [unwindX_nil] at e
    cases e
    refine ⟨ρ, w, fr.mode, fun cs => ?_, .refl st, hm, id⟩
    have : ({ fr with defers := [], mode := fr.mode } : Frame) = fr := by rw [← hd]
    rw [this]; exact .refl _ _
  | _, _, ρ, pend, h, o, fr, w, .cons (d := d) (d' := d') (l := l) (l' := l') (b := b) (p := p) h1 h2 h3 t, hm, hd, e, st => by
    have e' : (match d.target with
      | .collected b => match h.get b with
        | some (.deferred (some [])) => h.setK b (.deferred none) fun h => unwindX x l pend h
        | _ => none
      | .fn (.func g) cap => match x (.defd pend) (.func g) (d.args.toList ++ cap.toList) h with
        | .ok _ h q => unwindX x l q h
        | _ => none
      | _ => none) = some o := e
    rw [h1] at e'
    dsimp only at e'
    split at e'
    · rename_i hg
      rw [AHeap.setK_eq] at e'
      have ho := st.rel.rd _ _ _ h2 hg
      have hx' : w.heap[p.block]? = some (.deferred (some [])) := by
        revert ho
        generalize w.heap[p.block]? = x
        intro ho
        cases x with
        | none => exact ho.elim
        | some x => cases x with
          | deferred d => cases d with
            | none => exact ho.elim
            | some ds => cases ds with
              | nil => rfl
              | cons => exact ho.elim
          | _ => exact ho.elim
      have g := st.putObj (o := .deferred none) (x' := .deferred none) h2 hg rfl rfl hx' trivial
      have s1 := fun cs => step_collected (cs := cs) (w := w) hm.run hd h3 (run_takeDeferred (P := P) hx')
      obtain ⟨ρ', w', m', s2, g2, k2, n2⟩ := unwindX_sound hnum hx (fr := { fr with defers := [] ++ l' }) (ds' := l') t hm rfl e' g.sim
      exact ⟨ρ', w', m', fun cs => .head (s1 cs) (s2 cs), g.trans g2, k2, n2⟩
    · cases e'
  | _, _, ρ, pend, h, o, fr, w, .fn (d := d) (d' := d') (l := l) (l' := l') (g := g) (cap := cap) (cap' := cap') (xs := xs) (xs' := xs') h1 h2 h3 h4 t, hm, hd, e, st => by
    subst h1
    have e' : (match x (.defd pend) (.func g) (xs ++ cap) h with
        | .ok _ h q => unwindX x l q h
        | _ => none) = some o := e
    split at e'
    · rename_i v h₁ q hr
      let c₀ : Frame := { fr with defers := l' }
      have ha : VRels ρ (xs ++ cap) (xs' ++ cap') := h3.append h2
      have hinv : ∀ fn body, P.funcs[g]? = some fn → fn.body = some body → (invoke d'.target d'.args).run P w = .ok (.enter g (xs' ++ cap').toArray) w := fun fn body hf hb => by
        have k1 := run_enter (P := P) (w := w) (args := (xs' ++ cap').toArray) hnum hf hb
        have k2 : invoke (.fn (.func g) #[]) (xs' ++ cap').toArray = callFunc g ((xs' ++ cap').toArray ++ #[]) := rfl
        have k3 : invoke d'.target d'.args = callFunc g (⟨xs'⟩ ++ ⟨cap'⟩) := by rw [h4]; rfl
        have : (⟨xs'⟩ ++ ⟨cap'⟩ : Array Value) = (xs' ++ cap').toArray ++ #[] := by apply Array.ext'; simp
        rw [k3, this, ← k2]; exact k1
      have htar : d'.target = .fn (.func g) ⟨cap'⟩ := by rw [h4]
      rcases hm with ⟨rfl, hmode⟩ | ⟨pv, pv', rfl, hpv, hmode⟩
      · have hK : KRel ρ none .deferred (fun _ cs => c₀ :: cs) := by
          refine ⟨fun fr' cs hk => ?_, fun v e => by cases e⟩
          rw [tryRecover_deferred hk]
          simp [recoverD, c₀, hmode]
        obtain ⟨ρ₁, v', w₁, s1, g1, hq, fn, body, hf, hb⟩ := hx.dfr base ρ w none q g _ _ h h₁ v _ hr ha st hK
        have hq0 : q = none := by rcases hq with h | h <;> exact h
        subst hq0
        obtain ⟨ρ', w', m', s2, g2, k2, n2⟩ := unwindX_sound hnum hx (fr := { c₀ with mode := .returning }) (ds' := l') (t.mono g1.le) (.inl ⟨rfl, rfl⟩) rfl e' g1.sim
        refine ⟨ρ', w', m', fun cs => ?_, g1.trans g2, k2, n2⟩
        have a1 := step_defer (cs := cs) (w := w) (P := P) (by rw [hmode]; exact fun h => by cases h) hd htar (hinv fn body hf hb)
        obtain ⟨fr', a2, a3, a4⟩ := s1 cs
        have a5 := step_going_returned (c := c₀) (cs := cs) a3 a4
        have hset : settle c₀.mode = .returning := by simp [c₀, hmode, settle]
        rw [hset] at a5
        exact .head a1 (a2.trans (.head a5 (s2 cs)))
      · let c₁ : Frame := { c₀ with mode := .panicking [{ v := pv', recovered := true }] }
        have hK : KRel ρ (some pv) .deferred (fun r cs => cond r c₀ c₁ :: cs) := by
          refine ⟨fun fr' cs hk => ?_, fun v e => ?_⟩
          · rw [tryRecover_deferred hk]
            simp [recoverD, c₁]
          · cases e
            refine ⟨pv', hpv, fun fr' cs hk => ?_⟩
            rw [tryRecover_deferred hk]
            simp [recoverD, c₁, c₀, hmode]
        obtain ⟨ρ₁, v', w₁, s1, g1, hq, fn, body, hf, hb⟩ := hx.dfr base ρ w (some pv) q g _ _ h h₁ v _ hr ha st hK
        have a1 := fun cs => step_defer (cs := cs) (w := w) (P := P) (by rw [hmode]; exact fun h => by cases h) hd htar (hinv fn body hf hb)
        rcases hq with rfl | rfl
        · obtain ⟨ρ', w', m', s2, g2, k2, n2⟩ := unwindX_sound hnum hx (fr := { c₀ with mode := .returning }) (ds' := l') (t.mono g1.le) (.inl ⟨rfl, rfl⟩) rfl e' g1.sim
          refine ⟨ρ', w', m', fun cs => ?_, g1.trans g2, k2, fun h => by cases h⟩
          obtain ⟨fr', a2, a3, a4⟩ := s1 cs
          have a5 := step_going_returned (c := c₁) (cs := cs) a3 a4
          have hset : settle c₁.mode = .returning := by simp [c₁, settle]
          rw [hset] at a5
          exact .head (a1 cs) (a2.trans (.head a5 (s2 cs)))
        · obtain ⟨ρ', w', m', s2, g2, k2, n2⟩ := unwindX_sound hnum hx (fr := c₀) (ds' := l') (t.mono g1.le) (.inr ⟨pv, pv', rfl, hpv.mono g1.le, hmode⟩) rfl e' g1.sim
          refine ⟨ρ', w', m', fun cs => ?_, g1.trans g2, k2, fun h => by cases h⟩
          obtain ⟨fr', a2, a3, a4⟩ := s1 cs
          have a5 := step_going_returned (c := c₀) (cs := cs) a3 a4
          have hset : settle c₀.mode = c₀.mode := by
            have : c₀.mode = .panicking [{ v := pv', recovered := false }] := hmode
            rw [this]; rfl
          rw [hset] at a5
          exact .head (a1 cs) (a2.trans (.head a5 (s2 cs)))
    · cases e'

/-- how a frame leaves -/
def Leaves' (P : Program) (base : Nat) (ρ : Ren) (h : AHeap) (w : World) (f : FuncId) (kind : CallKind) (fr₀ : Frame) (K : Bool → List Frame → List Frame) (q : Option Value) : ResV → Prop
  | .ok v h' q' => ∃ ρ' v' w', (∀ cs, ∃ fr, Steps P (lone fr₀ (K q.isSome cs) w) (lone fr (K q'.isSome cs) w') ∧ fr.fn = f ∧ fr.kind = kind ∧ fr.going P w' (.returned v')) ∧ VRel ρ' v v' ∧ Went P base ρ h w ρ' h' w' ∧ (q' = none ∨ q' = q)
  | .pan v h' => ∃ ρ' v' w' q', (∀ cs, ∃ fr, Steps P (lone fr₀ (K q.isSome cs) w) (lone fr (K q'.isSome cs) w') ∧ fr.fn = f ∧ fr.going P w' (.panicked [{ v := v', recovered := false }])) ∧ VRel ρ' v v' ∧ Went P base ρ h w ρ' h' w' ∧ (q' = none ∨ q' = q)
  | .no => True

theorem enterX_sound {o : Opt} {x : InvX} {m : Md} {f : FuncId} {fn : Func} {body : Code} {args args' : List Value} {h : AHeap} {kind : CallKind} {K : Bool → List Frame → List Frame} (hm : P.follows .mixedOrders = true) (hnum : NoNum P) (hx : XOk P x) (hf : P.funcs[f]? = some fn) (hb : fn.body = some body)
    (ha : VRels ρ args args') (st : Sim P base ρ h w) (hK : KRel ρ m.q kind K) : Leaves' P base ρ h w f kind (Frame.enter P f args'.toArray kind) K m.q (enterX P o x m f fn body args h) := by
  unfold enterX
  rw [frmOf_eq]
  dsimp only
  cases hle : (Nat.ble args.length (fn.params.size + fn.nfree) && Nat.ble args.length fn.ntmps) with
  | false => trivial
  | true =>
    rw [cond_true]
    obtain ⟨h1, h2⟩ := ble_and hle
    have h1 := Nat.le_of_ble_eq_true h1
    have h2 := Nat.le_of_ble_eq_true h2
    let b : Frame := Frame.enter P f args'.toArray kind
    let a : Act := ⟨args'.toArray ++ Array.replicate (fn.ntmps - args'.toArray.size) undef, []⟩
    have hb0 : Frame.enter P f args'.toArray kind = b.atR a [.code body] := by
      simp [b, a, Frame.enter, Frame.atR, hf, hb]
    have hfr : FrR P base ⟨P, asInv x, f, fn.ntmps, none, maskOf o fn body⟩ b ρ (treeOf args 0 .lf) [] h a w := ⟨st, args_rel ha h1 h2, trivial, .nil⟩
    have hrun := runFX_sound (cx := ⟨⟨P, asInv x, f, fn.ntmps, none, maskOf o fn body⟩, x⟩) (b := b) (K := K) hm rfl hx rfl rfl rfl o.steps ρ w a (treeOf args 0 .lf) [] h m.q [.code body] hfr hK
    rw [hb0]
    revert hrun
    generalize runFX ⟨⟨P, asInv x, f, fn.ntmps, none, maskOf o fn body⟩, x⟩ o.steps (treeOf args 0 .lf) [] h m.q [.code body] = r
    intro hrun
    cases r with
    | no => trivial
    | ret tr todo defers h₁ q' =>
      unfold endX
      dsimp only
      cases hret : retOk todo with
      | false => trivial
      | true =>
        rw [cond_true]
        obtain ⟨⟨ρ₁, w₁, a₁, s1, g1, f1, k1, o1⟩, hend⟩ := hrun
        have s2 : ∀ cs, Steps P (lone (b.atR a₁ todo) cs w₁) (lone { b.atR a₁ todo with mode := .returning } cs w₁) := fun cs => by
          cases todo with
          | nil => exact .one (stepR_end rfl)
          | cons x k =>
            cases x with
            | code x => cases x with
              | ret => exact .one (stepR_ret rfl)
              | _ => cases hret
            | _ => cases hret
        cases hun : unwindX x defers none h₁ with
        | none => trivial
        | some out =>
          obtain ⟨ρ₂, w₂, m₂, s3, g2, k2, n2⟩ := unwindX_sound (fr := { b.atR a₁ todo with mode := .returning }) hnum hx f1.defs (.inl ⟨rfl, rfl⟩) rfl hun f1.sim
          obtain ⟨pd, h₂⟩ := out
          have hpd : pd = none := n2 rfl
          subst hpd
          have hm₂ : m₂ = .returning := by
            rcases k2 with ⟨_, h⟩ | ⟨v, v', h, _⟩
            · exact h
            · cases h
          subst hm₂
          unfold leaveX
          dsimp only
          cases hvs : resAll P tr h₂ fn.results.toList with
          | none => trivial
          | some vs =>
            dsimp only
            obtain ⟨v', j1, j2⟩ := results_sound g2.sim ((f1.tmps.mono g2.le).env) hvs
            exact ⟨ρ₂, v', w₂, fun cs => ⟨{ b.atR a₁ todo with mode := .returning, defers := [] }, (s1 cs).trans ((s2 _).trans (s3 _)), rfl, rfl, rfl, rfl, fn, hf, j1⟩, j2, g1.trans g2, o1⟩
    | pan v tr h₁ q' ds =>
      unfold endX
      dsimp only
      obtain ⟨ρ₁, w₁, a₁, v', todo', s1, g1, r1, f1, o1⟩ := hrun
      cases hun : unwindX x ds (some v) h₁ with
      | none => trivial
      | some out =>
        obtain ⟨ρ₂, w₂, m₂, s3, g2, k2, n2⟩ := unwindX_sound (fr := (b.atR a₁ todo').raise [{ v := v', recovered := false }]) hnum hx f1.defs (.inr ⟨v, v', rfl, r1, rfl⟩) rfl hun g1.sim
        obtain ⟨pd, h₂⟩ := out
        unfold leaveX
        cases pd with
        | some pv =>
          rcases k2 with ⟨h, _⟩ | ⟨u, u', h, hu, rfl⟩
          · cases h
          · cases h
            exact ⟨ρ₂, u', w₂, q', fun cs => ⟨_, (s1 cs).trans (s3 _), rfl, rfl, rfl, fn, hf⟩, hu, g1.trans g2, o1⟩
        | none =>
          have hm₂ : m₂ = .returning := by
            rcases k2 with ⟨_, h⟩ | ⟨v, v', h, _⟩
            · exact h
            · cases h
          subst hm₂
          change Leaves' P base ρ h w f kind _ K m.q (match resAll P tr h₂ fn.results.toList with
            | some vs => .ok (asResult vs) h₂ q'
            | none => .no)
          cases hvs : resAll P tr h₂ fn.results.toList with
          | none => trivial
          | some vs =>
            obtain ⟨v', j1, j2⟩ := results_sound (tmps := a₁.tmps) g2.sim ((f1.tmps.mono g2.le).env) hvs
            exact ⟨ρ₂, v', w₂, fun cs => ⟨_, (s1 cs).trans (s3 _), rfl, rfl, rfl, rfl, fn, hf, j1⟩, j2, g1.trans g2, o1⟩

theorem krel_norm (ρ : Ren) : KRel ρ none .normal (fun _ cs => cs) := by
  refine ⟨fun fr cs hk => ?_, fun v e => by cases e⟩
  unfold tryRecover
  rw [hk]

theorem going_leaving {fr : Frame} {w : World} {v : Value} (h : fr.going P w (.returned v)) (hk : fr.kind = .normal) : fr.leaving P w (.returned v) := by
  obtain ⟨h1, h2, h3⟩ := h
  exact ⟨h1, h2, hk, h3⟩

/-- the functions whose results hang on their arguments alone are right -/
def PrimOk (P : Program) (pm : Prim) : Prop := ∀ (f : Nat) (args args' : List Value) (v : Value) (ρ : Ren) (w : World), pm f args = some v → VRels ρ args args' → ∃ v', (callFunc f args'.toArray).run P w = .ok (.value v') w ∧ VRel ρ v v'

theorem invX_func (pm : Prim) (K : List Nat) (M : Memo) (o : Opt) (n : Nat) (m : Md) (f : FuncId) (args : List Value) (h : AHeap) : invX P pm K M o (n + 1) m (.func f) args h = (match memoAt M f args with
      | some v => cond (normB m) (.ok v h none) .no
      | none => cond (isIn K f && noArgs args && normB m) (.ok (.bool true) h none) (match funcAt P f with
        | some (fn, body) => onlyV m (enterX P o (invX P pm K M o n) m f fn body args h)
        | none => cond (normB m) (primX pm f args h) .no)) := rfl
theorem invX_yield (pm : Prim) (K : List Nat) (M : Memo) (o : Opt) (n : Nat) (m : Md) (l : Nat) (args : List Value) (h : AHeap) : invX P pm K M o (n + 1) m (.yield l) args h = cond (normB m) (match h.get l with
      | some (.loop r) => cond (Nat.beq args.length r.params.toList.length) (resOf none (enterR P o (asInv (invX P pm K M o n)) l r args h)) .no
      | _ => .no) .no := rfl

theorem funcAt_spec {f : Nat} {fn : Func} {body : Code} (h : funcAt P f = some (fn, body)) : P.funcs[f]? = some fn ∧ fn.body = some body := by
  unfold funcAt at h
  rw [nth_eq] at h
  cases hf : P.funcs.toList[f]? with
  | none => rw [hf] at h; cases h
  | some fn' =>
    rw [hf] at h
    dsimp only at h
    cases hb : fn'.body with
    | none => rw [hb] at h; cases h
    | some body' =>
      rw [hb] at h
      cases h
      exact ⟨by simpa using hf, hb⟩

theorem allB_mem {p : Value → Bool} : ∀ {l : List Value}, allB p l = true → ∀ v ∈ l, p v = true
  | [], _, v, hv => (nomatch hv)
  | a :: l, h, v, hv => by
    have h' : (Bool.rec (motive := fun _ => Bool) false (allB p l) (p a) : Bool) = true := h
    cases hp : p a with
    | false => rw [hp] at h'; cases h'
    | true =>
      rw [hp] at h'
      rcases List.mem_cons.1 hv with rfl | hv
      · exact hp
      · exact allB_mem h' v hv
theorem pl1_same {ρ : Ren} {v v' : Value} (h : pl1 v = true) (hr : VRel ρ v v') : v' = v := by
  cases v <;> first | (cases h; done) | (cases hr; rfl)
theorem pl1_rel {v : Value} (ρ : Ren) (h : pl1 v = true) : VRel ρ v v := by
  cases v <;> first | (cases h; done) | exact .int _ _ | exact .bool _
theorem all_same {p : Value → Bool} {ρ : Ren} (hp : ∀ v v', p v = true → VRel ρ v v' → v' = v) : ∀ {l l' : List Value}, (∀ v ∈ l, p v = true) → VRels ρ l l' → l' = l
  | _, _, _, .nil => rfl
  | _, _, h, .cons hv t => by rw [hp _ _ (h _ (.head _)) hv, all_same hp (fun v hv => h v (.tail _ hv)) t]
theorem all_rel {p : Value → Bool} {ρ : Ren} (hp : ∀ v, p v = true → VRel ρ v v) : ∀ {l : List Value}, (∀ v ∈ l, p v = true) → VRels ρ l l
  | [], _ => .nil
  | v :: l, h => .cons (hp v (h v (.head _))) (all_rel hp fun v hv => h v (.tail _ hv))
theorem pl2_same {ρ : Ren} {v v' : Value} (h : pl2 v = true) (hr : VRel ρ v v') : v' = v := by
  cases hr with
  | agg hl => exact congrArg (fun l => Value.agg ⟨l⟩) (all_same (fun _ _ => pl1_same) (allB_mem h) hl)
  | int => rfl
  | bool => rfl
  | _ => cases h
theorem pl2_rel {v : Value} (ρ : Ren) (h : pl2 v = true) : VRel ρ v v := by
  cases v with
  | agg xs => obtain ⟨xs⟩ := xs; exact .agg (all_rel (fun _ => pl1_rel ρ) (allB_mem h))
  | int => exact .int _ _
  | bool => exact .bool _
  | _ => cases h
theorem pl3_same {ρ : Ren} {v v' : Value} (h : pl3 v = true) (hr : VRel ρ v v') : v' = v := by
  cases hr with
  | tuple hl => exact congrArg (fun l => Value.tuple ⟨l⟩) (all_same (fun _ _ => pl2_same) (allB_mem h) hl)
  | agg hl => exact pl2_same (v := .agg _) h (.agg hl)
  | int => rfl
  | bool => rfl
  | _ => cases h
theorem pl3_rel {v : Value} (ρ : Ren) (h : pl3 v = true) : VRel ρ v v := by
  cases v with
  | tuple xs => obtain ⟨xs⟩ := xs; exact .tuple (all_rel (fun _ => pl2_rel ρ) (allB_mem h))
  | agg xs => exact pl2_rel ρ h
  | int => exact .int _ _
  | bool => exact .bool _
  | _ => cases h
theorem intB_eq {a b : Int} (h : intB a b = true) : a = b := by
  cases a <;> cases b <;> first | (cases h; done) | exact congrArg _ (Nat.eq_of_beq_eq_true h)
theorem eq1_eq {a b : Value} (h : eq1 a b = true) : a = b := by
  cases a <;> cases b <;> first
    | (cases h; done)
    | (obtain ⟨h1, h2⟩ := ble_and h; rw [of_decide_eq_true h1, intB_eq h2])
    | (rename_i a b; cases a <;> cases b <;> first | (cases h; done) | rfl)
theorem eqs_eq {p : Value → Value → Bool} (hp : ∀ a b, p a b = true → a = b) : ∀ {l m : List Value}, eqs p l m = true → l = m
  | [], [], _ => rfl
  | a :: l, b :: m, h => by
    have h' : cond (p a b) (eqs p l m) false = true := h
    cases hab : p a b with
    | false => rw [hab] at h'; cases h'
    | true =>
      rw [hab] at h'
      rw [hp a b hab, eqs_eq hp h']
  | [], _ :: _, h => by cases h
  | _ :: _, [], h => by cases h
theorem eq2_eq {a b : Value} (h : eq2 a b = true) : a = b := by
  cases a <;> cases b <;> first
    | exact eq1_eq h
    | (rename_i xs ys; obtain ⟨xs⟩ := xs; obtain ⟨ys⟩ := ys; exact congrArg (fun l => Value.agg ⟨l⟩) (eqs_eq (fun _ _ => eq1_eq) h))
/-- A call with plain arguments that comes to a plain value, in every world, and changes nothing. -/
def Knows (P : Program) (f : FuncId) (args : List Value) (v : Value) : Prop :=
  (∀ a ∈ args, pl2 a = true) ∧ pl3 v = true ∧ (∃ fn body, P.funcs[f]? = some fn ∧ fn.body = some body) ∧ ∀ w : World, ∃ w', (∀ cs, ∃ fr, Steps P (lone (Frame.enter P f args.toArray .normal) cs w) (lone fr cs w') ∧ fr.leaving P w' (.returned v)) ∧ RowKit.Below w.heap.size w w'
def MemoOk (P : Program) (M : Memo) : Prop := ∀ e ∈ M, Knows P e.1 e.2.1 e.2.2
theorem memo_nil (P : Program) : MemoOk P [] := fun _ h => (nomatch h)
theorem memo_cons {M : Memo} {f : Nat} {args : List Value} {v : Value} (h : Knows P f args v) (hM : MemoOk P M) : MemoOk P ((f, args, v) :: M) := fun e he => by
  rcases List.mem_cons.1 he with rfl | he
  · exact h
  · exact hM e he
theorem memoAt_spec : ∀ {M : Memo} {f : Nat} {args : List Value} {v : Value}, memoAt M f args = some v → (f, args, v) ∈ M
  | [], _, _, _, h => by cases h
  | (g, as, u) :: M, f, args, v, h => by
    have h' : cond (Nat.beq g f) (cond (eqs eq2 as args) (some u) (memoAt M f args)) (memoAt M f args) = some v := h
    cases hg : Nat.beq g f with
    | false => rw [hg] at h'; exact .tail _ (memoAt_spec h')
    | true =>
      rw [hg, cond_true] at h'
      cases ha : eqs eq2 as args with
      | false => rw [ha] at h'; exact .tail _ (memoAt_spec h')
      | true =>
        rw [ha] at h'
        cases h'
        rw [Nat.eq_of_beq_eq_true hg, eqs_eq (fun _ _ => eq2_eq) ha]
        exact .head _

/-- the evaluator's calls are right -/
theorem invX_ok {o : Opt} {pm : Prim} {K : List Nat} {M : Memo} (hpm : PrimOk P pm) (hm : P.follows .mixedOrders = true) (hnum : NoNum P) (hK : ShutAll P K) (hM : MemoOk P M) : ∀ n, XOk P (invX P pm K M o n)
  | 0 => ⟨fun base ρ w fn fn' args args' h h' v e _ _ _ => (by cases e), fun base ρ w g args args' h h' v e _ _ => (by cases e), fun base ρ w q q' g args args' h h' v K e _ _ _ => (by cases e)⟩
  | n + 1 => by
    have ih := invX_ok (o := o) hpm hm hnum hK hM n
    refine ⟨fun base ρ w fn fn' args args' h h' v e hfn ha st => ?_, fun base ρ w f args args' h h' v e ha st => ?_, fun base ρ w q q' f args args' h h' v KK e ha st hKK => ?_⟩
    · have e0 : plainR (invX P pm K M o (n + 1) .norm fn args h) = some (v, h') := e
      cases fn with
      | func f =>
        have hfn' : fn' = .func f := by
          rcases hfn with ⟨g, h1, h2⟩ | ⟨l, p, h1, _⟩
          · cases h1; exact h2
          · cases h1
        subst hfn'
        rw [invX_func] at e0
        cases hmm : memoAt M f args with
        | some u =>
          rw [hmm] at e0
          cases e0
          obtain ⟨ka, kv, ⟨fn, body, hf, hb⟩, kw⟩ := hM _ (memoAt_spec hmm)
          have ha0 : args' = args := all_same (fun _ _ => pl2_same) ka ha
          subst ha0
          obtain ⟨w', h1, h2⟩ := kw w
          refine ⟨ρ, v, w', .enter (run_enter hnum hf hb) fun c cs => ?_, pl3_rel ρ kv, below_went st h2⟩
          obtain ⟨fr, j1, j2⟩ := h1 (c :: cs)
          exact j1.trans (.one (step_leave_returned j2))
        | none =>
        rw [hmm] at e0
        dsimp only at e0
        cases hk : (isIn K f && noArgs args && normB .norm) with
        | true =>
          rw [hk, cond_true] at e0
          cases e0
          obtain ⟨hk, _⟩ := ble_and hk
          obtain ⟨k1, k2⟩ := ble_and hk
          obtain ⟨hshut, fn, body, hf, hb⟩ := hK f (isIn_mem k1)
          have ha0 : args' = [] := by
            cases args with
            | nil => cases ha; rfl
            | cons => cases k2
          subst ha0
          obtain ⟨w', h1, h2⟩ := hshut w
          refine ⟨ρ, .bool true, w', .enter (run_enter hnum hf hb) fun c cs => ?_, .bool true, below_went st h2⟩
          obtain ⟨fr, j1, _, j2⟩ := h1 (c :: cs)
          exact j1.trans (.one (step_leave_returned j2))
        | false =>
          rw [hk, cond_false] at e0
          cases hfa : funcAt P f with
          | none =>
            rw [hfa] at e0
            have e1 : plainR (resOf none (pv h (pm f args))) = some (v, h') := e0
            cases hpf : pm f args with
            | none => rw [hpf] at e1; cases e1
            | some u =>
              rw [hpf] at e1
              cases e1
              obtain ⟨v', k1, k2⟩ := hpm f args args' _ ρ w hpf ha
              refine ⟨ρ, v', w, .value ?_, k2, .refl st⟩
              have k3 : invoke (.fn (.func f) #[]) args'.toArray = callFunc f (args'.toArray ++ #[]) := rfl
              rw [k3, Array.append_empty]
              exact k1
          | some fb =>
            obtain ⟨fn, body⟩ := fb
            rw [hfa] at e0
            dsimp only at e0
            obtain ⟨hf, hb⟩ := funcAt_spec hfa
            have hs := enterX_sound (o := o) (m := .norm) (h := h) hm hnum ih hf hb ha st (krel_norm ρ)
            revert e0 hs
            generalize enterX P o (invX P pm K M o n) .norm f fn body args h = r
            intro e0 hs
            cases r with
            | ok v₁ h₁ q₁ =>
              cases e0
              obtain ⟨ρ', v', w', s, hv, g, _⟩ := hs
              refine ⟨ρ', v', w', .enter (run_enter hnum hf hb) fun c cs => ?_, hv, g⟩
              obtain ⟨fr, j1, _, j2, j3⟩ := s (c :: cs)
              exact j1.trans (.one (step_leave_returned (going_leaving j3 j2)))
            | pan v₁ h₁ => cases e0
            | no => cases e0
      | yield l =>
        rcases hfn with ⟨g, h1, _⟩ | ⟨l', p, h1, hp, hfn'⟩
        · cases h1
        · cases h1
          subst hfn'
          rw [invX_yield] at e0
          have e1 : plainR (match h.get l with
            | some (.loop r) => cond (Nat.beq args.length r.params.toList.length) (resOf none (enterR P o (asInv (invX P pm K M o n)) l r args h)) .no
            | _ => .no) = some (v, h') := e0
          split at e1
          · rename_i r hg
            cases hlen : Nat.beq args.length r.params.toList.length with
            | false => rw [hlen] at e1; cases e1
            | true =>
              rw [hlen, cond_true] at e1
              have e2 : enterR P o (asInv (invX P pm K M o n)) l r args h = some (v, h') := by
                revert e1
                cases enterR P o (asInv (invX P pm K M o n)) l r args h with
                | none => intro e1; cases e1
                | some r => intro e1; cases r; cases e1; rfl
              exact enterR_sound hm ih.val hp hg (Nat.eq_of_beq_eq_true hlen) ha st e2
          · cases e1
      | _ => cases e0
    · rw [invX_func] at e
      cases hmm : memoAt M f args with
      | some u => rw [hmm] at e; cases e
      | none =>
      rw [hmm] at e
      dsimp only at e
      cases hk : (isIn K f && noArgs args && normB .norm) with
      | true => rw [hk, cond_true] at e; cases e
      | false =>
        rw [hk, cond_false] at e
        cases hfa : funcAt P f with
        | none =>
          rw [hfa] at e
          exact (resOf_pan e).elim
        | some fb =>
          obtain ⟨fn, body⟩ := fb
          rw [hfa] at e
          dsimp only at e
          obtain ⟨hf, hb⟩ := funcAt_spec hfa
          have hs := enterX_sound (o := o) (m := .norm) (h := h) hm hnum ih hf hb ha st (krel_norm ρ)
          revert e hs
          generalize enterX P o (invX P pm K M o n) .norm f fn body args h = r
          intro e hs
          cases r with
          | ok v₁ h₁ q₁ => cases e
          | pan v₁ h₁ =>
            cases e
            obtain ⟨ρ', v', w', q', s, hv, g, _⟩ := hs
            refine ⟨ρ', v', w', .enter (run_enter hnum hf hb) fun c cs => ?_, hv, g⟩
            obtain ⟨fr, j1, _, j3⟩ := s (c :: cs)
            exact j1.trans (.one (step_leave_panicked j3))
          | no => cases e
    · rw [invX_func] at e
      cases hmm : memoAt M f args with
      | some u => rw [hmm] at e; cases e
      | none =>
      rw [hmm] at e
      dsimp only at e
      have hk : (isIn K f && noArgs args && normB (.defd q)) = false := Bool.and_false _
      rw [hk, cond_false] at e
      cases hfa : funcAt P f with
      | none => rw [hfa] at e; cases e
      | some fb =>
        obtain ⟨fn, body⟩ := fb
        rw [hfa] at e
        dsimp only at e
        obtain ⟨hf, hb⟩ := funcAt_spec hfa
        have hs := enterX_sound (o := o) (m := .defd q) (h := h) (kind := .deferred) (K := KK) hm hnum ih hf hb ha st hKK
        revert e hs
        generalize enterX P o (invX P pm K M o n) (.defd q) f fn body args h = r
        intro e hs
        cases r with
        | ok v₁ h₁ q₁ =>
          cases e
          obtain ⟨ρ', v', w', s, hv, g, hq⟩ := hs
          refine ⟨ρ', v', w', fun cs => ?_, g, hq, fn, body, hf, hb⟩
          obtain ⟨fr, j1, _, j2, j3⟩ := s cs
          exact ⟨fr, j1, j2, j3⟩
        | pan v₁ h₁ => cases e
        | no => cases e

/-- A closed call that comes to true comes to it in every world. -/
theorem shutX_of {pm : Prim} {K : List Nat} {M : Memo} {f : FuncId} (hM : MemoOk P M) (hmo : memoAt M f [] = none) (hpm : PrimOk P pm) (hm : P.follows .mixedOrders = true) (hnum : NoNum P) (hK : ShutAll P K) (hno : isIn K f = false) (hbd : hasBody P f = true) (hr : isTrue (resultX P pm K M f []) = true) : Shut P f := by
  intro w
  have hb0 : (funcAt P f).isSome = true := by
    obtain ⟨fn, body, h1, h2⟩ := hasBody_spec hbd
    unfold funcAt
    rw [nth_eq, show P.funcs.toList[f]? = some fn by simpa using h1]
    dsimp only
    rw [h2]
    rfl
  unfold resultX at hr
  have e0 := invX_func (P := P) pm K M ⟨STEPS, false, [], noX⟩ 399 .norm f [] (emptyHeap P)
  rw [hmo] at e0
  dsimp only at e0
  rw [e0, hno, Bool.false_and, Bool.false_and, cond_false] at hr
  cases hfa : funcAt P f with
  | none => rw [hfa] at hb0; cases hb0
  | some fb =>
    obtain ⟨fn, body⟩ := fb
    rw [hfa] at hr
    dsimp only at hr
    obtain ⟨hf, hb⟩ := funcAt_spec hfa
    have hs := enterX_sound (o := ⟨STEPS, false, [], noX⟩) (m := .norm) (h := emptyHeap P) (args := []) (args' := []) hm hnum (invX_ok (o := ⟨STEPS, false, [], noX⟩) hpm hm hnum hK hM 399) hf hb .nil (sim_empty P w) (krel_norm _)
    revert hr hs
    generalize enterX P ⟨STEPS, false, [], noX⟩ (invX P pm K M ⟨STEPS, false, [], noX⟩ 399) .norm f fn body [] (emptyHeap P) = r
    intro hr hs
    cases r with
    | ok v h' q' =>
      have hv : v = .bool true := by
        have h1 : isTrue (some v) = true := hr
        unfold isTrue at h1
        split at h1
        · rename_i h; cases h; rfl
        · cases h1
      subst hv
      obtain ⟨ρ', v', w', s, hv, g, _⟩ := hs
      rw [hv.bool_inv] at s
      refine ⟨w', fun cs => ?_, g.ext.below⟩
      obtain ⟨fr, j1, j4, j2, j3⟩ := s cs
      exact ⟨fr, j1, j4, going_leaving j3 j2⟩
    | pan v h' => cases hr
    | no => cases hr
/-- a call with plain arguments is known once it has been evaluated -/
theorem knows_of {pm : Prim} {K : List Nat} {M : Memo} {f : FuncId} {args : List Value} {v : Value} (hM : MemoOk P M) (hmo : memoAt M f args = none) (hpm : PrimOk P pm) (hm : P.follows .mixedOrders = true) (hnum : NoNum P) (hK : ShutAll P K) (hno : isIn K f = false) (hbd : hasBody P f = true) (ha : allB pl2 args = true) (hv : pl3 v = true) (hr : resultX P pm K M f args = some v) : Knows P f args v := by
  obtain ⟨fn0, body0, h1, h2⟩ := hasBody_spec hbd
  refine ⟨allB_mem ha, hv, ⟨fn0, body0, h1, h2⟩, fun w => ?_⟩
  have hb0 : funcAt P f = some (fn0, body0) := by
    unfold funcAt
    rw [nth_eq, show P.funcs.toList[f]? = some fn0 by simpa using h1]
    dsimp only
    rw [h2]
  unfold resultX at hr
  have e0 := invX_func (P := P) pm K M ⟨STEPS, false, [], noX⟩ 399 .norm f args (emptyHeap P)
  rw [hmo] at e0
  dsimp only at e0
  rw [e0, hno, Bool.false_and, Bool.false_and, cond_false, hb0] at hr
  dsimp only at hr
  have hs := enterX_sound (o := ⟨STEPS, false, [], noX⟩) (m := .norm) (h := emptyHeap P) (args := args) (args' := args) hm hnum (invX_ok (o := ⟨STEPS, false, [], noX⟩) hpm hm hnum hK hM 399) h1 h2 (all_rel (fun _ => pl2_rel _) (allB_mem ha)) (sim_empty P w) (krel_norm _)
  revert hr hs
  generalize enterX P ⟨STEPS, false, [], noX⟩ (invX P pm K M ⟨STEPS, false, [], noX⟩ 399) .norm f fn0 body0 args (emptyHeap P) = r
  intro hr hs
  cases r with
  | ok u h' q' =>
    cases hr
    obtain ⟨ρ', v', w', s, hvr, g, _⟩ := hs
    rw [pl3_same hv hvr] at s
    refine ⟨w', fun cs => ?_, g.ext.below⟩
    obtain ⟨fr, j1, j4, j2, j3⟩ := s cs
    exact ⟨fr, j1, going_leaving j3 j2⟩
  | pan v h' => cases hr
  | no => cases hr
def eq3 (a b : Value) : Bool := match a, b with
  | .tuple xs, .tuple ys => eqs eq2 xs.toList ys.toList
  | a, b => eq2 a b
theorem eq3_eq {a b : Value} (h : eq3 a b = true) : a = b := by
  cases a <;> cases b <;> first
    | exact eq2_eq h
    | (rename_i xs ys; obtain ⟨xs⟩ := xs; obtain ⟨ys⟩ := ys; exact congrArg (fun l => Value.tuple ⟨l⟩) (eqs_eq (fun _ _ => eq2_eq) h))
/-- a result is this value -/
def isV (r : Option Value) (v : Value) : Bool := match r with
  | some u => eq3 u v
  | none => false
theorem isV_eq {r : Option Value} {v : Value} (h : isV r v = true) : r = some v := by
  cases r with
  | none => cases h
  | some u => rw [eq3_eq h]
end Go.Ev
/- The evaluator: a function that defers one function, with the calls of an evaluator without panics; it stands in for itself. -/
namespace Go.Ev
noncomputable section
variable {P : Program} {base : Nat} {ρ : Ren} {w : World}

end
end Go.Ev
namespace Go.Ev
noncomputable section
variable {P : Program} {base : Nat} {ρ : Ren} {w : World}

/-- a call and the list that it comes to: where the list begins in its block, how long it is, its capacity, the block's cells and their type -/
structure KL where
  f : Nat
  args : List Value
  off : Nat
  n : Nat
  cap : Nat
  cells : List Value
  e : TypeId

/-- the call comes to this list, in a new block, in every world, and changes nothing -/
def KnowsL (P : Program) (k : KL) : Prop :=
  (∀ a ∈ k.args, pl2 a = true) ∧ (∀ a ∈ k.cells, pl2 a = true) ∧ (∃ fn body, P.funcs[k.f]? = some fn ∧ fn.body = some body) ∧ ∀ w : World, ∃ (w' : World) (a' : Addr) (c' : Nat) (p : Place),
    (∀ cs, ∃ fr, Steps P (lone (Frame.enter P k.f k.args.toArray .normal) cs w) (lone fr cs w') ∧ fr.leaving P w' (.returned (.slice (some a') k.n c'))) ∧ RowKit.Below w.heap.size w w' ∧
    w.heap.size ≤ p.block ∧ p.block < w'.heap.size ∧ a'.spot = none ∧ a'.block = p.block ∧ a'.off = k.off + p.off ∧ capRel k.cap c' ∧ k.n ≤ capLo k.cap ∧ (isEx k.cap = true ∨ k.off + p.off + c' * p.esz ≤ p.total) ∧
    ∃ (cs : Array Value) (e' : TypeId) (fz : Nat × Nat), w'.heap[p.block]? = some (.cells cs e' fz) ∧ p.esz = P.cellsOf k.e ∧ p.total = cs.size ∧ (p.off + k.cells.length ≤ cs.size ∧ ∀ i v, k.cells[i]? = some v → cs[p.off + i]? = some v)

def listX : List KL → Inv → Inv
  | [], _ => fun _ _ _ => none
  | k :: M, i => fun fn args h => match fn with
    | .func f => cond (Nat.beq k.f f && eqs eq2 k.args args) (some (.slice (some ⟨h.next, k.off, none⟩) k.n k.cap, h.new (.cells k.cells k.e false))) (listX M i fn args h)
    | _ => none

theorem Sim.knows {k : KL} (hk : KnowsL P k) {h : AHeap} (st : Sim P base ρ h w) (hnum : NoNum P) : Done P base ρ h w (invoke (.fn (.func k.f) #[]) k.args.toArray) (.slice (some ⟨h.next, k.off, none⟩) k.n k.cap) (h.new (.cells k.cells k.e false)) := by
  obtain ⟨_, hpl, ⟨fn, body, hf, hb⟩, hw⟩ := hk
  obtain ⟨w', a', c', p, hs, hbl, hp1, hp2, ha1, ha2, ha3, hc, hn, hx, cs, e', fz, hcell, hesz, htot, hlen, hcs⟩ := hw w
  have hnone : ρ h.next = none := st.unmet
  have hle := Ren.le_put (p := p) hnone
  have hsame : ∀ c, c < w.heap.size → w'.heap[c]? = w.heap[c]? := hbl.block
  refine ⟨ρ.put h.next p, .slice (some a') k.n c', w', .enter (run_enter hnum hf hb) fun c cs => ?_, ?_, ⟨⟨⟨?_, ?_, ?_, ?_⟩, ?_, ?_⟩, ⟨hle, ?_, ?_, ?_, ?_, ?_, Ren.full_put _⟩⟩⟩
  · obtain ⟨fr, j1, j2⟩ := hs (c :: cs)
    exact j1.trans (.one (step_leave_returned j2))
  · exact .sl ⟨rfl, ha1, p, Ren.put_self _ _ _, ha2, ha3⟩ hc hn (Ren.put_self _ _ _) hx
  · intro b q hq
    by_cases e1 : h.next = b
    · subst e1
      rw [Ren.put_self] at hq; cases hq
      refine ⟨_, by rw [get_new, if_pos rfl], ?_⟩
      rw [hcell]
      have hr : (false = true → e' = k.e ∧ fz = (0, 0)) ∧ p.esz = P.cellsOf k.e ∧ p.total = cs.size ∧ CRel (ρ.put h.next p) k.cells cs p.off :=
        ⟨fun h => (by cases h), hesz, htot, hlen, fun i v hv => ⟨v, hcs i v hv, pl2_rel _ (hpl v (List.mem_of_getElem? hv))⟩⟩
      exact hr
    · rw [Ren.put_ne _ _ e1] at hq
      obtain ⟨o, h1, h2⟩ := st.rel.obj b q hq
      exact ⟨o, by rw [get_new, if_neg e1]; exact h1, by rw [hsame _ (st.rel.size b q hq)]; exact h2.mono hle⟩
  · intro b₁ b₂ p₁ p₂ o₁ o₂ h1 h2 g1 g2 l1 l2 hp
    by_cases e1 : h.next = b₁
    · rw [get_new, if_pos e1] at g1; cases g1; cases l1
    · rw [get_new, if_neg e1] at g1
      rw [Ren.put_ne _ _ e1] at h1
      by_cases e2 : h.next = b₂
      · subst e2
        rw [Ren.put_self] at h2; cases h2
        have := st.rel.size _ _ h1
        omega
      · rw [get_new, if_neg e2] at g2
        rw [Ren.put_ne _ _ e2] at h2
        exact st.rel.inj _ _ _ _ _ _ h1 h2 g1 g2 l1 l2 hp
  · intro b q hq
    by_cases e1 : h.next = b
    · subst e1
      rw [Ren.put_self] at hq; cases hq
      exact hp2
    · rw [Ren.put_ne _ _ e1] at hq
      exact Nat.lt_of_lt_of_le (st.rel.size b q hq) hbl.size
  · intro b q o hq ho hrw
    by_cases e1 : h.next = b
    · rw [get_new, if_pos e1] at ho; cases ho; cases hrw
    · rw [Ren.put_ne _ _ e1] at hq
      rw [get_new, if_neg e1] at ho
      exact st.rel.lo b q o hq ho hrw
  · intro b hb
    have hb' : Nat.succ h.next ≤ b := hb
    rw [get_new, if_neg (by omega)]
    exact st.void b (by omega)
  · exact Nat.le_trans st.room hbl.size
  · exact ⟨hbl.os, hbl.tape, hbl.output, hbl.size, fun c hc => hsame c (Nat.lt_of_lt_of_le hc st.room)⟩
  · exact fun c hc _ => hsame c hc
  · intro b q hq hn
    by_cases e1 : h.next = b
    · subst e1
      rw [Ren.put_self] at hq; cases hq
      exact ⟨Nat.le_refl _, .inl hp1⟩
    · rw [Ren.put_ne _ _ e1, hn] at hq; cases hq
  · exact Nat.le_succ _
  · intro b hb _
    rw [get_new, if_neg (by omega)]

theorem listX_good : ∀ {M : List KL}, (∀ k ∈ M, KnowsL P k) → (NoNum P) → XGood P (listX M)
  | [], _, _ => fun i hi base ρ w fn fn' args args' h h' v e _ _ _ => by cases e
  | k :: M, hM, hnum => fun i hi base ρ w fn fn' args args' h h' v e hfn ha st => by
    cases fn with
    | func f =>
      have e0 : cond (Nat.beq k.f f && eqs eq2 k.args args) (some (.slice (some ⟨h.next, k.off, none⟩) k.n k.cap, h.new (.cells k.cells k.e false))) (listX M i (.func f) args h) = some (v, h') := e
      cases hb : (Nat.beq k.f f && eqs eq2 k.args args) with
      | false =>
        rw [hb, cond_false] at e0
        exact listX_good (fun k hk => hM k (.tail _ hk)) hnum i hi base ρ w _ fn' args args' h h' v e0 hfn ha st
      | true =>
        rw [hb, cond_true] at e0
        cases e0
        obtain ⟨k1, k2⟩ := ble_and hb
        have hK := hM k (.head _)
        have hf := Nat.eq_of_beq_eq_true k1
        have hargs := eqs_eq (fun _ _ => eq2_eq) k2
        have hfn' : fn' = .func f := by
          rcases hfn with ⟨g, h1, h2⟩ | ⟨l, p, h1, _⟩
          · cases h1; exact h2
          · cases h1
        subst hfn'
        subst hf
        have ha' : args' = k.args := by
          rw [← hargs] at ha
          exact all_same (fun _ _ => pl2_same) hK.1 ha
        subst ha'
        exact Sim.knows hK st hnum
    | _ => cases e

/-- what a call from the empty heap comes to, as a list -/
def resultL (P : Program) (pm : Prim) (K : List Nat) (M : Memo) (f : FuncId) (args : List Value) : Option KL := match invX P pm K M ⟨STEPS, false, [], noX⟩ 400 .norm (.func f) args (emptyHeap P) with
  | .ok v h _ => match v with
    | .slice (some a) n c => match a.spot with
      | some _ => none
      | none => match h.get a.block with
        | some (.cells cs e _) => some ⟨f, args, a.off, n, c, cs, e⟩
        | _ => none
    | _ => none
  | _ => none
/-- a result is this list -/
def isL (r : Option KL) (k : KL) : Bool := match r with
  | some u => Nat.beq u.f k.f && (eqs eq2 u.args k.args && (Nat.beq u.off k.off && (Nat.beq u.n k.n && (Nat.beq u.cap k.cap && (eqs eq2 u.cells k.cells && Nat.beq u.e k.e)))))
  | none => false
theorem isL_eq {r : Option KL} {k : KL} (h : isL r k = true) : r = some k := by
  cases r with
  | none => cases h
  | some u =>
    have h' : (Nat.beq u.f k.f && (eqs eq2 u.args k.args && (Nat.beq u.off k.off && (Nat.beq u.n k.n && (Nat.beq u.cap k.cap && (eqs eq2 u.cells k.cells && Nat.beq u.e k.e)))))) = true := h
    obtain ⟨h1, h'⟩ := ble_and h'
    obtain ⟨h2, h'⟩ := ble_and h'
    obtain ⟨h3, h'⟩ := ble_and h'
    obtain ⟨h4, h'⟩ := ble_and h'
    obtain ⟨h5, h'⟩ := ble_and h'
    obtain ⟨h6, h7⟩ := ble_and h'
    obtain ⟨a, b, c, d, e, g, i⟩ := u
    obtain ⟨a', b', c', d', e', g', i'⟩ := k
    have := Nat.eq_of_beq_eq_true h1
    have := eqs_eq (fun _ _ => eq2_eq) h2
    have := Nat.eq_of_beq_eq_true h3
    have := Nat.eq_of_beq_eq_true h4
    have := Nat.eq_of_beq_eq_true h5
    have := eqs_eq (fun _ _ => eq2_eq) h6
    have := Nat.eq_of_beq_eq_true h7
    simp_all
theorem knowsL_of {pm : Prim} {K : List Nat} {M : Memo} {k : KL} (hM : MemoOk P M) (hmo : memoAt M k.f k.args = none) (hpm : PrimOk P pm) (hm : P.follows .mixedOrders = true) (hnum : NoNum P) (hK : ShutAll P K) (hno : isIn K k.f = false) (hbd : hasBody P k.f = true) (ha : allB pl2 k.args = true) (hv : allB pl2 k.cells = true) (hr : isL (resultL P pm K M k.f k.args) k = true) : KnowsL P k := by
  obtain ⟨fn0, body0, h1, h2⟩ := hasBody_spec hbd
  refine ⟨allB_mem ha, allB_mem hv, ⟨fn0, body0, h1, h2⟩, fun w => ?_⟩
  have hr := isL_eq hr
  have hb0 : funcAt P k.f = some (fn0, body0) := by
    unfold funcAt
    rw [nth_eq, show P.funcs.toList[k.f]? = some fn0 by simpa using h1]
    dsimp only
    rw [h2]
  unfold resultL at hr
  have e0 := invX_func (P := P) pm K M ⟨STEPS, false, [], noX⟩ 399 .norm k.f k.args (emptyHeap P)
  rw [hmo] at e0
  dsimp only at e0
  rw [e0, hno, Bool.false_and, Bool.false_and, cond_false, hb0] at hr
  dsimp only at hr
  have hs := enterX_sound (o := ⟨STEPS, false, [], noX⟩) (m := .norm) (h := emptyHeap P) (args := k.args) (args' := k.args) hm hnum (invX_ok (o := ⟨STEPS, false, [], noX⟩) hpm hm hnum hK hM 399) h1 h2 (all_rel (fun _ => pl2_rel _) (allB_mem ha)) (sim_empty P w) (krel_norm _)
  revert hr hs
  generalize enterX P ⟨STEPS, false, [], noX⟩ (invX P pm K M ⟨STEPS, false, [], noX⟩ 399) .norm k.f fn0 body0 k.args (emptyHeap P) = r
  intro hr hs
  cases r with
  | ok u h' q' =>
    obtain ⟨ρ', v', w', s, hvr, g, _⟩ := hs
    cases u with
    | slice ao n c =>
      cases ao with
      | none => cases hr
      | some a =>
        cases hsp : a.spot with
        | some x =>
          have hr0 : (match a.spot with
            | some _ => none
            | none => match h'.get a.block with
              | some (.cells cs e _) => some (⟨k.f, k.args, a.off, n, c, cs, e⟩ : KL)
              | _ => none) = some k := hr
          rw [hsp] at hr0
          cases hr0
        | none =>
        have hr0 : (match a.spot with
            | some _ => none
            | none => match h'.get a.block with
              | some (.cells cs e _) => some (⟨k.f, k.args, a.off, n, c, cs, e⟩ : KL)
              | _ => none) = some k := hr
        rw [hsp] at hr0
        have hr' : (match h'.get a.block with | some (.cells cs e _) => some (⟨k.f, k.args, a.off, n, c, cs, e⟩ : KL) | _ => none) = some k := hr0
        clear hr hr0
        cases hg : h'.get a.block with
        | none => rw [hg] at hr'; cases hr'
        | some ob =>
          rw [hg] at hr'
          cases ob with
          | cells cs e rw1 =>
            have h3 : (⟨k.f, k.args, a.off, n, c, cs, e⟩ : KL) = k := Option.some.inj hr'
            clear hr'
            obtain ⟨kf, ka, koff, kn, kc, kcs, ke⟩ := k
            cases h3
            cases hvr with
            | @sl _ a' _ _ c' p har hc hn hp hw =>
              obtain ⟨q1, q2, p', hp', q3, q4⟩ := har
              rw [hp] at hp'; cases hp'
              obtain ⟨o, ho, hrel⟩ := g.sim.rel.obj _ _ hp
              have ho' : h'.get a.block = some o := ho
              rw [hg] at ho'; cases ho'
              have hfresh := (g.ext.fresh _ _ hp rfl).2
              have hfr : w.heap.size ≤ p.block := by
                rcases hfresh with q | ⟨b₀, p₀, q, _⟩
                · exact q
                · cases q
              refine ⟨w', a', c', p, fun cs => ?_, g.ext.below, hfr, g.sim.rel.size _ _ hp, q2, q3, q4, hc, hn, hw, ?_⟩
              · obtain ⟨fr, j1, j4, j2, j3⟩ := s cs
                exact ⟨fr, j1, going_leaving j3 j2⟩
              · revert hrel
                cases hx : w'.heap[p.block]? with
                | none => intro hrel; exact hrel.elim
                | some x =>
                  cases x with
                  | cells cs' e' fz =>
                    rintro ⟨_, z1, z2, z3, z4⟩
                    refine ⟨cs', e', fz, rfl, z1, z2, z3, fun i v hi => ?_⟩
                    obtain ⟨v', y1, y2⟩ := z4 i v hi
                    rw [y1, pl2_same (allB_mem hv v (List.mem_of_getElem? hi)) y2]
                  | _ => intro hrel; exact hrel.elim
            | sj a' c' =>
              cases hsp
          | _ => cases hr'
    | _ => cases hr
  | pan v h' => cases hr
  | no => cases hr
end
end Go.Ev
