/- The evaluator with panics: what a computation comes to, and how frames are unwound. -/
import Derived.Test.YtocpjjngpfjgpaaDoorEv26
set_option linter.unusedSimpArgs false
set_option linter.unusedVariables false
namespace Go.Ev
noncomputable section

/-- what a call comes to: a value, the heap, and what recover would still give; a panic with a value; or it cannot be told -/
inductive ResV where
  | ok (v : Value) (h : AHeap) (q : Option Value)
  | pan (v : Value) (h : AHeap)
  | no

/-- how a function is called: as usual, or as a deferred call, with what recover gives there -/
inductive Md where
  | norm
  | defd (q : Option Value)

def Md.q (m : Md) : Option Value :=
  match m with
  | .norm => none
  | .defd q => q

abbrev InvX := Md → Fn → List Value → AHeap → ResV

def plainR (r : ResV) : Option (Value × AHeap) :=
  match r with
  | .ok v h _ => some (v, h)
  | _ => none

/-- the calls that come to a value -/
def asInv (x : InvX) : Inv := fun fn args h => plainR (x .norm fn args h)

def resOf (q : Option Value) (o : Option (Value × AHeap)) : ResV :=
  match o with
  | some (v, h) => .ok v h q
  | none => .no

def callX (x : InvX) (f : Value) (args : List Value) (h : AHeap) (q : Option Value) : ResV :=
  match f with
  | .func fn first captured => match fn with
    | .func g => match x .norm (.func g) (first.toList ++ args ++ captured.toList) h with
      | .ok v h _ => .ok v h q
      | .pan v h => .pan v h
      | .no => .no
    | .yield l => resOf q (asInv x (.yield l) args h)
    | _ => .no
  | _ => .no

def boomX (v : Value) (h : AHeap) : ResV :=
  match v with
  | .iface t u => .pan (.iface t u) h
  | _ => .no

/-- recover: what it gives; from then on it gives nothing -/
def recX (h : AHeap) (q : Option Value) : ResV :=
  match q with
  | some v => .ok v h none
  | none => .ok .nilIface h none

/-- shifts by what is not negative -/
def shiftV (op : BinOp) (x y : Value) : Option Value :=
  match op with
  | .shr => match x with
    | .int k a => match y with
      | .int _ (.ofNat n) => some (.int k (Int.fdiv a (Int.ofNat (Nat.pow 2 (Nat.min n k.bits)))))
      | _ => none
    | _ => none
  | .shl => match x with
    | .int k a => match y with
      | .int _ (.ofNat n) => some (.int k (wrapF k (Int.mul a (Int.ofNat (Nat.pow 2 (Nat.min n k.bits))))))
      | _ => none
    | _ => none
  | _ => none

def orElse (a b : Option Value) : Option Value :=
  match a with
  | some v => some v
  | none => b

/-- the greatest, or the least, of integers -/
def most2 (mx : Bool) (x y : Value) : Option Value :=
  match x with
  | .int k a => match y with
    | .int _ b => some (.int k (cond (cond mx (ltI a b) (ltI b a)) b a))
    | _ => none
  | _ => none
def mostV (mx : Bool) (l : List Value) : Value → Option Value :=
  List.rec (motive := fun _ => Value → Option Value) (fun x => some x) (fun y _ ih x => match most2 mx x y with
    | some z => ih z
    | none => none) l
def mostOf (mx : Bool) (l : List Value) : Option Value :=
  match l with
  | [] => none
  | x :: r => mostV mx r x

def callOpX (P : Program) (x : InvX) (ev : Operand → Value) (h : AHeap) (q : Option Value) (c : Call) : ResV :=
  match c.callee with
  | .value f => callX x (ev f) (evs ev c.args.toList) h q
  | .builtin b => match b with
    | .recover => recX h q
    | .max => resOf q (pv h (mostOf true (evs ev c.args.toList)))
    | .min => resOf q (pv h (mostOf false (evs ev c.args.toList)))
    | b => resOf q (builtinOp P h b c.argTypes.toList (evs ev c.args.toList))
  | .invoke _ _ => .no

/-- is it a constant of the text? -/
def nilLit (x : Operand) : Bool :=
  match x with
  | .const _ => true
  | _ => false
def isNilI (v : Value) : Bool :=
  match v with
  | .nilIface => true
  | _ => false
/-- two nil values of an interface type, one of them a constant of the text -/
def nilEq (P : Program) (op : BinOp) (t : TypeId) : Option Value :=
  match P.underlying t with
  | some (.interface _) => match op with
    | .eql => some (.bool true)
    | .neq => some (.bool false)
    | _ => none
  | _ => none

/-- a string as bytes: the type of the cells, and the bytes -/
def bytesA (P : Program) (s d : TypeId) (x : Value) : Option (TypeId × List UInt8) :=
  match P.underlying s with
  | some .string => match P.underlying d with
    | some (.slice e) => match P.underlying e with
      | some (.int .u8) => match P.info? e with
        | some i => match x with
          | .string b => cond (Nat.beq i.size 1 && Nat.ble b.data.toList.length 1000000000) (some (e, b.data.toList)) none
          | _ => none
        | none => none
      | _ => none
    | _ => none
  | _ => none
def byteCells (l : List UInt8) : List Value := List.rec (motive := fun _ => List Value) [] (fun b _ ih => .int .u8 (Int.ofNat b.toNat) :: ih) l

/-- an operation -/
def opX (P : Program) (x : InvX) (op : Op) (ev : Operand → Value) (h : AHeap) (q : Option Value) : ResV :=
  match op with
  | .call c => callOpX P x ev h q c
  | .panic v => boomX (ev v) h
  | .convert s d y => match bytesA P s d (ev y) with
    | some (e, l) => h.newK (.cells (byteCells l) e false) fun b h => .ok (sliceTo b l.length) h q
    | none => resOf q ((opC P (.convert s d y)).f (fun _ _ _ => none) ev h)
  | .binOp op t y z u => cond ((nilLit y || nilLit z) && (isNilI (ev y) && isNilI (ev z))) (resOf q (pv h (nilEq P op t))) (match shiftV op (ev y) (ev z) with
    | some v => .ok v h q
    | none => resOf q ((opC P (.binOp op t y z u)).f (fun _ _ _ => none) ev h))
  | op => resOf q ((opC P op).f (fun _ _ _ => none) ev h)

/-- a deferred call of a function -/
def deferOf (f : Value) (args : List Value) : Option Deferred :=
  match f with
  | .func fn first captured => match fn with
    | .func g => some { target := .fn (.func g) captured, args := ⟨first.toList ++ args⟩ }
    | _ => none
  | _ => none

def deferX (ev : Operand → Value) (c : Call) : Option Deferred :=
  match c.callee with
  | .value f => deferOf (ev f) (evs ev c.args.toList)
  | _ => none

/-- a list, cell by cell -/
def forceL {β : Type} (l : List Value) : (List Value → β) → β :=
  List.rec (motive := fun _ => (List Value → β) → β) (fun k => k []) (fun v _ ih k => forceV v fun v => ih fun l => k (v :: l)) l
/-- a block's cells, each of them -/
def forceB {β : Type} (h : AHeap) (b : Nat) (k : AHeap → β) : β :=
  match h.get b with
  | some (.cells c e rw) => forceL c fun c => h.setK b (.cells c e rw) k
  | _ => k h

def blockOf (v : Value) : Option Nat :=
  match v with
  | .pointer (some a) => some a.block
  | .slice (some a) _ _ => some a.block
  | _ => none

/-- the block that an operation has written, or made -/
def target (op : Op) (ev : Operand → Value) (v : Value) : Option Nat :=
  match op with
  | .store _ x _ => blockOf (ev x)
  | .box _ _ => blockOf v
  | .buildSlice _ _ _ => blockOf v
  | .call c => match c.callee with
    | .builtin b => match b with
      | .append => blockOf v
      | .copy => match c.args.toList with
        | x :: _ => blockOf (ev x)
        | [] => none
      | _ => none
    | _ => none
  | _ => none

def finX (op : Op) (ev : Operand → Value) (r : ResV) : ResV :=
  match r with
  | .ok v h q => match target op ev v with
    | some b => forceB h b fun h => .ok v h q
    | none => .ok v h q
  | r => r

/-- what a region comes to -/
inductive ResR where
  | ok (l : Loc) (h : AHeap) (q : Option Value) (ds : List Deferred)
  | pan (v : Value) (l : Loc) (h : AHeap) (q : Option Value) (ds : List Deferred)
  | no

/-- the deferred call that an operation is, if it is one -/
def isDefer (op : Op) : Option Call :=
  match op with
  | .defer c => some c
  | _ => none

/-- one operation that is wanted -/
def goX (P : Program) (x : InvX) (size : Nat) (o : Oper) (tr : Tr Value) (l : Loc) (h : AHeap) (q : Option Value) (ds : List Deferred) (k : Loc → AHeap → Option Value → List Deferred → ResR) : ResR :=
  match isDefer o.op with
  | some c => match deferX (ev l tr) c with
    | some d => k (putL size o.dst undef l) h q (d :: ds)
    | none => .no
  | none => match finX o.op (ev l tr) (opX P x o.op (ev l tr) h q) with
    | .ok v h q => forceV v fun v => k (putL size o.dst v l) h q ds
    | .pan v h => .pan v l h q ds
    | .no => .no

def wantX (ops : List Oper) (o : Oper) (l : Loc) (tr : Tr Value) : Option Bool :=
  match o.guard with
  | none => some true
  | some (j, want) => wantsAt ops l tr j want

/-- operations in the order of the text -/
def runX (P : Program) (x : InvX) (size : Nat) (ops : List Oper) (tr : Tr Value) (rest : List Oper) : Loc → AHeap → Option Value → List Deferred → ResR :=
  List.rec (motive := fun _ => Loc → AHeap → Option Value → List Deferred → ResR) (fun l h q ds => .ok l h q ds)
    (fun o _ ih l h q ds =>
      match wantX ops o l tr with
      | some b => Bool.rec (motive := fun _ => ResR) (ih (putL size o.dst undef l) h q ds) (goX P x size o tr l h q ds ih) b
      | none => .no) rest

/-- is the order of a region's operations that of the text, whatever is drawn? -/
def chainB (ops : List Oper) : Bool :=
  allBelow ops.length fun j => (match nth ops j with
    | some o => edgesOk j o.after.toList
    | none => true) && (match j with
    | 0 => true
    | Nat.succ i => mustBefore ops i j)

/-- what a frame does next -/
inductive NxX where
  | go (todo : List Item)
  | set (tr : Tr Value) (h : AHeap) (todo : List Item) (defers : List Deferred) (q : Option Value)
  | done
  | pan (v : Value) (tr : Tr Value) (h : AHeap) (q : Option Value) (ds : List Deferred)
  | fail

structure CtxX where
  c : Ctx
  x : InvX

def regionX (shared : Nat) (tr : Tr Value) (k : List Item) (r : ResR) : NxX :=
  match r with
  | .ok l h q ds => l.flushK shared tr fun tr => .set tr h k ds q
  | .pan v l h q ds => l.flushK shared tr fun tr => .pan v tr h q ds
  | .no => .fail

def liftX (q : Option Value) (nx : Nx) : NxX :=
  match nx with
  | .go todo => .go todo
  | .set tr h todo defers => .set tr h todo defers q
  | .done => .done
  | .fail => .fail

structure NVX where
  f : CtxX → Tr Value → List Deferred → AHeap → List Item → Option Value → NxX

/-- a region that draws its order: in that of the text if there is no other one; else without panics -/
def drawX (ops : Array Oper) : NVX :=
  Bool.rec (motive := fun _ => NVX)
    ⟨fun c tr defers h k q => liftX q (regionNx c.c.shared tr k defers (runAny c.c.P c.c.inv c.c.size ops.toList tr h))⟩
    ⟨fun c tr defers h k q => regionX c.c.shared tr k (runX c.c.P c.x c.c.size ops.toList tr ops.toList .nil h q defers)⟩ (chainB ops.toList)

def textX (ops : Array Oper) : NVX :=
  ⟨fun c tr defers h k q => regionX c.c.shared tr k (runX c.c.P c.x c.c.size ops.toList tr ops.toList .nil h q defers)⟩

def codeX (x : Code) : NVX :=
  match x with
  | .region _ ops draw => Bool.rec (motive := fun _ => NVX) (textX ops) (drawX ops) draw
  | x => ⟨fun c tr defers h k q => liftX q ((codeC x).f c.c tr defers h k)⟩

def itemX (x : Item) : NVX :=
  match x with
  | .code x => codeX x
  | x => ⟨fun c tr defers h k q => liftX q ((itemC x).f c.c tr defers h k)⟩

/-- how a frame's run ends: it returns, or it panics -/
inductive StX where
  | ret (tr : Tr Value) (todo : List Item) (defers : List Deferred) (h : AHeap) (q : Option Value)
  | pan (v : Value) (tr : Tr Value) (h : AHeap) (q : Option Value) (defers : List Deferred)
  | no

def nextX (tr : Tr Value) (defers : List Deferred) (h : AHeap) (q : Option Value) (x : Item) (k : List Item) (ih : Tr Value → List Deferred → AHeap → Option Value → List Item → StX) (nx : NxX) : StX :=
  match nx with
  | .go todo => ih tr defers h q todo
  | .set tr h todo defers q => ih tr defers h q todo
  | .done => .ret tr (x :: k) defers h q
  | .pan v tr h q ds => .pan v tr h q ds
  | .fail => .no

def runFX (c : CtxX) (n : Nat) : Tr Value → List Deferred → AHeap → Option Value → List Item → StX :=
  Nat.rec (motive := fun _ => Tr Value → List Deferred → AHeap → Option Value → List Item → StX) (fun _ _ _ _ _ => .no)
    (fun _ ih tr defers h q todo =>
      List.rec (motive := fun _ => StX) (.ret tr [] defers h q) (fun x k _ => nextX tr defers h q x k ih ((itemX x).f c tr defers h k q)) todo) n

/-- on the way out: the deferred calls, one after the other; 'pend': the value of the panic, if there is one. What is left of it, and the heap. -/
structure Out where
  pend : Option Value
  h : AHeap

def unwindX (x : InvX) : List Deferred → Option Value → AHeap → Option Out
  | [], pend, h => some ⟨pend, h⟩
  | d :: ds, pend, h =>
    match d.target with
    | .collected b => match h.get b with
      | some (.deferred (some [])) => h.setK b (.deferred none) fun h => unwindX x ds pend h
      | _ => none
    | .fn (.func g) cap => match x (.defd pend) (.func g) (d.args.toList ++ cap.toList) h with
      | .ok _ h q => unwindX x ds q h
      | _ => none
    | _ => none

/-- what a frame gives behind its deferred calls -/
def leaveX (P : Program) (fn : Func) (tr : Tr Value) (q : Option Value) (o : Option Out) : ResV :=
  match o with
  | some ⟨some v, h⟩ => .pan v h
  | some ⟨none, h⟩ => match resAll P tr h fn.results.toList with
    | some vs => .ok (asResult vs) h q
    | none => .no
  | none => .no

def endX (P : Program) (x : InvX) (fn : Func) (s : StX) : ResV :=
  match s with
  | .ret tr todo defers h q => cond (retOk todo) (leaveX P fn tr q (unwindX x defers none h)) .no
  | .pan v tr h q ds => leaveX P fn tr q (unwindX x ds (some v) h)
  | .no => .no

def enterX (P : Program) (o : Opt) (x : InvX) (m : Md) (f : FuncId) (fn : Func) (body : Code) (args : List Value) (h : AHeap) : ResV :=
  match frmOf o fn body with
  | ⟨size, shared, most⟩ => cond (Nat.ble args.length most && Nat.ble args.length size)
    (endX P x fn (runFX ⟨⟨P, asInv x, f, size, none, shared⟩, x⟩ o.steps (treeOf args 0 .lf) [] h m.q [.code body])) .no

def normB (m : Md) : Bool :=
  match m with
  | .norm => true
  | .defd _ => false

/-- only a frame that was called as usual may panic on -/
def onlyV (m : Md) (r : ResV) : ResV :=
  match r with
  | .pan v h => cond (normB m) (.pan v h) .no
  | r => r

/-- functions whose results hang on their arguments alone -/
abbrev Prim := Nat → List Value → Option Value

def primX (pm : Prim) (f : Nat) (args : List Value) (h : AHeap) : ResV := resOf none (pv h (pm f args))

/-- values without addresses -/
def pl1 (v : Value) : Bool := match v with
  | .int _ _ => true
  | .bool _ => true
  | _ => false
def allB (p : Value → Bool) (l : List Value) : Bool := List.rec (motive := fun _ => Bool) true (fun v _ ih => Bool.rec (motive := fun _ => Bool) false ih (p v)) l
def pl2 (v : Value) : Bool := match v with
  | .agg xs => allB pl1 xs.toList
  | v => pl1 v
def pl3 (v : Value) : Bool := match v with
  | .tuple xs => allB pl2 xs.toList
  | v => pl2 v
def intB (a b : Int) : Bool := match a, b with
  | .ofNat a, .ofNat b => Nat.beq a b
  | .negSucc a, .negSucc b => Nat.beq a b
  | _, _ => false
def eq1 (a b : Value) : Bool := match a, b with
  | .int k a, .int k' b => decide (k = k') && intB a b
  | .bool a, .bool b => match a, b with
    | true, true => true
    | false, false => true
    | _, _ => false
  | _, _ => false
def eqs (p : Value → Value → Bool) : List Value → List Value → Bool
  | [], [] => true
  | a :: l, b :: m => cond (p a b) (eqs p l m) false
  | _, _ => false
def eq2 (a b : Value) : Bool := match a, b with
  | .agg xs, .agg ys => eqs eq1 xs.toList ys.toList
  | a, b => eq1 a b
/-- calls that are known: a function, its arguments, its result -/
abbrev Memo := List (Nat × List Value × Value)
def memoAt : Memo → Nat → List Value → Option Value
  | [], _, _ => none
  | (g, as, v) :: M, f, args => cond (Nat.beq g f) (cond (eqs eq2 as args) (some v) (memoAt M f args)) (memoAt M f args)

def invX (P : Program) (pm : Prim) (K : List Nat) (M : Memo) (o : Opt) : Nat → InvX
  | 0, _, _, _, _ => .no
  | n + 1, m, fn, args, h =>
    match fn with
    | .func f => match memoAt M f args with
      | some v => cond (normB m) (.ok v h none) .no
      | none => cond (isIn K f && noArgs args && normB m) (.ok (.bool true) h none) (match funcAt P f with
        | some (fn, body) => onlyV m (enterX P o (invX P pm K M o n) m f fn body args h)
        | none => cond (normB m) (primX pm f args h) .no)
    | .yield l => cond (normB m) (match h.get l with
      | some (.loop r) => cond (Nat.beq args.length r.params.toList.length) (resOf none (enterR P o (asInv (invX P pm K M o n)) l r args h)) .no
      | _ => .no) .no
    | _ => .no

/-- a call's result -/
def resultX (P : Program) (pm : Prim) (K : List Nat) (M : Memo) (f : FuncId) (args : List Value) : Option Value := match invX P pm K M ⟨STEPS, false⟩ 400 .norm (.func f) args (emptyHeap P) with
  | .ok v _ _ => some v
  | _ => none
end
end Go.Ev
