/- The evaluator: frames, regions, calls. -/
import Derived.Test.YtelepfablohdmaaGreatDoorEv2
set_option linter.unusedSimpArgs false
set_option linter.unusedVariables false
namespace Go.Ev
noncomputable section

/-- what a region has computed so far, the newest first -/
inductive Loc where
  | nil
  | cons (t : Tmp) (v : Value) (r : Loc)

def Loc.look (l : Loc) (t : Tmp) (d : Value) : Value :=
  Loc.rec (motive := fun _ => Value) d (fun t' v _ ih => Bool.rec (motive := fun _ => Value) ih v (Nat.beq t' t)) l

/-- what is not known -/
def top : Value := .chan (some 0)

def got (o : Option Value) : Value :=
  match o with
  | some v => v
  | none => top

def ev (l : Loc) (tr : Tr Value) (x : Operand) : Value :=
  match x with
  | .tmp t => l.look t (got (tr.get t))
  | .const v => Bool.rec (motive := fun _ => Value) top v (constOk v)
  | .global _ => top
  | .func f => .func (.func f) #[] #[]

def bitOf (s t : Nat) : Bool := Nat.beq (Nat.land (Nat.shiftRight s t) 1) 1

/-- at a region's end: what is looked at elsewhere goes into the tree -/
def Loc.flushK {β : Type} (s : Nat) (l : Loc) : Tr Value → (Tr Value → β) → β :=
  Loc.rec (motive := fun _ => Tr Value → (Tr Value → β) → β) (fun tr k => k tr)
    (fun t v _ ih tr k => Bool.rec (motive := fun _ => β) (ih tr k) (ih tr fun tr => Tr.setK tr t v k) (bitOf s t)) l

def forceI {β : Type} (n : Int) (k : Int → β) : β :=
  match n with
  | .ofNat n => forceN n fun n => k (.ofNat n)
  | .negSucc n => forceN n fun n => k (.negSucc n)
theorem forceI_eq {β : Type} (n : Int) (k : Int → β) : forceI n k = k n := by
  cases n with
  | ofNat n => exact forceN_eq n fun n => k (.ofNat n)
  | negSucc n => exact forceN_eq n fun n => k (.negSucc n)
def forceV {β : Type} (v : Value) (k : Value → β) : β :=
  match v with
  | .int d n => forceI n fun n => k (.int d n)
  | .bool b => cond b (k (.bool true)) (k (.bool false))
  | .slice a n c => forceN n fun n => forceN c fun c => k (.slice a n c)
  | v => k v
theorem forceV_eq {β : Type} (v : Value) (k : Value → β) : forceV v k = k v := by
  unfold forceV
  split
  · exact forceI_eq _ _
  · rename_i b; cases b <;> rfl
  · rw [forceN_eq, forceN_eq]
  · rfl

/-- is an operation wanted whose guard holds that value? -/
def isB (want : Bool) (v : Value) : Option Bool :=
  match v with
  | .bool b => some (cond b want (!want))
  | .tuple vs => match vs.toList with
    | [] => some false
    | _ :: _ => none
  | _ => none

def wantsAt (ops : List Oper) (l : Loc) (tr : Tr Value) (j : Nat) (want : Bool) : Option Bool :=
  match nth ops j with
  | some o => match o.dst with
    | some t => isB want (l.look t (got (tr.get t)))
    | none => some false
  | none => some false

/-- what is done with one operation; none: it cannot be told whether it is wanted -/
def oneOp (P : Program) (inv : Inv) (ops : List Oper) (o : Oper) (l : Loc) (tr : Tr Value) (h : AHeap) : Option (Value × AHeap) :=
  match o.guard with
  | none => (opC P o.op).f inv (ev l tr) h
  | some (j, want) => match wantsAt ops l tr j want with
    | some b => cond b ((opC P o.op).f inv (ev l tr) h) (some (undef, h))
    | none => none

def putL (size : Nat) (dst : Option Tmp) (v : Value) (l : Loc) : Loc :=
  match dst with
  | some d => Bool.rec (motive := fun _ => Loc) l (.cons d v l) (Nat.blt d size)
  | none => l

/-- operations in the order of the text -/
def runOps (P : Program) (inv : Inv) (size : Nat) (ops : List Oper) (tr : Tr Value) (rest : List Oper) : Loc → AHeap → Option (Loc × AHeap) :=
  List.rec (motive := fun _ => Loc → AHeap → Option (Loc × AHeap)) (fun l h => some (l, h))
    (fun o _ ih l h =>
      match oneOp P inv ops o l tr h with
      | some (v, h) => forceV v fun v => ih (putL size o.dst v l) h
      | none => none) rest

/-! ### regions that draw their order -/
def allBelow (n : Nat) (p : Nat → Bool) : Bool := Nat.rec (motive := fun _ => Bool) true (fun m ih => Bool.rec (motive := fun _ => Bool) false ih (p m)) n

def opdMask (x : Operand) : Nat :=
  match x with
  | .tmp t => Nat.shiftLeft 1 t
  | _ => 0
def opdsMask (l : List Operand) : Nat := List.rec (motive := fun _ => Nat) 0 (fun x _ ih => Nat.lor (opdMask x) ih) l
def dstMask (d : Option Tmp) : Nat :=
  match d with
  | some t => Nat.shiftLeft 1 t
  | none => 0

/-- the slots that an operation looks at, its guard's among them -/
def looksMask (ops : List Oper) (o : Oper) : Nat :=
  Nat.lor (opdsMask o.op.operands.toList) (match o.guard with
    | some (j, _) => match nth ops j with
      | some g => dstMask g.dst
      | none => 0
    | none => 0)

inductive Kind where
  | pure | read | alloc | heavy

def kindOf (op : Op) : Kind :=
  match op with
  | .load .. => .read
  | .lookup .. => .read
  | .slice .. => .read
  | .alloc _ => .alloc
  | .box .. => .alloc
  | .buildSlice .. => .alloc
  | .makeMap .. => .alloc
  | .makeSlice .. => .alloc
  | .store .. => .heavy
  | .mapUpdate .. => .heavy
  | .call c => match c.callee with
    | .builtin b => match b with
      | .len => .read
      | .cap => .read
      | _ => .heavy
    | _ => .heavy
  | _ => .pure

def isHeavy (k : Kind) : Bool :=
  match k with
  | .heavy => true
  | _ => false
def isRead (k : Kind) : Bool :=
  match k with
  | .read => true
  | _ => false

def heavyAt (ops : List Oper) (i : Nat) : Bool :=
  match nth ops i with
  | some o => isHeavy (kindOf o.op)
  | none => false
def readAt (ops : List Oper) (i : Nat) : Bool :=
  match nth ops i with
  | some o => isRead (kindOf o.op)
  | none => false

/-- what must come before an operation: the places on its edges, and what must come before them -/
def edgeMask (done : List Nat) (l : List Edge) : Nat :=
  List.rec (motive := fun _ => Nat) 0 (fun e _ ih => Bool.rec (motive := fun _ => Nat) ih (Nat.lor (Nat.lor (Nat.shiftLeft 1 e.on) (match nth done e.on with
    | some m => m
    | none => 0)) ih) (Region.binds .any e)) l

def closFrom (l : List Oper) : List Nat → List Nat :=
  List.rec (motive := fun _ => List Nat → List Nat) (fun done => done) (fun o _ ih done => forceN (edgeMask done o.after.toList) fun m => ih (done ++ [m])) l
def clos (ops : List Oper) : List Nat := closFrom ops []
/-- must i come before j? -/
def mustBefore (ops : List Oper) (i j : Nat) : Bool :=
  match nth (clos ops) j with
  | some m => bitOf m i
  | none => false

def edgesOk (j : Nat) (l : List Edge) : Bool := List.rec (motive := fun _ => Bool) true (fun e _ ih => Bool.rec (motive := fun _ => Bool) ih (Bool.rec (motive := fun _ => Bool) false ih (Nat.blt e.on j)) (Region.binds .any e)) l

/-- do two operations, the first one earlier in the text, meet in a slot, or in memory that both may write? -/
def meet (ops : List Oper) (a b : Oper) : Bool :=
  (!Nat.beq (Nat.land (dstMask a.dst) (Nat.lor (looksMask ops b) (dstMask b.dst))) 0) || (!Nat.beq (Nat.land (dstMask b.dst) (looksMask ops a)) 0) || (isHeavy (kindOf a.op) && isHeavy (kindOf b.op))

def pairOk (ops : List Oper) (i j : Nat) : Bool :=
  match nth ops i, nth ops j with
  | some a, some b => !meet ops a b || mustBefore ops i j
  | _, _ => true

def drawOk (ops : List Oper) : Bool :=
  allBelow ops.length fun j => (match nth ops j with
    | some o => edgesOk j o.after.toList
    | none => true) && allBelow j fun i => pairOk ops i j

/-- the stages: behind how many operations that may write -/
def isTau (ops : List Oper) (t : Nat) : Bool := Nat.rec (motive := fun _ => Bool) true (fun j _ => heavyAt ops j) t

/-- may operation i be carried out behind just those that may write and stand before t? -/
def mayAt (ops : List Oper) (i t : Nat) : Bool :=
  allBelow ops.length fun j => !heavyAt ops j || ((!mustBefore ops j i || Nat.blt j t) && (!mustBefore ops i j || Nat.ble t j))

/-- none of those stands from a on, before b -/
def calmB (ops : List Oper) (a b : Nat) : Bool := allBelow b fun j => Nat.blt j a || !heavyAt ops j

/-- the next of them, or the end -/
def nextHeavy (ops : List Oper) (t : Nat) : Nat :=
  Nat.rec (motive := fun _ => Nat → Nat) (fun t => t) (fun _ ih t => Bool.rec (motive := fun _ => Nat) (ih (Nat.succ t)) t (heavyAt ops t || Nat.ble ops.length t)) ops.length t

/-- the other places at which operation i must read the same -/
def needsFrom (ops : List Oper) (i : Nat) (n : Nat) : List Nat :=
  Nat.rec (motive := fun _ => List Nat) [] (fun t ih => Bool.rec (motive := fun _ => List Nat) ih (nextHeavy ops t :: ih) (isTau ops t && mayAt ops i t && !(calmB ops t i && calmB ops i t))) n
def needs (ops : List Oper) (i : Nat) : List Nat := Bool.rec (motive := fun _ => List Nat) [] (needsFrom ops i (Nat.succ ops.length)) (readAt ops i)

def isNil (l : List Nat) : Bool :=
  match l with
  | [] => true
  | _ => false
def quietB (ops : List Oper) : Bool := allBelow ops.length fun i => isNil (needs ops i)

structure Rec where
  l : Loc
  h : AHeap
  v : Value

def recCons (l : Loc) (h : AHeap) (v : Value) (o : Option (List Rec)) : Option (List Rec) :=
  match o with
  | some rs => some (⟨l, h, v⟩ :: rs)
  | none => none

def runD (P : Program) (inv : Inv) (size : Nat) (ops : List Oper) (tr : Tr Value) (rest : List Oper) : Loc → AHeap → Option (List Rec) :=
  List.rec (motive := fun _ => Loc → AHeap → Option (List Rec)) (fun l h => some [⟨l, h, undef⟩])
    (fun o _ ih l h =>
      match oneOp P inv ops o l tr h with
      | some (v, h') => forceV v fun v => recCons l h v (ih (putL size o.dst v l) h')
      | none => none) rest

def addrEq (a b : Option Addr) : Bool :=
  match a, b with
  | none, none => true
  | some a, some b => match a.spot, b.spot with
    | none, none => Nat.beq a.block b.block && Nat.beq a.off b.off
    | some x, some y => Nat.beq x y && (Nat.beq a.block b.block && Nat.beq a.off b.off)
    | _, _ => false
  | _, _ => false

def cellSame (a b : Value) : Bool :=
  match a with
  | .int k x => match b with
    | .int k' y => kindEq k k' && eqI x y
    | _ => false
  | .bool x => match b with
    | .bool y => x == y
    | _ => false
  | .string x => match b with
    | .string y => bytesEq x.data.toList y.data.toList
    | _ => false
  | .pointer x => match b with
    | .pointer y => addrEq x y
    | _ => false
  | .slice x n c => match b with
    | .slice y m d => addrEq x y && Nat.beq n m && Nat.beq c d
    | _ => false
  | .map (some x) => match b with
    | .map (some y) => Nat.beq x y
    | _ => false
  | .map none => match b with
    | .map none => true
    | _ => false
  | .nilFunc => match b with
    | .nilFunc => true
    | _ => false
  | .nilIface => match b with
    | .nilIface => true
    | _ => false
  | _ => false

def cellsSame (x : List Value) : List Value → Bool :=
  List.rec (motive := fun _ => List Value → Bool) (fun y => List.rec (motive := fun _ => Bool) true (fun _ _ _ => false) y)
    (fun a _ ih y => List.rec (motive := fun _ => Bool) false (fun b r _ => Bool.rec (motive := fun _ => Bool) false (ih r) (cellSame a b)) y) x

def same (a b : Value) : Bool :=
  match a with
  | .agg x => match b with
    | .agg y => cellsSame x.toList y.toList
    | _ => false
  | .tuple x => match b with
    | .tuple y => cellsSame x.toList y.toList
    | _ => false
  | a => cellSame a b

/-- does an operation read the same at another place? -/
def againAt (P : Program) (inv : Inv) (ops : List Oper) (tr : Tr Value) (o : Oper) (r : Rec) (rs : List Rec) (m : Nat) : Bool :=
  match nth rs m with
  | some r' => match oneOp P inv ops o r.l tr r'.h with
    | some (v, _) => same v r.v
    | none => false
  | none => false

def againAll (P : Program) (inv : Inv) (ops : List Oper) (tr : Tr Value) (o : Oper) (r : Rec) (rs : List Rec) (l : List Nat) : Bool :=
  List.rec (motive := fun _ => Bool) true (fun m _ ih => Bool.rec (motive := fun _ => Bool) false ih (againAt P inv ops tr o r rs m)) l

def checksD (P : Program) (inv : Inv) (ops : List Oper) (tr : Tr Value) (rs : List Rec) : Bool :=
  allBelow ops.length fun i => match nth ops i, nth rs i with
    | some o, some r => againAll P inv ops tr o r rs (needs ops i)
    | _, _ => false

/-- a region that draws its order: what it comes to in the order of the text, if that is what it comes to in every order -/
def runAny (P : Program) (inv : Inv) (size : Nat) (ops : List Oper) (tr : Tr Value) (h : AHeap) : Option (Loc × AHeap) :=
  Bool.rec (motive := fun _ => Option (Loc × AHeap)) none
    (Bool.rec (motive := fun _ => Option (Loc × AHeap))
      (match runD P inv size ops tr ops .nil h with
        | some rs => Bool.rec (motive := fun _ => Option (Loc × AHeap)) none (match nth rs ops.length with
          | some r => some (r.l, r.h)
          | none => none) (checksD P inv ops tr rs)
        | none => none)
      (runOps P inv size ops tr ops .nil h) (quietB ops)) (drawOk ops)

def putAll : List Tmp → List Value → Tr Value → Tr Value
  | t :: ts, v :: vs, tr => putAll ts vs (tr.set t v)
  | _, _, tr => tr

/-- what stays the same while a frame runs; 'shared': the slots that more than one region looks at -/
structure Ctx where
  P : Program
  inv : Inv
  fn : FuncId
  size : Nat
  round : Option Nat
  shared : Nat

structure St where
  tr : Tr Value
  todo : List Item
  defers : List Deferred
  h : AHeap

inductive Nx where
  | go (todo : List Item)
  | set (tr : Tr Value) (h : AHeap) (todo : List Item) (defers : List Deferred)
  | done
  | fail

def condNx (v : Value) (a b : Code) (k : List Item) : Nx :=
  match v with
  | .bool t => cond t (.go (.code a :: k)) (.go (.code b :: k))
  | _ => .fail

def exitNx (o : Option (List Item)) : Nx :=
  match o with
  | some k => .go k
  | none => .done

def regionNx (shared : Nat) (tr : Tr Value) (k : List Item) (defers : List Deferred) (r : Option (Loc × AHeap)) : Nx :=
  match r with
  | some (l, h) => l.flushK shared tr fun tr => .set tr h k defers
  | none => .fail

def loopOf (c : Ctx) (tr : Tr Value) (params : Array Tmp) (assign body : Code) (defers : Nat) : AObj :=
  .loop { state := .ready, pending := none, fn := c.fn, size := c.size, shared := c.shared, tr, params, assign, body, defers }

def loopCall (c : Ctx) (f : Value) (l : Nat) (h : AHeap) : Option (Value × AHeap) :=
  callV c.inv f [.func (.yield l) #[] #[]] h

def ALoop.with (r : ALoop) (s : LoopState) (p : Option Code) : AObj := .loop { r with state := s, pending := p }

def todoOf (p : Option Code) (k : List Item) : List Item :=
  match p with
  | some c => .code c :: k
  | none => k

def endNx (tr : Tr Value) (defers : List Deferred) (h : AHeap) (l : Nat) (k : List Item) : Nx :=
  match h.get l with
  | some (.loop r) =>
    match r.state with
    | .busy => .fail
    | _ => h.setK l (r.with .exhausted r.pending) fun h => .set tr h (todoOf r.pending k) defers
  | _ => .fail

def rangeNx (c : Ctx) (tr : Tr Value) (defers : List Deferred) (h : AHeap) (f : Value) (params : Array Tmp) (assign body : Code) (k : List Item) : Nx :=
  match c.round with
  | none =>
    match loopCall c f (Nat.succ h.next) ((h.new (.deferred (some []))).new (loopOf c tr params assign body h.next)) with
    | some (_, h') => endNx tr ({ target := .collected h.next, args := #[] } :: defers) h' (Nat.succ h.next) k
    | none => .fail
  | some l0 =>
    match h.get l0 with
    | some (.loop r) =>
      match loopCall c f h.next (h.new (loopOf c tr params assign body r.defers)) with
      | some (_, h') => endNx tr defers h' h.next k
      | none => .fail
    | _ => .fail

def beginNx (round : Option Nat) (tr : Tr Value) (defers : List Deferred) (h : AHeap) (k : List Item) : Nx :=
  match round with
  | some l =>
    match h.get l with
    | some (.loop r) =>
      match r.state with
      | .ready => h.setK l (r.with .busy r.pending) fun h => .set tr h k defers
      | _ => .fail
    | _ => .fail
  | none => .fail

/-- what an item does, chosen once -/
structure NV where
  f : Ctx → Tr Value → List Deferred → AHeap → List Item → Nx

def codeC (x : Code) : NV :=
  match x with
  | .skip => ⟨fun _ _ _ _ k => .go k⟩
  | .label _ => ⟨fun _ _ _ _ k => .go k⟩
  | .seq a b => ⟨fun _ _ _ _ k => .go (.code a :: .code b :: k)⟩
  | .cond v a b => ⟨fun _ tr _ _ k => condNx (ev .nil tr v) a b k⟩
  | .block id b => ⟨fun _ _ _ _ k => .go (.code b :: .inBlock id :: k)⟩
  | .loop b => ⟨fun _ _ _ _ k => .go (.code b :: .inLoop b :: k)⟩
  | .scope b => ⟨fun _ _ _ _ k => .go (.code b :: .inScope b :: k)⟩
  | .exit id => ⟨fun _ _ _ _ k => exitNx (exitTo id k)⟩
  | .goto l => ⟨fun _ _ _ _ k => exitNx (gotoIn l k)⟩
  | .ret => ⟨fun _ _ _ _ _ => .done⟩
  | .region _ ops draw => Bool.rec (motive := fun _ => NV) ⟨fun c tr defers h k => regionNx c.shared tr k defers (runOps c.P c.inv c.size ops.toList tr ops.toList .nil h)⟩ ⟨fun c tr defers h k => regionNx c.shared tr k defers (runAny c.P c.inv c.size ops.toList tr h)⟩ draw
  | .rangeFunc f params assign body => ⟨fun c tr defers h k => rangeNx c tr defers h (ev .nil tr f) params assign body k⟩
  | .refuse _ => ⟨fun _ _ _ _ _ => .fail⟩

def itemC (x : Item) : NV :=
  match x with
  | .code x => codeC x
  | .inBlock _ => ⟨fun _ _ _ _ k => .go k⟩
  | .inScope _ => ⟨fun _ _ _ _ k => .go k⟩
  | .inLoop b => ⟨fun _ _ _ _ k => .go (.code b :: .inLoop b :: k)⟩
  | .beginRound => ⟨fun c tr defers h k => beginNx c.round tr defers h k⟩
  | _ => ⟨fun _ _ _ _ _ => .fail⟩

def nextF (tr : Tr Value) (defers : List Deferred) (h : AHeap) (x : Item) (k : List Item) (ih : Tr Value → List Deferred → AHeap → List Item → Option St) (nx : Nx) : Option St :=
  match nx with
  | .go todo => ih tr defers h todo
  | .set tr h todo defers => ih tr defers h todo
  | .done => some ⟨tr, x :: k, defers, h⟩
  | .fail => none

def runF (c : Ctx) (n : Nat) : Tr Value → List Deferred → AHeap → List Item → Option St :=
  Nat.rec (motive := fun _ => Tr Value → List Deferred → AHeap → List Item → Option St) (fun _ _ _ _ => none)
    (fun _ ih tr defers h todo =>
      List.rec (motive := fun _ => Option St) (some ⟨tr, [], defers, h⟩) (fun x k _ => nextF tr defers h x k ih ((itemC x).f c tr defers h k)) todo) n

def STEPS : Nat := 1000000

def cellV (P : Program) (h : AHeap) (t : TypeId) (v : Value) : Option Value :=
  match v with
  | .pointer (some a) =>
    match a.spot, h.get a.block with
    | none, some (.cells c _ _) => loadV P t c a.off
    | _, _ => none
  | _ => none

def resV (P : Program) (tr : Tr Value) (h : AHeap) (r : ResultVar) : Option Value :=
  match r with
  | .tmp t => some (ev .nil tr (.tmp t))
  | .cell a t => cellV P h t (ev .nil tr (.tmp a))

def resAll (P : Program) (tr : Tr Value) (h : AHeap) : List ResultVar → Option (List Value)
  | [] => some []
  | r :: rs =>
    match resV P tr h r, resAll P tr h rs with
    | some v, some vs => some (v :: vs)
    | _, _ => none

def asResult : List Value → Value
  | [v] => v
  | vs => .tuple vs.toArray

/-- the marks of loops, whose deferred calls are none -/
def unwindA : List Deferred → AHeap → Option AHeap
  | [], h => some h
  | d :: ds, h =>
    match d.target with
    | .collected b => match h.get b with
      | some (.deferred (some [])) => unwindA ds (h.set b (.deferred none))
      | _ => none
    | _ => none

/-- a tree of a list, from place i on -/
def treeOf (l : List Value) : Nat → Tr Value → Tr Value :=
  List.rec (motive := fun _ => Nat → Tr Value → Tr Value) (fun _ t => t) (fun v _ ih i t => Tr.setK t i v fun t => ih (Nat.succ i) t) l

def retOk : List Item → Bool
  | [] => true
  | .code .ret :: _ => true
  | _ => false

def giveBack (P : Program) (fn : Func) (tmps : Tr Value) (todo : List Item) (defers : List Deferred) (h : AHeap) : Option (Value × AHeap) :=
  cond (retOk todo)
    (match unwindA defers h with
      | some h => match resAll P tmps h fn.results.toList with
        | some vs => some (asResult vs, h)
        | none => none
      | none => none)
    none

def roundEnd (l : Nat) (todo : List Item) (h : AHeap) : Option (Value × AHeap) :=
  match h.get l with
  | some (.loop r) =>
    match todo with
    | [] => h.setK l (r.with .ready none) fun h => some (.bool true, h)
    | .code c :: _ => h.setK l (r.with .done (some c)) fun h => some (.bool false, h)
    | _ => none
  | _ => none

def opsMask : List Oper → Nat
  | [] => 0
  | o :: l => Nat.lor (Nat.lor (dstMask o.dst) (opdsMask o.op.operands.toList)) (opsMask l)
/-- (slots seen once, slots seen in two places) -/
structure Seen where
  a : Nat
  b : Nat
def Seen.add (s : Seen) (m : Nat) : Seen := forceN (Nat.lor s.a m) fun a => forceN (Nat.lor s.b (Nat.land s.a m)) fun b => ⟨a, b⟩
def paramsMask : List Tmp → Nat
  | [] => 0
  | t :: l => Nat.lor (Nat.shiftLeft 1 t) (paramsMask l)
def Seen.code (c : Code) (s : Seen) : Seen :=
  match c with
  | .region _ ops _ => s.add (opsMask ops.toList)
  | .seq a b => Seen.code b (Seen.code a s)
  | .cond v a b => Seen.code b (Seen.code a (s.add (opdMask v)))
  | .block _ b => Seen.code b s
  | .loop b => Seen.code b s
  | .rangeFunc f ps a b => Seen.code b (Seen.code a ((s.add (opdMask f)).add (paramsMask ps.toList)))
  | .scope b => Seen.code b s
  | _ => s
def resMask : List ResultVar → Nat
  | [] => 0
  | .tmp t :: l => Nat.lor (Nat.shiftLeft 1 t) (resMask l)
  | .cell t _ :: l => Nat.lor (Nat.shiftLeft 1 t) (resMask l)
/-- all parameters, and what is seen in two places -/
def sharedOf (fn : Func) (body : Code) : Nat :=
  Nat.lor (Nat.sub (Nat.shiftLeft 1 (fn.params.size + fn.nfree)) 1) ((Seen.code body ⟨resMask fn.results.toList, 0⟩).b)

/-- a frame's steps; is every slot kept from region to region? -/
structure Opt where
  steps : Nat
  all : Bool
  L : List Nat
  X : Inv → Inv
def noX : Inv → Inv := fun _ _ _ _ => none

structure Frm where
  size : Nat
  shared : Nat
  most : Nat

/-- what is known of a function's frames -/
def maskOf (o : Opt) (fn : Func) (body : Code) : Nat := Bool.rec (motive := fun _ => Nat) (sharedOf fn body) (Nat.sub (Nat.shiftLeft 1 fn.ntmps) 1) o.all
def frmOf (o : Opt) (fn : Func) (body : Code) : Frm := forceN fn.ntmps fun n => forceN (fn.params.size + fn.nfree) fun k => forceN (maskOf o fn body) fun s => ⟨n, s, k⟩

def enterF (P : Program) (o : Opt) (inv : Inv) (f : FuncId) (fn : Func) (body : Code) (args : List Value) (h : AHeap) : Option (Value × AHeap) :=
  match frmOf o fn body with
  | ⟨size, shared, most⟩ => cond (Nat.ble args.length most && Nat.ble args.length size)
    (match runF ⟨P, inv, f, size, none, shared⟩ o.steps (treeOf args 0 .lf) [] h [.code body] with
      | some ⟨tr, todo, defers, h⟩ => giveBack P fn tr todo defers h
      | none => none)
    none

def slotsOk (size : Nat) : List Tmp → Bool
  | [] => true
  | t :: l => Nat.blt t size && slotsOk size l

def enterR (P : Program) (o : Opt) (inv : Inv) (l : Nat) (r : ALoop) (args : List Value) (h : AHeap) : Option (Value × AHeap) :=
  cond (slotsOk r.size r.params.toList) (match runF ⟨P, inv, r.fn, r.size, some l, Nat.lor r.shared (paramsMask r.params.toList)⟩ o.steps (putAll r.params.toList args r.tr) [] h [.code r.assign, .beginRound, .code r.body] with
  | some ⟨_, todo, _, h⟩ => roundEnd l todo h
  | none => none) none

def funcAt (P : Program) (f : FuncId) : Option (Func × Code) :=
  match nth P.funcs.toList f with
  | some fn => match fn.body with
    | some body => some (fn, body)
    | none => none
  | none => none

/-- is it one of the closed calls that are known to come to true? -/
def isIn (K : List Nat) (f : Nat) : Bool := List.rec (motive := fun _ => Bool) false (fun k _ ih => Bool.rec (motive := fun _ => Bool) ih true (Nat.beq k f)) K
def noArgs (l : List Value) : Bool :=
  match l with
  | [] => true
  | _ => false

def inv (P : Program) (K : List Nat) (o : Opt) : Nat → Inv
  | 0, _, _, _ => none
  | n + 1, fn, args, h =>
    match fn with
    | .func f => cond (isIn o.L f) (o.X (inv P K o n) (.func f) args h) (cond (isIn K f && noArgs args) (some (.bool true, h)) (match funcAt P f with
      | some (fn, body) => enterF P o (inv P K o n) f fn body args h
      | none => none))
    | .yield l => match h.get l with
      | some (.loop r) => cond (Nat.beq args.length r.params.toList.length) (enterR P o (inv P K o n) l r args h) none
      | _ => none
    | _ => none

def emptyHeap (P : Program) : AHeap := ⟨.lf, P.globals.size⟩

/-- a call's result -/
def result (P : Program) (K : List Nat) (f : FuncId) (args : List Value) : Option Value := match inv P K ⟨STEPS, false, [], noX⟩ 400 (.func f) args (emptyHeap P) with
  | some p => some p.1
  | none => none
def isTrue : Option Value → Bool
  | some (.bool true) => true
  | _ => false
end
end Go.Ev
