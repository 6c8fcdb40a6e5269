/- The evaluator's heap, and what single operations compute over it. -/
import Derived.Test.YtelepfablohdmaaGreatDoorEv1
set_option linter.unusedSimpArgs false
set_option linter.unusedVariables false
namespace Go.Ev
noncomputable section

structure ALoop where
  state : LoopState
  pending : Option Code
  fn : FuncId
  size : Nat
  shared : Nat
  tr : Tr Value
  params : Array Tmp
  assign : Code
  body : Code
  defers : Nat

/-- A block: cells (which may be written or not), a map, a range-over-function loop, its deferred calls; or one that nothing may look at any more. -/
inductive AObj where
  | cells (c : List Value) (elem : TypeId) (rw : Bool)
  | map (es : List MapEntry) (clock : Nat)
  | loop (l : ALoop)
  | deferred (calls : Option (List Deferred))
  | dead

structure AHeap where
  tr : Tr AObj
  next : Nat

def AHeap.get (h : AHeap) (b : Nat) : Option AObj := h.tr.get b
def AHeap.set (h : AHeap) (b : Nat) (o : AObj) : AHeap := ⟨h.tr.set b o, h.next⟩
def AHeap.new (h : AHeap) (o : AObj) : AHeap := ⟨h.tr.set h.next o, Nat.succ h.next⟩

def forceN {β : Type} (n : Nat) (k : Nat → β) : β := Nat.rec (motive := fun _ => β) (k 0) (fun m _ => k (Nat.succ m)) n
theorem forceN_eq {β : Type} (n : Nat) (k : Nat → β) : forceN n k = k n := by cases n <;> rfl

/-- new, and what is done with the heap -/
def AHeap.newK {β : Type} (h : AHeap) (o : AObj) (k : Nat → AHeap → β) : β :=
  match h with
  | ⟨tr, next⟩ => forceN next fun next => Tr.setK tr next o fun tr => k next ⟨tr, Nat.succ next⟩
theorem AHeap.newK_eq {β : Type} (h : AHeap) (o : AObj) (k : Nat → AHeap → β) : h.newK o k = k h.next (h.new o) := by
  cases h; simp only [AHeap.newK, forceN_eq, Tr.setK_eq, AHeap.new]
def AHeap.setK {β : Type} (h : AHeap) (b : Nat) (o : AObj) (k : AHeap → β) : β :=
  match h with
  | ⟨tr, next⟩ => Tr.setK tr b o fun tr => k ⟨tr, next⟩
theorem AHeap.setK_eq {β : Type} (h : AHeap) (b : Nat) (o : AObj) (k : AHeap → β) : h.setK b o k = k (h.set b o) := by
  cases h; simp only [AHeap.setK, Tr.setK_eq, AHeap.set]

/-- A capacity from EX on is known exactly; below it is the least that it can be. -/
def EX : Nat := 2 ^ 64
def capLo (c : Nat) : Nat := cond (Nat.ble EX c) (c - EX) c
def isEx (c : Nat) : Bool := Nat.ble EX c

def aggD : TypeDesc → Bool
  | .struct _ | .array _ _ => true
  | _ => false

/-- v in front, if there is a list -/
def cons? (v : Value) (o : Option (List Value)) : Option (List Value) :=
  match o with
  | some l => some (v :: l)
  | none => none

def takeN (n : Nat) : List Value → Option (List Value) :=
  Nat.rec (motive := fun _ => List Value → Option (List Value)) (fun _ => some [])
    (fun _ ih l => List.rec (motive := fun _ => Option (List Value)) none (fun v r _ => cons? v (ih r)) l) n

def dropN {α : Type} (n : Nat) : List α → List α :=
  Nat.rec (motive := fun _ => List α → List α) (fun l => l)
    (fun _ ih l => List.rec (motive := fun _ => List α) [] (fun _ r _ => ih r) l) n

def first? {α : Type} (l : List α) : Option α := List.rec (motive := fun _ => Option α) none (fun a _ _ => some a) l

def at? {α : Type} (c : List α) (off : Nat) : Option α := first? (dropN off c)

/-- cells from off on, n of them -/
def cut (c : List Value) (off n : Nat) : Option (List Value) := takeN n (dropN off c)

def over0 (vs : List Value) : List Value → Option (List Value) :=
  List.rec (motive := fun _ => List Value → Option (List Value)) (fun l => some l)
    (fun v _ ih l => List.rec (motive := fun _ => Option (List Value)) none (fun _ r _ => cons? v (ih r)) l) vs

/-- new cells over old ones, from off on; none: they do not fit -/
def over (l : List Value) (off : Nat) (vs : List Value) : Option (List Value) :=
  Nat.rec (motive := fun _ => List Value → Option (List Value)) (fun l => over0 vs l)
    (fun _ ih l => List.rec (motive := fun _ => Option (List Value)) none (fun x r _ => cons? x (ih r)) l) off l

/-- the value of one cell -/
def flat (v : Value) : Bool :=
  match v with
  | .agg _ | .tuple _ | .chan _ => false
  | _ => true

def allFlat (l : List Value) : Bool := List.rec (motive := fun _ => Bool) true (fun v _ ih => Bool.rec (motive := fun _ => Bool) false ih (flat v)) l

/-- a constant that is the same everywhere -/
def constOk (v : Value) : Bool :=
  match v with
  | .bool _ | .int _ _ | .string _ | .pointer none | .map none | .nilFunc | .nilIface => true
  | .slice none 0 0 => true
  | _ => false

def allConst (l : List Value) : Bool := List.rec (motive := fun _ => Bool) true (fun v _ ih => Bool.rec (motive := fun _ => Bool) false ih (constOk v)) l

/-- a type's zero value, if it is the same everywhere -/
def zeroOk (size : Nat) (z : Value) : Bool :=
  match z with
  | .agg cs => allConst cs.toList && Nat.beq cs.toList.length size
  | v => constOk v && Nat.beq size 1

def zeroV (P : Program) (t : TypeId) : Option Value :=
  match P.info? t with
  | some i => match i.zero with
    | some z => cond (zeroOk i.size z) (some z) none
    | none => none
  | none => none

def plainD (d : TypeDesc) : Bool :=
  match d with
  | .bool | .int _ | .string => true
  | _ => false

def loadV (P : Program) (t : TypeId) (c : List Value) (off : Nat) : Option Value :=
  match P.info? t, P.underlying t with
  | some i, some d => if aggD d then (cut c off i.size).map fun l => .agg l.toArray else at? c off
  | _, _ => none

def goI (n : Nat) : Value := .int .i64 n

def bytesEq (x : List UInt8) : List UInt8 → Bool :=
  List.rec (motive := fun _ => List UInt8 → Bool) (fun y => List.rec (motive := fun _ => Bool) true (fun _ _ _ => false) y)
    (fun a _ ih y => List.rec (motive := fun _ => Bool) false (fun b r _ => Bool.rec (motive := fun _ => Bool) false (ih r) (Nat.beq a.toNat b.toNat)) y) x
def bytesLt : List UInt8 → List UInt8 → Bool
  | _, [] => false
  | [], _ :: _ => true
  | a :: x, b :: y => cond (Nat.beq a.toNat b.toNat) (bytesLt x y) (Nat.blt a.toNat b.toNat)

structure SB where
  f : List UInt8 → List UInt8 → Option Value

def strC (op : BinOp) : SB :=
  match op with
  | .add => ⟨fun x y => cond (Nat.ble (x.length + y.length) 1000000000) (some (.string ⟨(x ++ y).toArray⟩)) none⟩
  | .eql => ⟨fun x y => some (.bool (bytesEq x y))⟩
  | .neq => ⟨fun x y => some (.bool (!bytesEq x y))⟩
  | .lss => ⟨fun x y => some (.bool (bytesLt x y))⟩
  | .leq => ⟨fun x y => some (.bool (bytesLt x y || bytesEq x y))⟩
  | .gtr => ⟨fun x y => some (.bool (!(bytesLt x y || bytesEq x y)))⟩
  | .geq => ⟨fun x y => some (.bool (!bytesLt x y))⟩
  | _ => ⟨fun _ _ => none⟩

def small (k : IntKind) (n : Int) : Bool :=
  match k, n with
  | .i64, .ofNat m => Nat.blt m 9223372036854775808
  | .i64, .negSucc m => Nat.blt m 9223372036854775808
  | .u64, .ofNat m => Nat.blt m 18446744073709551616
  | .u8, .ofNat m => Nat.blt m 256
  | .i32, .ofNat m => Nat.blt m 2147483648
  | .i32, .negSucc m => Nat.blt m 2147483648
  | _, _ => false

/-- wrap, at once where nothing is wrapped -/
def wrapF (k : IntKind) (n : Int) : Int := cond (small k n) n (k.wrap n)

def ltI (a b : Int) : Bool :=
  match a, b with
  | .ofNat m, .ofNat n => Nat.blt m n
  | .ofNat _, .negSucc _ => false
  | .negSucc _, .ofNat _ => true
  | .negSucc m, .negSucc n => Nat.blt n m

def eqI (a b : Int) : Bool :=
  match a, b with
  | .ofNat m, .ofNat n => Nat.beq m n
  | .negSucc m, .negSucc n => Nat.beq m n
  | _, _ => false

def isZero (a : Int) : Bool := eqI a (.ofNat 0)

structure IB where
  f : IntKind → Int → Int → Option Value

def intC (op : BinOp) : IB :=
  match op with
  | .add => ⟨fun k a b => some (.int k (wrapF k (Int.add a b)))⟩
  | .sub => ⟨fun k a b => some (.int k (wrapF k (Int.sub a b)))⟩
  | .mul => ⟨fun k a b => some (.int k (wrapF k (Int.mul a b)))⟩
  | .quo => ⟨fun k a b => cond (isZero b) none (some (.int k (wrapF k (Int.tdiv a b))))⟩
  | .rem => ⟨fun k a b => cond (isZero b) none (some (.int k (Int.tmod a b)))⟩
  | .eql => ⟨fun _ a b => some (.bool (eqI a b))⟩
  | .neq => ⟨fun _ a b => some (.bool (!eqI a b))⟩
  | .lss => ⟨fun _ a b => some (.bool (ltI a b))⟩
  | .leq => ⟨fun _ a b => some (.bool (!ltI b a))⟩
  | .gtr => ⟨fun _ a b => some (.bool (ltI b a))⟩
  | .geq => ⟨fun _ a b => some (.bool (!ltI a b))⟩
  | _ => ⟨fun _ _ _ => none⟩

def kindEq (a b : IntKind) : Bool :=
  match a, b with
  | .i64, .i64 | .u64, .u64 | .u8, .u8 | .i32, .i32 | .i8, .i8 | .i16, .i16 | .u16, .u16 | .u32, .u32 => true
  | _, _ => false

/-- two cells of a plain kind -/
def cellEq : TypeDesc → Value → Value → Option Bool
  | .int _, .int k a, .int k' b => cond (kindEq k k') (some (eqI a b)) none
  | .string, .string a, .string b => some (bytesEq a.data.toList b.data.toList)
  | .bool, .bool a, .bool b => some (a == b)
  | _, _, _ => none

/-- two structs whose fields are of plain kinds, field by field -/
def fieldsEq (P : Program) (xs ys : Array Value) : List Field → Option Bool
  | [] => some true
  | f :: fs =>
    if f.name = "_" then none else
    match P.underlying f.type, xs[f.offset]?, ys[f.offset]? with
    | some d, some x, some y =>
      if aggD d then none else
      match cellEq d x y with
      | some true => fieldsEq P xs ys fs
      | some false => some false
      | none => none
    | _, _, _ => none

/-- two arrays whose elements are of a plain kind, cell by cell -/
def cellsEq (d : TypeDesc) : Nat → List Value → List Value → Option Bool
  | 0, _, _ => some true
  | n + 1, x :: xs, y :: ys =>
    match cellEq d x y with
    | some true => cellsEq d n xs ys
    | some false => some false
    | none => none
  | _ + 1, _, _ => none

def valEq (P : Program) (t : TypeId) (x y : Value) : Option Bool :=
  match P.underlying t with
  | some (.struct fields) =>
    match x, y with
    | .agg xs, .agg ys => if P.stoodInHeld t || P.eqGuardType P.depth t then none else fieldsEq P xs ys fields.toList
    | _, _ => none
  | some (.pointer _) =>
    match x, y with
    | .pointer none, .pointer b => some b.isNone
    | .pointer (some _), .pointer none => some false
    | _, _ => none
  | some (.slice _) =>
    match x, y with
    | .slice none _ _, .slice b _ _ => some b.isNone
    | .slice (some _) _ _, .slice none _ _ => some false
    | _, _ => none
  | some (.map _ _) =>
    match x, y with
    | .map none, .map b => some b.isNone
    | .map (some _), .map none => some false
    | _, _ => none
  | some .bool =>
    match x, y with
    | .bool a, .bool b => some (a == b)
    | _, _ => none
  | some (.interface _) =>
    match x, y with
    | .nilIface, .iface _ _ => some false
    | .iface _ _, .nilIface => some false
    | _, _ => none
  | some (.array n e) =>
    match x, y with
    | .agg xs, .agg ys => match P.underlying e with
      | some d => if aggD d || P.eqGuardType P.depth t || !(Nat.beq (P.cellsOf e) 1) || (P.info? e).isNone then none else cellsEq d n xs.toList ys.toList
      | none => none
    | _, _ => none
  | _ => none

structure VB where
  f : Value → Value → Option Value

def otherC (P : Program) (op : BinOp) (t : TypeId) : VB :=
  match op with
  | .eql => ⟨fun x y => (valEq P t x y).map .bool⟩
  | .neq => ⟨fun x y => (valEq P t x y).map fun b => .bool (!b)⟩
  | _ => ⟨fun _ _ => none⟩

def bin (P : Program) (op : BinOp) (t : TypeId) (x y : Value) : Option Value :=
  match x with
  | .int k a => match y with
    | .int k' b => cond (kindEq k k') ((intC op).f k a b) none
    | _ => none
  | .string a => match y with
    | .string b => (strC op).f a.data.toList b.data.toList
    | _ => none
  | x => (otherC P op t).f x y

def un (op : UnOp) (x : Value) : Option Value :=
  match op, x with
  | .neg, .int k n => some (.int k (wrapF k (Int.sub (.ofNat 0) n)))
  | .not, .bool b => some (.bool (!b))
  | _, _ => none

def conv (P : Program) (dst : TypeId) (x : Value) : Option Value :=
  match P.underlying dst, x with
  | some (.int k), .int _ n => some (.int k (wrapF k n))
  | some .string, .string s => some (.string s)
  | _, _ => none

def natOf : Value → Option Nat
  | .int _ (.ofNat n) => some n
  | _ => none

def junk : Addr := ⟨0, 0, some 0⟩

/-- a bound that is given, or another one -/
def boundOf (o : Option Value) (d : Nat) : Option Nat :=
  match o with
  | some v => natOf v
  | none => some d

/-- low, high, max of a slice expression, all in order -/
def boundsOf (c len : Nat) (low high max : Option Value) : Option (Nat × Nat × Nat) :=
  match boundOf max c, boundOf high len, boundOf low 0 with
  | some m, some h, some l => cond (Nat.ble l h && Nat.ble h m && Nat.ble m c && (!max.isSome || high.isSome)) (some (l, h, m)) none
  | _, _, _ => none

def sliceStr (x : Value) (low high max : Option Value) : Option Value :=
  match x, max with
  | .string s, none =>
    match boundsOf s.data.toList.length s.data.toList.length low high none with
    | some (l, h, _) => some (.string ⟨((s.data.toList.drop l).take (h - l)).toArray⟩)
    | none => none
  | _, _ => none

def fieldPtr (P : Program) (s : TypeId) (x : Value) (f : Nat) : Option Value :=
  match P.underlying s, x with
  | some (.struct fields), .pointer (some a) =>
    match fields[f]? with
    | some f =>
      match P.info? f.type with
      | some i => if i.size = 0 then none else some (.pointer (some (a.add f.offset)))
      | none => none
    | none => none
  | _, _ => none

def partV (P : Program) (t : TypeId) (cs : Array Value) (off : Nat) : Option Value := loadV P t cs.toList off

def fieldV (P : Program) (t : TypeId) (x : Value) (f : Nat) : Option Value :=
  match P.underlying t, x with
  | some (.struct fields), .agg cs =>
    match fields[f]? with
    | some f => partV P f.type cs f.offset
    | none => none
  | _, _ => none

def indexPtr (P : Program) (t : TypeId) (x ix : Value) : Option Value :=
  match natOf ix with
  | none => none
  | some i =>
    match P.underlying t, x with
    | some (.array len elem), .pointer (some a) =>
      match P.info? elem with
      | some e => if i < len then some (.pointer (some (a.add (i * e.size)))) else none
      | none => none
    | some (.slice elem), .slice (some a) len _ =>
      match P.info? elem with
      | some e => if i < len then some (.pointer (some (a.add (i * e.size)))) else none
      | none => none
    | _, _ => none

def indexV (P : Program) (t : TypeId) (x ix : Value) : Option Value :=
  match natOf ix with
  | none => none
  | some i =>
    match P.underlying t, x with
    | some (.array len elem), .agg cs =>
      match P.info? elem with
      | some e => if i < len then partV P elem cs (i * e.size) else none
      | none => none
    | some .string, .string s => match at? s.data.toList i with
      | some b => some (.int .u8 b.toNat)
      | none => none
    | _, _ => none

/-- parts into cells, each at its place -/
def fillL (place : Nat → Option (Nat × Nat)) (parts : List (Nat × Value)) : List Value → Option (List Value) :=
  List.rec (motive := fun _ => List Value → Option (List Value)) (fun cs => some cs)
    (fun p _ ih cs =>
      match place p.1 with
      | some (off, size) => cond (Nat.beq p.2.cells.toList.length size && allFlat p.2.cells.toList) (match over cs off p.2.cells.toList with
        | some cs => ih cs
        | none => none) none
      | none => none) parts

/-- n copies -/
def copies (z : List Value) (n : Nat) : List Value := Nat.rec (motive := fun _ => List Value) [] (fun _ ih => List.rec (motive := fun _ => List Value) ih (fun v _ r => v :: r) z) n

def fieldPlaceV (P : Program) (fields : List Field) (i : Nat) : Option (Nat × Nat) :=
  match at? fields i with
  | some f => match P.info? f.type with
    | some j => some (f.offset, j.size)
    | none => none
  | none => none

def aggOf (o : Option (List Value)) : Option Value :=
  match o with
  | some l => some (.agg l.toArray)
  | none => none

def allKnown (P : Program) (fields : List Field) : Bool := List.rec (motive := fun _ => Bool) true (fun f _ ih => Bool.rec (motive := fun _ => Bool) false ih (P.info? f.type).isSome) fields

def buildV (P : Program) (t : TypeId) (parts : List (Nat × Value)) : Option Value :=
  match zeroV P t with
  | some z =>
    match P.underlying t with
    | some (.struct fields) => cond (allKnown P fields.toList) (aggOf (fillL (fieldPlaceV P fields.toList) parts z.cells.toList)) none
    | some (.array _ elem) =>
      match P.info? elem with
      | some e => aggOf (fillL (fun i => some (i * e.size, e.size)) parts z.cells.toList)
      | none => none
    | _ => none
  | none => none

def lenV (P : Program) (t : TypeId) (x : Value) : Option Value :=
  match P.underlying t, x with
  | some .string, .string s => some (goI s.size)
  | some (.slice _), .slice _ n _ => some (goI n)
  | some (.array n _), _ => some (goI n)
  | some (.map _ _), .map none => some (goI 0)
  | _, _ => none

def nilOk (v : Value) : Option Value :=
  match v with
  | .pointer (some a) => some (.pointer (some a))
  | _ => none

def pickV (c a b : Value) : Option Value :=
  match c with
  | .bool true => some a
  | .bool false => some b
  | _ => none

def extractV (t : Value) (ix : Nat) : Option Value :=
  match t with
  | .tuple vs => at? vs.toList ix
  | _ => none

def nth {α : Type} (l : List α) (n : Nat) : Option α := at? l n

def evs (ev : Operand → Value) (l : List Operand) : List Value := List.rec (motive := fun _ => List Value) [] (fun x _ ih => ev x :: ih) l

def evParts (ev : Operand → Value) (l : List (Nat × Operand)) : List (Nat × Value) := List.rec (motive := fun _ => List (Nat × Value)) [] (fun p _ ih => (p.1, ev p.2) :: ih) l

def evO (ev : Operand → Value) : Option Operand → Option Value
  | none => none
  | some x => some (ev x)

/-- keys of a plain kind -/
def findE (d : TypeDesc) (k : Value) : List MapEntry → Nat → Option (Option (Nat × Value))
  | [], _ => some none
  | e :: es, i =>
    match cellEq d k e.key with
    | some true => some (some (i, e.val))
    | some false => findE d k es (i + 1)
    | none => none

def lookV (P : Program) (key elem : TypeId) (k : Value) (ok : Bool) (es : List MapEntry) : Option Value :=
  match P.underlying key, zeroV P elem with
  | some d, some z =>
    cond (plainD d)
      (match findE d k es 0 with
        | some (some (_, v)) => some (cond ok (.tuple #[v, .bool true]) v)
        | some none => some (cond ok (.tuple #[z, .bool false]) z)
        | none => none)
      none
  | _, _ => none

/-- looking up in a nil map -/
def lookN (P : Program) (t : TypeId) (k : Value) (ok : Bool) : Option Value :=
  match P.underlying t with
  | some (.map key elem) => lookV P key elem k ok []
  | _ => none

/-- an operation that looks at one block: the block, and what is read in it -/
def loadR (P : Program) (t : TypeId) (x : Value) : Option (Nat × (AObj → Option Value)) :=
  match x with
  | .pointer (some a) =>
    match a.spot with
    | none => some (a.block, fun
      | .cells c _ _ => loadV P t c a.off
      | _ => none)
    | some _ => none
  | _ => none

def lookR (P : Program) (t : TypeId) (m k : Value) (ok : Bool) : Option (Nat × (AObj → Option Value)) :=
  match P.underlying t, m with
  | some (.map key elem), .map (some r) => some (r, fun
    | .map es _ => lookV P key elem k ok es
    | _ => none)
  | _, _ => none

def lenR (P : Program) (t : TypeId) (m : Value) : Option (Nat × (AObj → Option Value)) :=
  match P.underlying t, m with
  | some (.map _ _), .map (some r) => some (r, fun
    | .map es _ => some (goI es.length)
    | _ => none)
  | _, _ => none

/-- an operation that makes a block: the block, and the value that leads to it -/
abbrev Made := Option (AObj × (Nat → Value))

def allocA (P : Program) (t : TypeId) : Made :=
  match zeroV P t with
  | some z => some (.cells z.cells.toList t true, fun b => .pointer (some ⟨b, 0, none⟩))
  | none => none

def boxA (t : TypeId) (v : Value) : Made := cond (allFlat v.cells.toList) (some (.cells v.cells.toList t true, fun b => .pointer (some ⟨b, 0, none⟩))) none

def buildSliceA (P : Program) (t : TypeId) (len : Nat) (parts : List (Nat × Value)) : Made :=
  match P.underlying t with
  | some (.slice elem) =>
    match P.info? elem, zeroV P elem with
    | some i, some z =>
      cond (Nat.ble (len * i.size) 1000000)
        (match fillL (fun j => some (j * i.size, i.size)) parts (copies z.cells.toList len) with
          | some cs => some (.cells cs elem true, fun b => .slice (some ⟨b, 0, none⟩) len (EX + len))
          | none => none)
        none
    | _, _ => none
  | _ => none

def makeMapA (P : Program) (t : TypeId) : Made :=
  match P.underlying t with
  | some (.map _ _) => some (.map [] 0, fun b => .map (some b))
  | _ => none

def makeSliceA (P : Program) (t : TypeId) (l c : Value) : Made :=
  match P.underlying t, natOf l, natOf c with
  | some (.slice elem), some l, some c =>
    match P.info? elem, zeroV P elem with
    | some i, some z =>
      cond (Nat.ble l c && Nat.ble c 1000000 && Nat.ble (c * i.bytes) 1000000000)
        (some (.cells (copies z.cells.toList c) elem true, fun b => .slice (some ⟨b, 0, none⟩) l (EX + c)))
        none
    | _, _ => none
  | _, _, _ => none

/-- the cells that append and copy read -/
def srcCells (h : AHeap) (size n : Nat) : Value → Option (List Value)
  | .slice (some a) _ _ =>
    cond (Nat.beq (n * size) 0) (some [])
      (match a.spot, h.get a.block with
        | none, some (.cells c _ _) => cut c a.off (n * size)
        | _, _ => none)
  | .slice none _ _ => some []
  | .string s => cond (Nat.beq size 1) (some ((s.data.toList.take n).map fun b => .int .u8 b.toNat)) none
  | _ => none

def srcLen : Value → Option Nat
  | .slice _ n _ => some n
  | .string s => some s.data.toList.length
  | _ => none

def putCells (h : AHeap) (a : Addr) (vs : List Value) : Option AHeap :=
  match a.spot, h.get a.block with
  | none, some (.cells c e true) => match over c a.off vs with
    | some c => h.setK a.block (.cells c e true) some
    | none => none
  | _, _ => none

def sliceTo (b n : Nat) : Value := .slice (some ⟨b, 0, none⟩) n n

def appendNew (h : AHeap) (elem size : Nat) (a : Addr) (sLen sCap : Nat) (new : List Value) (need : Nat) : Option (Value × AHeap) :=
  match a.spot, h.get a.block with
  | none, some (.cells c e rw) =>
    match cut c a.off (sLen * size) with
    | some old =>
      cond (isEx sCap) (some (sliceTo h.next need, h.new (.cells (old ++ new) elem true)))
        (cond (rw && Nat.beq e elem) (some (sliceTo h.next need, (h.set a.block .dead).new (.cells (old ++ new) elem true))) none)
    | none => none
  | _, _ => none

/-- room for what is appended to nothing -/
def nilRoom (base : Option Addr) (sCap bytes need : Nat) : Bool :=
  match base with
  | none => Nat.ble (need * bytes) 281474976710656 && Nat.ble need 1000000000000000
  | some _ => Nat.beq sCap EX && (Nat.ble (need * bytes) 281474976710656 && Nat.ble need 1000000000000000)

def appendIn (h : AHeap) (elem size bytes : Nat) (base : Option Addr) (sLen sCap need : Nat) (new : List Value) : Option (Value × AHeap) :=
  cond (Nat.ble need (capLo sCap))
    (match base, new with
      | none, _ => some (.slice none need sCap, h)
      | some a, [] => some (.slice (some a) need sCap, h)
      | some a, _ :: _ => match putCells h (a.add (sLen * size)) new with
        | some h' => some (.slice (some a) need sCap, h')
        | none => none)
    (cond ((Nat.ble ((2 * need + 1000) * bytes) 100000000000000 && Nat.ble need 1000000000000) || nilRoom base sCap bytes need)
      (match base with
        | none => some (sliceTo h.next need, h.new (.cells new elem true))
        | some a => appendNew h elem size a sLen sCap new need)
      none)

def intD (d : TypeDesc) : Bool :=
  match d with
  | .int _ => true
  | _ => false

def appendZ (h : AHeap) (elem size bytes : Nat) (z : Value) (base : Option Addr) (sLen sCap : Nat) (x : Value) : Option (Value × AHeap) :=
  match natOf x with
  | some n => cond (Nat.ble n 1000000 && Nat.ble (n * bytes) 1000000000) (appendIn h elem size bytes base sLen sCap (sLen + n) (copies z.cells.toList n)) none
  | none => none

def appendS (h : AHeap) (elem size bytes : Nat) (base : Option Addr) (sLen sCap : Nat) (x : Value) : Option (Value × AHeap) :=
  match srcLen x with
  | some n =>
    match srcCells h size n x with
    | some new => cond (allFlat new) (appendIn h elem size bytes base sLen sCap (sLen + n) new) none
    | none => none
  | none => none

def appendOp (P : Program) (h : AHeap) (t xt : TypeId) (s x : Value) : Option (Value × AHeap) :=
  match P.underlying t, P.underlying xt, s with
  | some (.slice elem), some xd, .slice base sLen sCap =>
    match P.info? elem, zeroV P elem with
    | some i, some z => cond (intD xd) (appendZ h elem i.size i.bytes z base sLen sCap x) (appendS h elem i.size i.bytes base sLen sCap x)
    | _, _ => none
  | _, _, _ => none

def copyOp (P : Program) (h : AHeap) (t : TypeId) (d s : Value) : Option (Value × AHeap) :=
  match P.underlying t, d, srcLen s with
  | some (.slice elem), .slice base dLen _, some m =>
    match P.info? elem with
    | some i =>
      match srcCells h i.size (Nat.min m dLen) s with
      | some cs =>
        match base, cs with
        | none, _ => some (goI (Nat.min m dLen), h)
        | some _, [] => some (goI (Nat.min m dLen), h)
        | some a, _ :: _ =>
          match cond (allFlat cs) (putCells h a cs) none with
          | some h' => some (goI (Nat.min m dLen), h')
          | none => none
      | none => none
    | _ => none
  | _, _, _ => none

def storeOp (P : Program) (h : AHeap) (t : TypeId) (x v : Value) : Option (Value × AHeap) :=
  match P.info? t, x with
  | some i, .pointer (some a) =>
    cond (Nat.beq v.cells.toList.length i.size && allFlat v.cells.toList)
      (match v.cells.toList with
        | [] => some (undef, h)
        | _ :: _ => match putCells h a v.cells.toList with
          | some h' => some (undef, h')
          | none => none)
      none
  | _, _ => none

def modE (k v : Value) : List MapEntry → Nat → List MapEntry
  | [], _ => []
  | e :: es, i => Nat.rec ({ e with key := k, val := v } :: es) (fun j _ => e :: modE k v es j) i

def updateOp (P : Program) (h : AHeap) (t : TypeId) (m k v : Value) : Option (Value × AHeap) :=
  match P.underlying t, m with
  | some (.map key _), .map (some r) =>
    match P.underlying key, h.get r with
    | some d, some (.map es clock) =>
      cond (plainD d)
        (match findE d k es 0 with
          | some (some (i, _)) => h.setK r (.map (modE k v es i) clock) fun h => some (undef, h)
          | some none => h.setK r (.map (es ++ [{ key := k, val := v, born := clock }]) (Nat.succ clock)) fun h => some (undef, h)
          | none => none)
        none
    | _, _ => none
  | _, _ => none

/-- what a call of a function, or of a loop's body, gives -/
abbrev Inv := Fn → List Value → AHeap → Option (Value × AHeap)

def pv (h : AHeap) : Option Value → Option (Value × AHeap)
  | some v => some (v, h)
  | none => none

def rd (h : AHeap) : Option (Nat × (AObj → Option Value)) → Option (Value × AHeap)
  | some (b, f) => match h.get b with
    | some ob => pv h (f ob)
    | none => none
  | none => none

def al (h : AHeap) : Made → Option (Value × AHeap)
  | some (ob, f) => h.newK ob fun b h => some (f b, h)
  | none => none

def sliceR (elem : TypeId) (a : Addr) (v : Value) : Option (Nat × (AObj → Option Value)) :=
  some (a.block, fun
    | .cells _ e _ => cond (Nat.beq e elem) (some v) none
    | _ => none)

def sliceSl (h : AHeap) (elem size : Nat) (x : Value) (low high max : Option Value) : Option (Value × AHeap) :=
  match x with
  | .slice a len cap =>
    match boundsOf (capLo cap) len low high max with
    | some (l, hi, m) =>
      match a with
      | none => pv h (some (.slice none 0 0))
      | some a =>
        match a.spot with
        | some _ => pv h (some (.slice (some junk) 0 0))
        | none =>
          cond (Nat.beq l 0) (pv h (some (.slice (some a) hi (cond max.isSome (EX + m) cap))))
            (cond (Nat.beq hi l) (pv h (some (.slice (some junk) 0 0)))
              (cond (max.isSome || isEx cap) (pv h (some (.slice (some (a.add (l * size))) (hi - l) (EX + (m - l)))))
                (rd h (sliceR elem a (.slice (some (a.add (l * size))) (hi - l) (m - l))))))
    | none => none
  | _ => none

/-- a part of an array, at its address -/
def sliceArr (size n : Nat) (x : Value) (low high max : Option Value) : Option Value :=
  match x with
  | .pointer (some a) =>
    match a.spot with
    | none =>
      match boundsOf n n low high max with
      | some (l, hi, m) => some (.slice (some (cond (Nat.beq m l) a (a.add (l * size)))) (hi - l) (EX + (m - l)))
      | none => none
    | some _ => none
  | _ => none

def sliceOp (P : Program) (h : AHeap) (t : TypeId) (x : Value) (low high max : Option Value) : Option (Value × AHeap) :=
  match P.underlying t with
  | some .string => pv h (sliceStr x low high max)
  | some (.slice elem) => match P.info? elem with
    | some i => sliceSl h elem i.size x low high max
    | none => none
  | some (.array n elem) => match P.info? elem with
    | some i => pv h (sliceArr i.size n x low high max)
    | none => none
  | _ => none

def capV (P : Program) (t : TypeId) (x : Value) : Option Value :=
  match P.underlying t, x with
  | some (.slice _), .slice none _ _ => some (goI 0)
  | _, _ => none

def one (f : TypeId → Value → Option (Value × AHeap)) : List TypeId → List Value → Option (Value × AHeap)
  | t :: _, x :: _ => f t x
  | _, _ => none

def two (f : TypeId → TypeId → Value → Value → Option (Value × AHeap)) : List TypeId → List Value → Option (Value × AHeap)
  | t :: u :: _, x :: y :: _ => f t u x y
  | _, _ => none

def lenOp (P : Program) (h : AHeap) (t : TypeId) (x : Value) : Option (Value × AHeap) :=
  match x with
  | .map (some _) => rd h (lenR P t x)
  | _ => pv h (lenV P t x)

/-- the greatest, or the least, of integers -/
def most2 (mx : Bool) (x y : Value) : Option Value :=
  match x with
  | .int k a => match y with
    | .int _ b => some (.int k (cond (cond mx (ltI a b) (ltI b a)) b a))
    | _ => none
  | _ => none
def mostV (mx : Bool) (l : List Value) : Value → Option Value :=
  List.rec (motive := fun _ => Value → Option Value) (fun x => some x) (fun y _ ih x => match most2 mx x y with
    | some z => ih z
    | none => none) l
def mostOf (mx : Bool) (l : List Value) : Option Value :=
  match l with
  | [] => none
  | x :: r => mostV mx r x

def builtinOp (P : Program) (h : AHeap) (b : Builtin) (ts : List TypeId) (vs : List Value) : Option (Value × AHeap) :=
  match b with
  | .len => one (lenOp P h) ts vs
  | .cap => one (fun t x => pv h (capV P t x)) ts vs
  | .append => two (appendOp P h) ts vs
  | .copy => two (fun t _ => copyOp P h t) ts vs
  | .max => pv h (mostOf true vs)
  | .min => pv h (mostOf false vs)
  | _ => none

def callV (inv : Inv) (f : Value) (args : List Value) (h : AHeap) : Option (Value × AHeap) :=
  match f with
  | .func fn first captured => match fn with
    | .func g => inv (.func g) (first.toList ++ args ++ captured.toList) h
    | .yield l => inv (.yield l) args h
    | _ => none
  | _ => none

def callOp (P : Program) (inv : Inv) (ev : Operand → Value) (h : AHeap) (c : Call) : Option (Value × AHeap) :=
  match c.callee with
  | .value f => callV inv (ev f) (evs ev c.args.toList) h
  | .builtin b => builtinOp P h b c.argTypes.toList (evs ev c.args.toList)
  | .invoke _ _ => none

def plainFn : Fn → Bool
  | .yield _ => false
  | _ => true

def convV (P : Program) (s d : TypeId) (x : Value) : Option Value :=
  match P.underlying s with
  | some _ => conv P d x
  | none => none

def funcV (fn : Fn) (first captured : List Value) : Option Value := cond (plainFn fn) (some (.func fn first.toArray captured.toArray)) none

/-- what an operation does, chosen once -/
structure OV where
  f : Inv → (Operand → Value) → AHeap → Option (Value × AHeap)

/-- a value of a concrete type as an interface's -/
def ifaceV (P : Program) (t : TypeId) (x : Value) : Option Value :=
  match P.underlying t with
  | some (.interface _) => none
  | some _ => some (.iface t x)
  | none => none

/-- .. which is not of the type that is asked for -/
def failV (P : Program) (a : TypeId) (ok : Bool) : Option Value :=
  cond ok (match zeroV P a with
    | some z => some (.tuple #[z, .bool false])
    | none => none) none

/-- an interface's value as one of a concrete type -/
def assertV (P : Program) (x : Value) (a : TypeId) (ok : Bool) : Option Value :=
  match P.underlying a with
  | some (.interface _) => none
  | some _ => match x with
    | .iface t v => cond (Nat.beq t a) (some (cond ok (.tuple #[v, .bool true]) v)) (failV P a ok)
    | .nilIface => failV P a ok
    | _ => none
  | none => none

def lookOp (P : Program) (h : AHeap) (t : TypeId) (m k : Value) (ok : Bool) : Option (Value × AHeap) :=
  match m with
  | .map none => pv h (lookN P t k ok)
  | m => rd h (lookR P t m k ok)

/-- shifts by what is not negative -/
def shiftV (op : BinOp) (x y : Value) : Option Value :=
  match op with
  | .shr => match x with
    | .int k a => match y with
      | .int _ (.ofNat n) => some (.int k (Int.fdiv a (Int.ofNat (Nat.pow 2 (Nat.min n k.bits)))))
      | _ => none
    | _ => none
  | .shl => match x with
    | .int k a => match y with
      | .int _ (.ofNat n) => some (.int k (wrapF k (Int.mul a (Int.ofNat (Nat.pow 2 (Nat.min n k.bits))))))
      | _ => none
    | _ => none
  | _ => none

def orElse (a b : Option Value) : Option Value :=
  match a with
  | some v => some v
  | none => b

def opC (P : Program) (op : Op) : OV :=
  match op with
  | .move x => ⟨fun _ ev h => pv h (some (ev x))⟩
  | .assign x => ⟨fun _ ev h => pv h (some (ev x))⟩
  | .pick c a b => ⟨fun _ ev h => pv h (pickV (ev c) (ev a) (ev b))⟩
  | .build t parts => ⟨fun _ ev h => pv h (buildV P t (evParts ev parts.toList))⟩
  | .nilCheck x => ⟨fun _ ev h => pv h (nilOk (ev x))⟩
  | .binOp op t x y _ => ⟨fun _ ev h => pv h (orElse (shiftV op (ev x) (ev y)) (bin P op t (ev x) (ev y)))⟩
  | .unOp op _ x => ⟨fun _ ev h => pv h (un op (ev x))⟩
  | .convert src dst x => ⟨fun _ ev h => pv h (convV P src dst (ev x))⟩
  | .makeFunc fn first captured => ⟨fun _ ev h => pv h (funcV fn (evs ev first.toList) (evs ev captured.toList))⟩
  | .slice t x lo hi mx => ⟨fun _ ev h => sliceOp P h t (ev x) (evO ev lo) (evO ev hi) (evO ev mx)⟩
  | .fieldAddr s x f => ⟨fun _ ev h => pv h (fieldPtr P s (ev x) f)⟩
  | .field t x f => ⟨fun _ ev h => pv h (fieldV P t (ev x) f)⟩
  | .indexAddr t x ix => ⟨fun _ ev h => pv h (indexPtr P t (ev x) (ev ix))⟩
  | .index t x ix => ⟨fun _ ev h => pv h (indexV P t (ev x) (ev ix))⟩
  | .extract t ix => ⟨fun _ ev h => pv h (extractV (ev t) ix)⟩
  | .load t x => ⟨fun _ ev h => rd h (loadR P t (ev x))⟩
  | .lookup t m k ok => ⟨fun _ ev h => lookOp P h t (ev m) (ev k) ok⟩
  | .alloc t => ⟨fun _ _ h => al h (allocA P t)⟩
  | .box t x => ⟨fun _ ev h => al h (boxA t (ev x))⟩
  | .buildSlice t n parts => ⟨fun _ ev h => al h (buildSliceA P t n (evParts ev parts.toList))⟩
  | .makeMap t none => ⟨fun _ _ h => al h (makeMapA P t)⟩
  | .makeSlice t l c => ⟨fun _ ev h => al h (makeSliceA P t (ev l) (ev c))⟩
  | .store t x v => ⟨fun _ ev h => storeOp P h t (ev x) (ev v)⟩
  | .mapUpdate t m k v => ⟨fun _ ev h => updateOp P h t (ev m) (ev k) (ev v)⟩
  | .call c => ⟨fun inv ev h => callOp P inv ev h c⟩
  | .makeInterface t x => ⟨fun _ ev h => pv h (ifaceV P t (ev x))⟩
  | .typeAssert x _ a ok => ⟨fun _ ev h => pv h (assertV P (ev x) a ok)⟩
  | _ => ⟨fun _ _ _ => none⟩
end
end Go.Ev
