/- What single operations come to, as rules for rewriting. -/
import Derived.Test.YtelepfablohdmaaGreatDoorW1
set_option linter.unusedSimpArgs false
set_option linter.unusedVariables false
namespace Go.Ev

variable {P : Program} {E : Loc} {h : AHeap}

/-! ### a region's operations -/
theorem wo_dst {F : Fx} {ops rest : List Oper} {d : Tmp} {op : Op} {ty : TypeId} {pos : String} {aft : Array Edge} {Q : Loc → AHeap → Prop} (hd : Nat.blt d F.size = true) (q : opR F.p op E h fun v h' => Wo F ops rest (.cons d v E) h' Q) : Wo F ops (⟨some d, op, ty, pos, aft, none⟩ :: rest) E h Q := by
  refine wo_cons (opG_none ?_)
  have : ∀ v, putL F.size (some d) v E = .cons d v E := fun v => by
    show (Bool.rec (motive := fun _ => Loc) E (.cons d v E) (Nat.blt d F.size) : Loc) = _
    rw [hd]
  simpa only [this] using q
theorem wo_nodst {F : Fx} {ops rest : List Oper} {op : Op} {ty : TypeId} {pos : String} {aft : Array Edge} {Q : Loc → AHeap → Prop} (q : opR F.p op E h fun _ h' => Wo F ops rest E h' Q) : Wo F ops (⟨none, op, ty, pos, aft, none⟩ :: rest) E h Q := wo_cons (opG_none q)
theorem wo_no {F : Fx} {ops rest : List Oper} {d : Tmp} {op : Op} {ty : TypeId} {pos : String} {aft : Array Edge} {j : Nat} {want : Bool} {Q : Loc → AHeap → Prop} (hw : wantsE ops E j want = some false) (hd : Nat.blt d F.size = true) (q : Wo F ops rest (.cons d undef E) h Q) : Wo F ops (⟨some d, op, ty, pos, aft, some (j, want)⟩ :: rest) E h Q := by
  refine wo_cons (opG_no hw ?_)
  have : putL F.size (some d) undef E = .cons d undef E := by
    show (Bool.rec (motive := fun _ => Loc) E (.cons d undef E) (Nat.blt d F.size) : Loc) = _
    rw [hd]
  rw [this]
  exact q

/-- the slot of a guard -/
noncomputable def slotOf (ops : List Oper) (j : Nat) : Option Tmp :=
  match nth ops j with
  | some o => o.dst
  | none => none
def CondO (o : Option Bool) (A B : Prop) : Prop :=
  match o with
  | some b => CondP (.bool b) A B
  | none => False
theorem condO_some {b : Bool} {A B : Prop} (q : CondP (.bool b) A B) : CondO (some b) A B := q
theorem isB_true (b : Bool) : isB true (.bool b) = some b := by cases b <;> rfl
theorem isB_false (b : Bool) : isB false (.bool b) = some (!b) := by cases b <;> rfl
theorem isB_undef (want : Bool) : isB want undef = some false := rfl
theorem wo_guard {F : Fx} {ops rest : List Oper} {d : Tmp} {op : Op} {ty : TypeId} {pos : String} {aft : Array Edge} {j : Nat} {want : Bool} {t : Tmp} {Q : Loc → AHeap → Prop} (ht : slotOf ops j = some t) (hd : Nat.blt d F.size = true)
    (q : CondO (isB want (E.look t top)) (Wo F ops (⟨some d, op, ty, pos, aft, none⟩ :: rest) E h Q) (Wo F ops rest (.cons d undef E) h Q)) : Wo F ops (⟨some d, op, ty, pos, aft, some (j, want)⟩ :: rest) E h Q := by
  have hw : wantsE ops E j want = isB want (E.look t top) := by
    unfold slotOf at ht
    unfold wantsE
    split at ht
    · rename_i hn
      rw [hn]
      dsimp only
      rw [ht]
    · cases ht
  unfold CondO at q
  split at q
  · rename_i b hb
    cases b with
    | true =>
      intro l tr hs ha
      obtain ⟨l', h', E', k1, k2, ⟨N, k3⟩, k4⟩ := q l tr hs ha
      refine ⟨l', h', E', k1, k2, ⟨N, fun n S hn hS => ?_⟩, k4⟩
      have k5 := k3 n S hn hS
      rw [runOps_cons] at k5 ⊢
      have : oneOp F.p.P (F.p.inv n S) ops ⟨some d, op, ty, pos, aft, some (j, want)⟩ l tr h = oneOp F.p.P (F.p.inv n S) ops ⟨some d, op, ty, pos, aft, none⟩ l tr h := by
        show (match wantsAt ops l tr j want with
          | some b => cond b ((opC F.p.P op).f (F.p.inv n S) (ev l tr) h) (some (undef, h))
          | none => none) = _
        rw [wants_eq ha, hw, hb]
        rfl
      rw [this]
      exact k5
    | false => exact wo_no (by rw [hw, hb]) hd q
  · exact q.elim
theorem wo_guardn {F : Fx} {ops rest : List Oper} {op : Op} {ty : TypeId} {pos : String} {aft : Array Edge} {j : Nat} {want : Bool} {t : Tmp} {Q : Loc → AHeap → Prop} (ht : slotOf ops j = some t)
    (q : CondO (isB want (E.look t top)) (Wo F ops (⟨none, op, ty, pos, aft, none⟩ :: rest) E h Q) (Wo F ops rest E h Q)) : Wo F ops (⟨none, op, ty, pos, aft, some (j, want)⟩ :: rest) E h Q := by
  have hw : wantsE ops E j want = isB want (E.look t top) := by
    unfold slotOf at ht
    unfold wantsE
    split at ht
    · rename_i hn
      rw [hn]
      dsimp only
      rw [ht]
    · cases ht
  unfold CondO at q
  intro l tr hs ha
  split at q
  · rename_i b hb
    cases b with
    | true =>
      obtain ⟨l', h', E', k1, k2, ⟨N, k3⟩, k4⟩ := q l tr hs ha
      refine ⟨l', h', E', k1, k2, ⟨N, fun n S hn hS => ?_⟩, k4⟩
      have k5 := k3 n S hn hS
      rw [runOps_cons] at k5 ⊢
      have : oneOp F.p.P (F.p.inv n S) ops ⟨none, op, ty, pos, aft, some (j, want)⟩ l tr h = oneOp F.p.P (F.p.inv n S) ops ⟨none, op, ty, pos, aft, none⟩ l tr h := by
        show (match wantsAt ops l tr j want with
          | some b => cond b ((opC F.p.P op).f (F.p.inv n S) (ev l tr) h) (some (undef, h))
          | none => none) = _
        rw [wants_eq ha, hw, hb]
        rfl
      rw [this]
      exact k5
    | false =>
      obtain ⟨l', h', E', k1, k2, ⟨N, k3⟩, k4⟩ := q l tr hs ha
      refine ⟨l', h', E', k1, k2, ⟨N, fun n S hn hS => ?_⟩, k4⟩
      rw [runOps_cons]
      have : oneOp F.p.P (F.p.inv n S) ops ⟨none, op, ty, pos, aft, some (j, want)⟩ l tr h = some (undef, h) := by
        show (match wantsAt ops l tr j want with
          | some b => cond b ((opC F.p.P op).f (F.p.inv n S) (ev l tr) h) (some (undef, h))
          | none => none) = _
        rw [wants_eq ha, hw, hb]
        rfl
      rw [this]
      exact k3 n S hn hS
  · exact q.elim
theorem opR_pick {p : Pr} {c a b : Operand} {Q : Value → AHeap → Prop} (q : CondP (evE E c) (OptP (some (evE E a, h)) Q) (OptP (some (evE E b, h)) Q)) : opR p (.pick c a b) E h Q := by
  unfold CondP at q
  split at q
  · rename_i hc
    refine opR_pure ?_
    show OptP (pv h (pickV (evE E c) (evE E a) (evE E b))) Q
    rw [hc]
    exact q
  · rename_i hc
    refine opR_pure ?_
    show OptP (pv h (pickV (evE E c) (evE E a) (evE E b))) Q
    rw [hc]
    exact q
  · exact q.elim
theorem condP_id {v : Value} {A B : Prop} (q : CondP v A B) : CondP v A B := q
theorem condO_id {o : Option Bool} {A B : Prop} (q : CondO o A B) : CondO o A B := q
theorem optP_id {o : Option (Value × AHeap)} {Q : Value → AHeap → Prop} (q : OptP o Q) : OptP o Q := q

theorem callP_func {p : Pr} {g : FuncId} {first cap : Array Value} {args : List Value} {Q : Value → AHeap → Prop} (q : Wc p (.func g) (first.toList ++ args ++ cap.toList) h Q) : CallP p (.func (.func g) first cap) args h Q := q
theorem callP_plain {p : Pr} {g : FuncId} {args : List Value} {Q : Value → AHeap → Prop} (q : Wc p (.func g) args h Q) : CallP p (.func (.func g) #[] #[]) args h Q := by
  show Wc p (.func g) (([] : List Value) ++ args ++ []) h Q
  simpa using q
theorem callP_yield {p : Pr} {l : Nat} {first cap : Array Value} {args : List Value} {Q : Value → AHeap → Prop} (q : Wc p (.yield l) args h Q) : CallP p (.func (.yield l) first cap) args h Q := q

/-- what a call hands back -/
def ResP (o : Option (List Value)) (Q : Value → Prop) : Prop :=
  match o with
  | some vs => Q (asResult vs)
  | none => False
theorem resP_id {o : Option (List Value)} {Q : Value → Prop} (q : ResP o Q) : ResP o Q := q
theorem resP_one {v : Value} {Q : Value → Prop} (q : Q v) : ResP (some [v]) Q := q
theorem resP_zero {Q : Value → Prop} (q : Q (.tuple #[])) : ResP (some []) Q := q
theorem resP_two {v u : Value} {Q : Value → Prop} (q : Q (.tuple #[v, u])) : ResP (some [v, u]) Q := q
theorem resP_three {v u x : Value} {Q : Value → Prop} (q : Q (.tuple #[v, u, x])) : ResP (some [v, u, x]) Q := q
theorem resP_four {v u x y : Value} {Q : Value → Prop} (q : Q (.tuple #[v, u, x, y])) : ResP (some [v, u, x, y]) Q := q
theorem give_ret {rs : List ResultVar} {Q : Value → AHeap → Prop} {k : List Item} (q : ResP (resEs P E h rs) fun v => Q v h) : GiveP P rs Q E [] h (.code .ret :: k) := by
  unfold ResP at q
  split at q
  · rename_i vs hv
    exact give_nil rfl hv q
  · exact q.elim
theorem give_end {rs : List ResultVar} {Q : Value → AHeap → Prop} (q : ResP (resEs P E h rs) fun v => Q v h) : GiveP P rs Q E [] h [] := by
  unfold ResP at q
  split at q
  · rename_i vs hv
    exact give_nil rfl hv q
  · exact q.elim

/-! ### slots -/
theorem ev_tmp (t : Tmp) : evE E (.tmp t) = E.look t top := rfl
theorem ev_int (k : IntKind) (n : Int) : evE E (.const (.int k n)) = .int k n := rfl
theorem ev_bool (b : Bool) : evE E (.const (.bool b)) = .bool b := rfl
theorem ev_string (s : ByteArray) : evE E (.const (.string s)) = .string s := rfl
theorem ev_pnil : evE E (.const (.pointer none)) = .pointer none := rfl
theorem ev_mnil : evE E (.const (.map none)) = .map none := rfl
theorem ev_fnil : evE E (.const .nilFunc) = .nilFunc := rfl
theorem ev_inil : evE E (.const .nilIface) = .nilIface := rfl
theorem ev_snil : evE E (.const (.slice none 0 0)) = .slice none 0 0 := rfl
theorem ev_func (f : FuncId) : evE E (.func f) = .func (.func f) #[] #[] := rfl
theorem argsE_zero (i t : Nat) (d : Value) : (argsE [] i).look t d = d := rfl
theorem argsE_more (v : Value) (l : List Value) (i t : Nat) (d : Value) : (argsE (v :: l) i).look t d = if i = t then v else (argsE l (i + 1)).look t d := look_cons _ _ _ _ _
theorem toList_lit {α : Type} (l : List α) : l.toArray.toList = l := rfl
theorem evs_nil (ev : Operand → Value) : evs ev [] = [] := rfl
theorem evs_more (ev : Operand → Value) (x : Operand) (l : List Operand) : evs ev (x :: l) = ev x :: evs ev l := rfl
theorem evParts_nil (ev : Operand → Value) : evParts ev [] = [] := rfl
theorem evParts_more (ev : Operand → Value) (p : Nat × Operand) (l : List (Nat × Operand)) : evParts ev (p :: l) = (p.1, ev p.2) :: evParts ev l := rfl
theorem resEs_nil : resEs P E h [] = some [] := rfl
def consR (v : Option Value) (vs : Option (List Value)) : Option (List Value) :=
  match v, vs with
  | some v, some vs => some (v :: vs)
  | _, _ => none
theorem consR_some (v : Value) (vs : List Value) : consR (some v) (some vs) = some (v :: vs) := rfl
theorem resEs_more (r : ResultVar) (rs : List ResultVar) : resEs P E h (r :: rs) = consR (resE P E h r) (resEs P E h rs) := rfl
theorem resE_tmp (t : Tmp) : resE P E h (.tmp t) = some (E.look t top) := rfl
/-- what a cell holds -/
noncomputable def cellK (P : Program) (t : TypeId) (off : Nat) (o : Option AObj) : Option Value :=
  match o with
  | some (.cells c _ _) => loadV P t c off
  | _ => none
theorem cellK_some (t : TypeId) (off : Nat) (c : List Value) (e : TypeId) (rw : Bool) : cellK P t off (some (.cells c e rw)) = loadV P t c off := rfl
theorem cellV_ptr (t : TypeId) (b off : Nat) : cellV P h t (.pointer (some ⟨b, off, none⟩)) = cellK P t off (h.get b) := by
  show (match (none : Option Nat), h.get b with
    | none, some (.cells c _ _) => loadV P t c off
    | _, _ => none) = _
  unfold cellK
  split <;> simp_all
theorem resE_cell (a : Tmp) (t : TypeId) : resE P E h (.cell a t) = cellV P h t (E.look a top) := rfl

/-! ### operations -/
theorem pv_some (v : Value) : pv h (some v) = some (v, h) := rfl
theorem op_move (x : Operand) : opE P (.move x) E h = some (evE E x, h) := rfl
theorem op_assign (x : Operand) : opE P (.assign x) E h = some (evE E x, h) := rfl
theorem op_pick (c a b : Operand) : opE P (.pick c a b) E h = pv h (pickV (evE E c) (evE E a) (evE E b)) := rfl
theorem op_build (t : TypeId) (ps : Array (Nat × Operand)) : opE P (.build t ps) E h = pv h (buildV P t (evParts (evE E) ps.toList)) := rfl
theorem op_nilCheck (x : Operand) : opE P (.nilCheck x) E h = pv h (nilOk (evE E x)) := rfl
theorem op_bin_add (t : TypeId) (x y : Operand) (u : TypeId) : opE P (.binOp .add t x y u) E h = pv h (bin P .add t (evE E x) (evE E y)) := rfl
theorem op_bin_sub (t : TypeId) (x y : Operand) (u : TypeId) : opE P (.binOp .sub t x y u) E h = pv h (bin P .sub t (evE E x) (evE E y)) := rfl
theorem op_bin_mul (t : TypeId) (x y : Operand) (u : TypeId) : opE P (.binOp .mul t x y u) E h = pv h (bin P .mul t (evE E x) (evE E y)) := rfl
theorem op_bin_quo (t : TypeId) (x y : Operand) (u : TypeId) : opE P (.binOp .quo t x y u) E h = pv h (bin P .quo t (evE E x) (evE E y)) := rfl
theorem op_bin_rem (t : TypeId) (x y : Operand) (u : TypeId) : opE P (.binOp .rem t x y u) E h = pv h (bin P .rem t (evE E x) (evE E y)) := rfl
theorem op_bin_eql (t : TypeId) (x y : Operand) (u : TypeId) : opE P (.binOp .eql t x y u) E h = pv h (bin P .eql t (evE E x) (evE E y)) := rfl
theorem op_bin_neq (t : TypeId) (x y : Operand) (u : TypeId) : opE P (.binOp .neq t x y u) E h = pv h (bin P .neq t (evE E x) (evE E y)) := rfl
theorem op_bin_lss (t : TypeId) (x y : Operand) (u : TypeId) : opE P (.binOp .lss t x y u) E h = pv h (bin P .lss t (evE E x) (evE E y)) := rfl
theorem op_bin_leq (t : TypeId) (x y : Operand) (u : TypeId) : opE P (.binOp .leq t x y u) E h = pv h (bin P .leq t (evE E x) (evE E y)) := rfl
theorem op_bin_gtr (t : TypeId) (x y : Operand) (u : TypeId) : opE P (.binOp .gtr t x y u) E h = pv h (bin P .gtr t (evE E x) (evE E y)) := rfl
theorem op_bin_geq (t : TypeId) (x y : Operand) (u : TypeId) : opE P (.binOp .geq t x y u) E h = pv h (bin P .geq t (evE E x) (evE E y)) := rfl
theorem op_bin_and (t : TypeId) (x y : Operand) (u : TypeId) : opE P (.binOp .and t x y u) E h = pv h (bin P .and t (evE E x) (evE E y)) := rfl
theorem op_bin_or (t : TypeId) (x y : Operand) (u : TypeId) : opE P (.binOp .or t x y u) E h = pv h (bin P .or t (evE E x) (evE E y)) := rfl
theorem op_bin_xor (t : TypeId) (x y : Operand) (u : TypeId) : opE P (.binOp .xor t x y u) E h = pv h (bin P .xor t (evE E x) (evE E y)) := rfl
theorem op_bin_andNot (t : TypeId) (x y : Operand) (u : TypeId) : opE P (.binOp .andNot t x y u) E h = pv h (bin P .andNot t (evE E x) (evE E y)) := rfl
theorem op_bin_shr (t : TypeId) (x y : Operand) (u : TypeId) : opE P (.binOp .shr t x y u) E h = pv h (orElse (shiftV .shr (evE E x) (evE E y)) (bin P .shr t (evE E x) (evE E y))) := rfl
theorem op_bin_shl (t : TypeId) (x y : Operand) (u : TypeId) : opE P (.binOp .shl t x y u) E h = pv h (orElse (shiftV .shl (evE E x) (evE E y)) (bin P .shl t (evE E x) (evE E y))) := rfl
theorem op_un (op : UnOp) (t : TypeId) (x : Operand) : opE P (.unOp op t x) E h = pv h (un op (evE E x)) := rfl
theorem op_conv (s d : TypeId) (x : Operand) : opE P (.convert s d x) E h = pv h (convV P s d (evE E x)) := rfl
theorem op_makeFunc (fn : Fn) (a b : Array Operand) : opE P (.makeFunc fn a b) E h = pv h (funcV fn (evs (evE E) a.toList) (evs (evE E) b.toList)) := rfl
theorem op_slice (t : TypeId) (x : Operand) (lo hi mx : Option Operand) : opE P (.slice t x lo hi mx) E h = sliceOp P h t (evE E x) (evO (evE E) lo) (evO (evE E) hi) (evO (evE E) mx) := rfl
theorem op_fieldAddr (s : TypeId) (x : Operand) (f : Nat) : opE P (.fieldAddr s x f) E h = pv h (fieldPtr P s (evE E x) f) := rfl
theorem op_field (t : TypeId) (x : Operand) (f : Nat) : opE P (.field t x f) E h = pv h (fieldV P t (evE E x) f) := rfl
theorem op_indexAddr (t : TypeId) (x ix : Operand) : opE P (.indexAddr t x ix) E h = pv h (indexPtr P t (evE E x) (evE E ix)) := rfl
theorem op_index (t : TypeId) (x ix : Operand) : opE P (.index t x ix) E h = pv h (indexV P t (evE E x) (evE E ix)) := rfl
theorem op_extract (x : Operand) (ix : Nat) : opE P (.extract x ix) E h = pv h (extractV (evE E x) ix) := rfl
theorem op_load (t : TypeId) (x : Operand) : opE P (.load t x) E h = rd h (loadR P t (evE E x)) := rfl
theorem op_lookup (t : TypeId) (m k : Operand) (ok : Bool) : opE P (.lookup t m k ok) E h = lookOp P h t (evE E m) (evE E k) ok := rfl
theorem op_alloc (t : TypeId) : opE P (.alloc t) E h = al h (allocA P t) := rfl
theorem op_box (t : TypeId) (x : Operand) : opE P (.box t x) E h = al h (boxA t (evE E x)) := rfl
theorem op_buildSlice (t : TypeId) (n : Nat) (ps : Array (Nat × Operand)) : opE P (.buildSlice t n ps) E h = al h (buildSliceA P t n (evParts (evE E) ps.toList)) := rfl
theorem op_makeMap (t : TypeId) : opE P (.makeMap t none) E h = al h (makeMapA P t) := rfl
theorem op_makeSlice (t : TypeId) (l c : Operand) : opE P (.makeSlice t l c) E h = al h (makeSliceA P t (evE E l) (evE E c)) := rfl
theorem op_store (t : TypeId) (x v : Operand) : opE P (.store t x v) E h = storeOp P h t (evE E x) (evE E v) := rfl
theorem op_mapUpdate (t : TypeId) (m k v : Operand) : opE P (.mapUpdate t m k v) E h = updateOp P h t (evE E m) (evE E k) (evE E v) := rfl
theorem op_builtin (b : Builtin) (as : Array Operand) (ts : Array TypeId) : opE P (.call ⟨.builtin b, as, ts⟩) E h = builtinOp P h b ts.toList (evs (evE E) as.toList) := rfl

/-! ### numbers, bools, strings -/
theorem kind_i64 : kindEq .i64 .i64 = true := rfl
theorem kind_u64 : kindEq .u64 .u64 = true := rfl
theorem kind_u8 : kindEq .u8 .u8 = true := rfl
theorem kind_i32 : kindEq .i32 .i32 = true := rfl
theorem bin_int (op : BinOp) (t : TypeId) (k k' : IntKind) (a b : Int) : bin P op t (.int k a) (.int k' b) = cond (kindEq k k') ((intC op).f k a b) none := rfl
theorem int_add (k : IntKind) (a b : Int) : (intC .add).f k a b = some (.int k (k.wrap (a + b))) := by
  show some (Value.int k (wrapF k (Int.add a b))) = _; rw [wrapF_eq]; rfl
theorem int_sub (k : IntKind) (a b : Int) : (intC .sub).f k a b = some (.int k (k.wrap (a - b))) := by
  show some (Value.int k (wrapF k (Int.sub a b))) = _; rw [wrapF_eq]; rfl
theorem int_mul (k : IntKind) (a b : Int) : (intC .mul).f k a b = some (.int k (k.wrap (a * b))) := by
  show some (Value.int k (wrapF k (Int.mul a b))) = _; rw [wrapF_eq]; rfl
theorem int_quo (k : IntKind) (a b : Int) (hb : b ≠ 0) : (intC .quo).f k a b = some (.int k (k.wrap (a.tdiv b))) := by
  show cond (isZero b) none (some (Value.int k (wrapF k (Int.tdiv a b)))) = _
  rw [wrapF_eq, isZero_spec, decide_eq_false hb]; rfl
theorem int_rem (k : IntKind) (a b : Int) (hb : b ≠ 0) : (intC .rem).f k a b = some (.int k (a.tmod b)) := by
  show cond (isZero b) none (some (Value.int k (Int.tmod a b))) = _
  rw [isZero_spec, decide_eq_false hb]; rfl
theorem int_eql (k : IntKind) (a b : Int) : (intC .eql).f k a b = some (.bool (decide (a = b))) := by
  show some (Value.bool (eqI a b)) = _; rw [eqI_spec]
theorem int_neq (k : IntKind) (a b : Int) : (intC .neq).f k a b = some (.bool (decide (a ≠ b))) := by
  show some (Value.bool (!eqI a b)) = _; rw [eqI_spec]; simp
theorem int_lss (k : IntKind) (a b : Int) : (intC .lss).f k a b = some (.bool (decide (a < b))) := by
  show some (Value.bool (ltI a b)) = _; rw [ltI_spec]
theorem int_leq (k : IntKind) (a b : Int) : (intC .leq).f k a b = some (.bool (decide (a ≤ b))) := by
  show some (Value.bool (!ltI b a)) = _; rw [ltI_spec, ← decide_not]; simp [Int.not_lt]
theorem int_gtr (k : IntKind) (a b : Int) : (intC .gtr).f k a b = some (.bool (decide (b < a))) := by
  show some (Value.bool (ltI b a)) = _; rw [ltI_spec]
theorem int_geq (k : IntKind) (a b : Int) : (intC .geq).f k a b = some (.bool (decide (b ≤ a))) := by
  show some (Value.bool (!ltI a b)) = _; rw [ltI_spec, ← decide_not]; simp [Int.not_lt]
theorem i64_in (x : Int) (h1 : -9223372036854775808 ≤ x) (h2 : x ≤ 9223372036854775807) : IntKind.i64.wrap x = x := IntWalk.i64_in _ ⟨h1, h2⟩
theorem u64_in (x : Int) (h1 : 0 ≤ x) (h2 : x ≤ 18446744073709551615) : IntKind.u64.wrap x = x := IntWalk.u64_in _ ⟨h1, h2⟩
theorem u8_in (x : Int) (h1 : 0 ≤ x) (h2 : x ≤ 255) : IntKind.u8.wrap x = x := IntWalk.u8_in _ ⟨h1, h2⟩
theorem tdiv_pos (a b : Int) (h : 0 ≤ a) : a.tdiv b = a / b := Int.tdiv_eq_ediv_of_nonneg h
theorem tmod_pos (a b : Int) (h : 0 ≤ a) : a.tmod b = a % b := Int.tmod_eq_emod_of_nonneg h
theorem un_neg (k : IntKind) (n : Int) : un .neg (.int k n) = some (.int k (k.wrap (-n))) := by
  show some (Value.int k (wrapF k (Int.sub (.ofNat 0) n))) = _
  rw [wrapF_eq]
  have : Int.sub (.ofNat 0) n = -n := by show (0 : Int) - n = -n; omega
  rw [this]
theorem un_not (b : Bool) : un .not (.bool b) = some (.bool (!b)) := rfl
def convK (d : Option TypeDesc) (x : Value) : Option Value :=
  match d, x with
  | some (.int k), .int _ n => some (.int k (k.wrap n))
  | some .string, .string s => some (.string s)
  | _, _ => none
theorem convK_int (k k' : IntKind) (n : Int) : convK (some (.int k')) (.int k n) = some (.int k' (k'.wrap n)) := rfl
theorem convK_string (s : ByteArray) : convK (some .string) (.string s) = some (.string s) := rfl
def convS (s : Option TypeDesc) (o : Option Value) : Option Value :=
  match s with
  | some _ => o
  | none => none
theorem convS_some (d : TypeDesc) (o : Option Value) : convS (some d) o = o := rfl
theorem convV_eq (s d : TypeId) (x : Value) : convV P s d x = convS (P.underlying s) (convK (P.underlying d) x) := by
  unfold convV convS
  split <;> rename_i hs <;> rw [hs] <;> try rfl
  dsimp only
  unfold conv convK
  split <;> rename_i hd <;> simp_all [wrapF_eq]
theorem pick_true (a b : Value) : pickV (.bool true) a b = some a := rfl
theorem pick_false (a b : Value) : pickV (.bool false) a b = some b := rfl
theorem extract_eq (vs : Array Value) (ix : Nat) : extractV (.tuple vs) ix = vs.toList[ix]? := by
  show at? vs.toList ix = _; exact nth_eq _ _
theorem funcV_func (g : FuncId) (a b : List Value) : funcV (.func g) a b = some (.func (.func g) a.toArray b.toArray) := rfl
theorem nilOk_ptr (a : Addr) : nilOk (.pointer (some a)) = some (.pointer (some a)) := rfl

theorem dec_beq (c d : Prop) [Decidable c] [Decidable d] : (decide c == decide d) = decide (c ↔ d) := by
  by_cases hc : c <;> by_cases hd : d <;> simp [hc, hd]
def boolK (d : Option TypeDesc) (b : Bool) : Option Value :=
  match d with
  | some .bool => some (.bool b)
  | _ => none
theorem boolK_some (b : Bool) : boolK (some .bool) b = some (.bool b) := rfl
theorem bin_beq (t : TypeId) (a b : Bool) : bin P .eql t (.bool a) (.bool b) = boolK (P.underlying t) (a == b) := by
  show (valEq P t (.bool a) (.bool b)).map Value.bool = _
  unfold valEq boolK
  cases P.underlying t with
  | none => rfl
  | some d => cases d <;> rfl
theorem bin_bne (t : TypeId) (a b : Bool) : bin P .neq t (.bool a) (.bool b) = boolK (P.underlying t) (!(a == b)) := by
  show ((valEq P t (.bool a) (.bool b)).map fun b => Value.bool (!b)) = _
  unfold valEq boolK
  cases P.underlying t with
  | none => rfl
  | some d => cases d <;> rfl
theorem not_dec (c : Prop) [Decidable c] : (!decide c) = decide (¬ c) := by simp
theorem bin_eql_agg {t : TypeId} {xs ys : Array Value} {b : Bool} (hv : valEq P t (.agg xs) (.agg ys) = some b) : bin P .eql t (.agg xs) (.agg ys) = some (.bool b) := by
  show (valEq P t (.agg xs) (.agg ys)).map Value.bool = _
  rw [hv]; rfl
theorem bin_neq_agg {t : TypeId} {xs ys : Array Value} {p : Prop} [Decidable p] (hv : valEq P t (.agg xs) (.agg ys) = some (decide p)) : bin P .neq t (.agg xs) (.agg ys) = some (.bool (decide (¬ p))) := by
  show ((valEq P t (.agg xs) (.agg ys)).map fun b => Value.bool (!b)) = _
  rw [hv, ← not_dec]; rfl
theorem eqs2 {x y : Bool} {p q : Prop} [Decidable p] [Decidable q] (hx : x = decide p) (hy : y = decide q) : (match some x with | some true => (match some y with | some true => some true | some false => some false | none => none) | some false => some false | none => none) = some (decide (p ∧ q)) := by
  subst hx; subst hy
  by_cases hp : p <;> by_cases hq : q <;> simp [hp, hq]
theorem beq_dec (a b : Bool) : (a == b) = decide (a = b) := by cases a <;> cases b <;> rfl
theorem bytesEq_dec (a b : ByteArray) : bytesEq a.data.toList b.data.toList = decide (a = b) := by
  rw [bytesEq_spec]
  by_cases e : a = b
  · subst e; simp
  · rw [decide_eq_false e]
    cases hb : (a.data.toList == b.data.toList) with
    | false => rfl
    | true =>
      exfalso
      apply e
      have h1 : a.data.toList = b.data.toList := by simpa using hb
      have h2 : a.data = b.data := by rw [← Array.toArray_toList (xs := a.data), h1]
      cases a; cases b; simp_all

/-! ### memory -/
theorem next_new (ob : AObj) : (h.new ob).next = h.next + 1 := rfl
theorem next_set (b : Nat) (ob : AObj) : (h.set b ob).next = h.next := rfl
theorem get_new_self (ob : AObj) : (h.new ob).get h.next = some ob := by rw [get_new, if_pos rfl]
theorem get_new_ne {b : Nat} (e : h.next ≠ b) (ob : AObj) : (h.new ob).get b = h.get b := by rw [get_new, if_neg e]
theorem get_set_self (b : Nat) (ob : AObj) : (h.set b ob).get b = some ob := by rw [get_setH, if_pos rfl]
theorem get_set_ne {b c : Nat} (e : c ≠ b) (ob : AObj) : (h.set c ob).get b = h.get b := by rw [get_setH, if_neg e]
theorem al_some (ob : AObj) (f : Nat → Value) : al h (some (ob, f)) = some (f h.next, h.new ob) := by
  show h.newK ob (fun b h => some (f b, h)) = _; rw [AHeap.newK_eq]
noncomputable def loadK (P : Program) (t : TypeId) (off : Nat) (h : AHeap) (o : Option AObj) : Option (Value × AHeap) :=
  match o with
  | some (.cells c _ _) => pv h (loadV P t c off)
  | _ => none
theorem loadK_some (t : TypeId) (off : Nat) (c : List Value) (e : TypeId) (rw : Bool) : loadK P t off h (some (.cells c e rw)) = pv h (loadV P t c off) := rfl
theorem load_ptr (t : TypeId) (b off : Nat) : rd h (loadR P t (.pointer (some ⟨b, off, none⟩))) = loadK P t off h (h.get b) := by
  show (match h.get b with
    | some ob => pv h ((fun
      | .cells c _ _ => loadV P t c off
      | _ => none : AObj → Option Value) ob)
    | none => none) = _
  unfold loadK
  cases h.get b with
  | none => rfl
  | some ob => cases ob <;> rfl
theorem addr_plus (b off n : Nat) : (Addr.mk b off none).add n = ⟨b, off + n, none⟩ := by
  unfold Addr.add
  by_cases h : n = 0
  · rw [if_pos h, h]; rfl
  · rw [if_neg h]
def allocK (t : TypeId) (z : Option Value) : Made :=
  match z with
  | some z => some (.cells z.cells.toList t true, fun b => .pointer (some ⟨b, 0, none⟩))
  | none => none
theorem alloc_eq (t : TypeId) : allocA P t = allocK t (zeroV P t) := rfl
theorem allocK_some (t : TypeId) (z : Value) : allocK t (some z) = some (.cells z.cells.toList t true, fun b => .pointer (some ⟨b, 0, none⟩)) := rfl
theorem box_eq (t : TypeId) (v : Value) : boxA t v = cond (allFlat v.cells.toList) (some (.cells v.cells.toList t true, fun b => .pointer (some ⟨b, 0, none⟩))) none := rfl
theorem cells_agg (cs : Array Value) : (Value.agg cs).cells = cs := rfl
theorem cells_int (k : IntKind) (n : Int) : (Value.int k n).cells = #[.int k n] := rfl
theorem cells_bool (b : Bool) : (Value.bool b).cells = #[.bool b] := rfl
theorem cells_string (s : ByteArray) : (Value.string s).cells = #[.string s] := rfl
theorem cells_pointer (a : Option Addr) : (Value.pointer a).cells = #[.pointer a] := rfl
theorem cells_slice (a : Option Addr) (n c : Nat) : (Value.slice a n c).cells = #[.slice a n c] := rfl
theorem cells_func (f : Fn) (x y : Array Value) : (Value.func f x y).cells = #[.func f x y] := rfl
theorem cells_map (a : Option Nat) : (Value.map a).cells = #[.map a] := rfl
theorem allFlat_nil : allFlat [] = true := rfl
theorem allFlat_int (k : IntKind) (n : Int) (l : List Value) : allFlat (.int k n :: l) = allFlat l := rfl
theorem allFlat_bool (b : Bool) (l : List Value) : allFlat (.bool b :: l) = allFlat l := rfl
theorem allFlat_string (s : ByteArray) (l : List Value) : allFlat (.string s :: l) = allFlat l := rfl
theorem allFlat_pointer (a : Option Addr) (l : List Value) : allFlat (.pointer a :: l) = allFlat l := rfl
theorem allFlat_slice (a : Option Addr) (n c : Nat) (l : List Value) : allFlat (.slice a n c :: l) = allFlat l := rfl
theorem allFlat_func (f : Fn) (x y : Array Value) (l : List Value) : allFlat (.func f x y :: l) = allFlat l := rfl
theorem allFlat_map (a : Option Nat) (l : List Value) : allFlat (.map a :: l) = allFlat l := rfl
/-- how many cells a type's value has -/
noncomputable def szV (P : Program) (t : TypeId) : Option Nat := (P.info? t).map (·.size)
noncomputable def putK (h : AHeap) (b off : Nat) (vs : List Value) (o : Option AObj) : Option AHeap :=
  match o with
  | some (.cells c e true) => match over c off vs with
    | some c => some (h.set b (.cells c e true))
    | none => none
  | _ => none
theorem put_eq (b off : Nat) (vs : List Value) : putCells h ⟨b, off, none⟩ vs = putK h b off vs (h.get b) := by
  show (match (none : Option Nat), h.get b with
    | none, some (.cells c e true) => match over c off vs with
      | some c => h.setK b (.cells c e true) some
      | none => none
    | _, _ => none) = _
  unfold putK
  split
  · rename_i h1 h2
    rw [h2]
    dsimp only
    cases over _ off vs with
    | none => rfl
    | some c => dsimp only; rw [AHeap.setK_eq]
  · rename_i hn
    split
    · rename_i h2; exact absurd h2 (hn _ _ rfl)
    · rfl
def toU (o : Option AHeap) : Option (Value × AHeap) :=
  match o with
  | some h => some (undef, h)
  | none => none
theorem toU_some (h : AHeap) : toU (some h) = some (undef, h) := rfl
noncomputable def storeK (h : AHeap) (a : Addr) (n : Option Nat) (cs : List Value) : Option (Value × AHeap) :=
  match n with
  | some n => cond (Nat.beq cs.length n && allFlat cs) (match cs with
      | [] => some (undef, h)
      | _ :: _ => toU (putCells h a cs)) none
  | none => none
theorem store_eq (t : TypeId) (a : Addr) (v : Value) : storeOp P h t (.pointer (some a)) v = storeK h a (szV P t) v.cells.toList := by
  unfold storeOp storeK szV
  cases P.info? t with
  | none => rfl
  | some i =>
    show cond _ _ _ = cond _ _ _
    congr 1
theorem storeK_cons (b off n : Nat) (x : Value) (l : List Value) : storeK h ⟨b, off, none⟩ (some n) (x :: l) = cond (Nat.beq (x :: l).length n && allFlat (x :: l)) (toU (putK h b off (x :: l) (h.get b))) none := by
  unfold storeK
  dsimp only
  rw [put_eq]
theorem putK_some (b off : Nat) (vs c : List Value) (e : TypeId) : putK h b off vs (some (.cells c e true)) = (over c off vs).map fun c => h.set b (.cells c e true) := by
  unfold putK
  dsimp only
  cases over c off vs <;> rfl
theorem over_zero (l vs : List Value) : over l 0 vs = over0 vs l := rfl
theorem over_succ (x : Value) (l vs : List Value) (n : Nat) : over (x :: l) (n + 1) vs = cons? x (over l n vs) := rfl
theorem over0_nil (l : List Value) : over0 [] l = some l := rfl
theorem over0_cons (v x : Value) (vs l : List Value) : over0 (v :: vs) (x :: l) = cons? v (over0 vs l) := rfl
theorem consO_some (v : Value) (l : List Value) : cons? v (some l) = some (v :: l) := rfl
theorem cut_zero (c : List Value) (n : Nat) : cut c 0 n = takeN n c := rfl
theorem cut_succ (x : Value) (c : List Value) (off n : Nat) : cut (x :: c) (off + 1) n = cut c off n := rfl
theorem takeN_zero (l : List Value) : takeN 0 l = some [] := rfl
theorem takeN_succ (n : Nat) (v : Value) (l : List Value) : takeN (n + 1) (v :: l) = cons? v (takeN n l) := rfl
theorem at_zero (v : Value) (c : List Value) : at? (v :: c) 0 = some v := rfl
theorem at_succ (v : Value) (c : List Value) (n : Nat) : at? (v :: c) (n + 1) = at? c n := rfl
def ptrK (a : Addr) (f : Option (Nat × Nat)) : Option Value :=
  match f with
  | some (off, sz) => if sz = 0 then none else some (.pointer (some (a.add off)))
  | none => none
/-- a field's place: its first cell, and how many it has -/
noncomputable def fieldAt (P : Program) (s : TypeId) (f : Nat) : Option (Nat × Nat) :=
  match P.underlying s with
  | some (.struct fields) => match fields[f]? with
    | some f => (P.info? f.type).map fun i => (f.offset, i.size)
    | none => none
  | _ => none
theorem fieldPtr_eq (s : TypeId) (a : Addr) (f : Nat) : fieldPtr P s (.pointer (some a)) f = ptrK a (fieldAt P s f) := by
  unfold fieldPtr fieldAt ptrK
  split
  · rename_i h1 h2
    cases h2
    rw [h1]
    dsimp only
    split <;> rename_i h3 <;> rw [h3]
    dsimp only
    split <;> rename_i h4 <;> rw [h4] <;> rfl
  · rename_i hn
    split <;> rename_i h1
    · split at h1
      · rename_i hs
        exact absurd rfl (hn _ _ hs)
      · cases h1
    · rfl
theorem ptrK_some (a : Addr) (off sz : Nat) (hz : sz ≠ 0) : ptrK a (some (off, sz)) = some (.pointer (some (a.add off))) := if_neg hz
noncomputable def partK (P : Program) (cs : Array Value) (f : Option (Nat × TypeId)) : Option Value :=
  match f with
  | some (off, t) => partV P t cs off
  | none => none
def fieldOf (P : Program) (s : TypeId) (f : Nat) : Option (Nat × TypeId) :=
  match P.underlying s with
  | some (.struct fields) => (fields[f]?).map fun f => (f.offset, f.type)
  | _ => none
noncomputable def fillK (pl : Option (Nat × Nat)) (vc cs : List Value) (k : List Value → Option (List Value)) : Option (List Value) :=
  match pl with
  | some (off, size) => cond (Nat.beq vc.length size && allFlat vc) (match over cs off vc with
    | some cs => k cs
    | none => none) none
  | none => none
theorem fillL_nil (pl : Nat → Option (Nat × Nat)) (cs : List Value) : fillL pl [] cs = some cs := rfl
theorem fillL_cons (pl : Nat → Option (Nat × Nat)) (i : Nat) (v : Value) (ps : List (Nat × Value)) (cs : List Value) : fillL pl ((i, v) :: ps) cs = fillK (pl i) v.cells.toList cs (fillL pl ps) := rfl
theorem fillK_some (off size : Nat) (vc cs : List Value) (k : List Value → Option (List Value)) : fillK (some (off, size)) vc cs k = cond (Nat.beq vc.length size && allFlat vc) ((over cs off vc).bind k) none := by
  unfold fillK
  dsimp only
  cases over cs off vc <;> rfl
theorem aggOf_some (l : List Value) : aggOf (some l) = some (.agg l.toArray) := rfl
/-- where a part of a struct lies -/
noncomputable def plOf (P : Program) (t : TypeId) (i : Nat) : Option (Nat × Nat) :=
  match P.underlying t with
  | some (.struct fields) => fieldPlaceV P fields.toList i
  | _ => none
/-- is it that block? -/
def sameB (a b : Nat) : Bool := decide (a = b)
theorem sameB_refl (a : Nat) : sameB a a = true := decide_eq_true rfl
theorem sameB_ne {a b : Nat} (e : a ≠ b) : sameB a b = false := decide_eq_false e
theorem sameB_eq {a b : Nat} (e : a = b) : sameB a b = true := decide_eq_true e
theorem sameB_up (a k : Nat) : sameB (a + (k + 1)) a = false := decide_eq_false (by omega)
theorem sameB_down (a k : Nat) : sameB a (a + (k + 1)) = false := decide_eq_false (by omega)
theorem get_newB (ob : AObj) (b : Nat) : (h.new ob).get b = cond (sameB h.next b) (some ob) (h.get b) := by
  rw [get_new]
  by_cases e : h.next = b
  · rw [if_pos e, sameB_eq e]; rfl
  · rw [if_neg e, sameB_ne e]; rfl
theorem get_setB (c : Nat) (ob : AObj) (b : Nat) : (h.set c ob).get b = cond (sameB c b) (some ob) (h.get b) := by
  rw [get_setH]
  by_cases e : c = b
  · rw [if_pos e, sameB_eq e]; rfl
  · rw [if_neg e, sameB_ne e]; rfl
theorem bind_some' {α β : Type} (a : α) (f : α → Option β) : (some a).bind f = f a := rfl
theorem field_eq (t : TypeId) (cs : Array Value) (f : Nat) : fieldV P t (.agg cs) f = partK P cs (fieldOf P t f) := by
  unfold fieldV fieldOf partK
  split
  · rename_i h1 h2
    cases h2
    rw [h1]
    dsimp only
    split <;> rename_i h3 <;> rw [h3] <;> rfl
  · rename_i hn
    split <;> rename_i h1
    · split at h1
      · rename_i hs
        exact absurd rfl (hn _ _ hs)
      · cases h1
    · rfl
theorem partK_some (cs : Array Value) (off : Nat) (t : TypeId) : partK P cs (some (off, t)) = loadV P t cs.toList off := rfl
theorem natOf_cast (k : IntKind) (n : Nat) : natOf (.int k (n : Int)) = some n := rfl
theorem natOf_0 (k : IntKind) : natOf (.int k 0) = some 0 := rfl
theorem natOf_1 (k : IntKind) : natOf (.int k 1) = some 1 := rfl
theorem natOf_2 (k : IntKind) : natOf (.int k 2) = some 2 := rfl
theorem natOf_3 (k : IntKind) : natOf (.int k 3) = some 3 := rfl
/-- an array's length, and an element's cells -/
noncomputable def arrOf (P : Program) (t : TypeId) : Option (Nat × Nat) :=
  match P.underlying t with
  | some (.array len elem) => (P.info? elem).map fun e => (len, e.size)
  | _ => none
/-- an element's cells -/
noncomputable def eltOf (P : Program) (t : TypeId) : Option Nat :=
  match P.underlying t with
  | some (.slice elem) => (P.info? elem).map fun e => e.size
  | _ => none
def idxK (b off : Nat) (d : Option (Nat × Nat)) (i : Option Nat) : Option Value :=
  match d, i with
  | some (len, sz), some i => if i < len then some (.pointer (some ⟨b, off + i * sz, none⟩)) else none
  | _, _ => none
theorem idxK_some (b off len sz i : Nat) (hi : i < len) : idxK b off (some (len, sz)) (some i) = some (.pointer (some ⟨b, off + i * sz, none⟩)) := if_pos hi
theorem idx_array (t : TypeId) (b off : Nat) (ix : Value) : indexPtr P t (.pointer (some ⟨b, off, none⟩)) ix = idxK b off (arrOf P t) (natOf ix) := by
  unfold indexPtr arrOf idxK
  cases natOf ix with
  | none => dsimp only; split <;> simp_all
  | some i =>
    dsimp only
    cases hu : P.underlying t with
    | none => rfl
    | some d =>
      cases d with
      | array len elem =>
        dsimp only
        cases P.info? elem with
        | none => rfl
        | some e => dsimp only [Option.map]; rw [addr_plus]
      | _ => rfl
def lenK (e : Option Nat) (n : Nat) : Option (Nat × Nat) := e.map fun sz => (n, sz)
theorem lenK_some (sz n : Nat) : lenK (some sz) n = some (n, sz) := rfl
theorem idx_slice (t : TypeId) (b off n c : Nat) (ix : Value) : indexPtr P t (.slice (some ⟨b, off, none⟩) n c) ix = idxK b off (lenK (eltOf P t) n) (natOf ix) := by
  unfold indexPtr eltOf idxK lenK
  cases natOf ix with
  | none => dsimp only; split <;> simp_all
  | some i =>
    dsimp only
    cases hu : P.underlying t with
    | none => rfl
    | some d =>
      cases d with
      | slice elem =>
        dsimp only
        cases P.info? elem with
        | none => rfl
        | some e => dsimp only [Option.map]; rw [addr_plus]
      | _ => rfl
/-- the heap has grown, and what was there has not changed -/
def Gr (h h' : AHeap) : Prop := h.next ≤ h'.next ∧ ∀ b, b < h.next → h'.get b = h.get b
theorem Gr.refl (h : AHeap) : Gr h h := ⟨Nat.le_refl _, fun _ _ => rfl⟩
theorem Gr.trans {h h' h'' : AHeap} (a : Gr h h') (b : Gr h' h'') : Gr h h'' := ⟨Nat.le_trans a.1 b.1, fun c hc => by rw [b.2 c (Nat.lt_of_lt_of_le hc a.1), a.2 c hc]⟩
theorem Gr.new {h h' : AHeap} (a : Gr h h') (ob : AObj) : Gr h (h'.new ob) := ⟨by have := a.1; rw [next_new]; omega, fun c hc => by rw [get_new_ne (by have := a.1; omega), a.2 c hc]⟩
theorem Gr.set {h h' : AHeap} (a : Gr h h') {b : Nat} (hb : h.next ≤ b) (ob : AObj) : Gr h (h'.set b ob) := ⟨a.1, fun c hc => by rw [get_set_ne (by omega), a.2 c hc]⟩
attribute [push_cast] Bool.not_true Bool.not_false Option.map_some List.getElem?_cons_zero List.getElem?_cons_succ List.nil_append List.cons_append List.append_nil List.length_cons List.length_nil Nat.beq_refl Bool.true_and Bool.and_true toList_lit argsE_zero argsE_more ev_tmp ev_int ev_bool ev_string ev_pnil ev_mnil ev_fnil ev_inil ev_snil ev_func look_cons evs_nil evs_more evParts_nil evParts_more resEs_nil consR_some resEs_more resE_tmp cellK_some cellV_ptr resE_cell pv_some op_move op_assign op_pick op_build op_nilCheck op_bin_add op_bin_sub op_bin_mul op_bin_quo op_bin_rem op_bin_eql op_bin_neq op_bin_lss op_bin_leq op_bin_gtr op_bin_geq op_bin_and op_bin_or op_bin_xor op_bin_andNot op_bin_shr op_bin_shl op_un op_conv op_makeFunc op_slice op_fieldAddr op_field op_indexAddr op_index op_extract op_load op_lookup op_alloc op_box op_buildSlice op_makeMap op_makeSlice op_store op_mapUpdate op_builtin kind_i64 kind_u64 kind_u8 kind_i32 bin_int int_add int_sub int_mul int_quo int_rem int_eql int_neq int_lss int_leq int_gtr int_geq i64_in u64_in u8_in tdiv_pos tmod_pos un_neg un_not not_dec convK_int convK_string convS_some convV_eq pick_true pick_false extract_eq funcV_func nilOk_ptr next_new next_set get_newB get_setB sameB_refl sameB_up sameB_down sameB_ne sameB_eq isB_true isB_false isB_undef dec_beq bin_beq bin_bne boolK_some natOf_cast natOf_0 natOf_1 natOf_2 natOf_3 idxK_some idx_array lenK_some idx_slice Nat.zero_mul Nat.mul_one Nat.one_mul Nat.add_zero Nat.zero_add fillL_nil fillL_cons fillK_some aggOf_some bind_some' field_eq partK_some al_some loadK_some load_ptr addr_plus alloc_eq allocK_some box_eq cells_agg cells_int cells_bool cells_string cells_pointer cells_slice cells_func cells_map allFlat_nil allFlat_int allFlat_bool allFlat_string allFlat_pointer allFlat_slice allFlat_func allFlat_map toU_some store_eq storeK_cons putK_some over_zero over_succ over0_nil over0_cons consO_some cut_zero cut_succ takeN_zero takeN_succ at_zero at_succ fieldPtr_eq ptrK_some cond_true cond_false
end Go.Ev
