/- Regions that draw their order, in which something is read beside what may write. -/
import Derived.Test.YtelepfablohdmaaGreatDoorW2
set_option linter.unusedSimpArgs false
set_option linter.unusedVariables false
namespace Go.Ev

/-- what is recorded of an operation -/
structure RecE where
  E : Loc
  h : AHeap
  v : Value

def RecAgr (size : Nat) (tr : Tr Value) (r : Rec) (e : RecE) : Prop := Small size r.l ∧ Agr r.l tr e.E ∧ r.h = e.h ∧ r.v = e.v
inductive RecsAgr (size : Nat) (tr : Tr Value) : List Rec → List RecE → Prop where
  | nil : RecsAgr size tr [] []
  | cons {r : Rec} {e : RecE} {rs : List Rec} {es : List RecE} (h : RecAgr size tr r e) (t : RecsAgr size tr rs es) : RecsAgr size tr (r :: rs) (e :: es)
theorem RecsAgr.get {size : Nat} {tr : Tr Value} : ∀ {rs : List Rec} {es : List RecE}, RecsAgr size tr rs es → ∀ {i : Nat} {e : RecE}, es[i]? = some e → ∃ r, rs[i]? = some r ∧ RecAgr size tr r e
  | _, _, .nil, i, e, h => by simp at h
  | _, _, .cons (r := r) hr t, 0, e, h => by simp at h; subst h; exact ⟨r, rfl, hr⟩
  | _, _, .cons hr t, i + 1, e, h => by
    simp at h
    obtain ⟨r, h1, h2⟩ := t.get h
    exact ⟨r, by simpa using h1, h2⟩

def Wd (F : Fx) (ops rest : List Oper) (E : Loc) (h : AHeap) (Q : List RecE → Prop) : Prop :=
  ∀ l tr, Small F.size l → Agr l tr E → ∃ rs es, (∃ N, ∀ n S, N ≤ n → N ≤ S → runD F.p.P (F.p.inv n S) F.size ops tr rest l h = some rs) ∧ RecsAgr F.size tr rs es ∧ Q es

theorem wd_nil {F : Fx} {ops : List Oper} {E : Loc} {h : AHeap} {Q : List RecE → Prop} (q : Q [⟨E, h, undef⟩]) : Wd F ops [] E h Q :=
  fun l tr hs ha => ⟨[⟨l, h, undef⟩], [⟨E, h, undef⟩], ⟨0, fun _ _ _ _ => rfl⟩, .cons ⟨hs, ha, rfl, rfl⟩ .nil, q⟩

theorem wd_cons {F : Fx} {ops rest : List Oper} {o : Oper} {E : Loc} {h : AHeap} {Q : List RecE → Prop} (q : opG F ops o E h fun v h' => Wd F ops rest (putL F.size o.dst v E) h' fun es => Q (⟨E, h, v⟩ :: es)) : Wd F ops (o :: rest) E h Q := by
  intro l tr hs ha
  obtain ⟨v, h', ⟨N, hN⟩, q⟩ := opG_inv ha q
  obtain ⟨rs, es, ⟨N', hN'⟩, hr, q⟩ := q (putL F.size o.dst v l) tr (small_put hs) (agr_put ha)
  refine ⟨⟨l, h, v⟩ :: rs, ⟨E, h, v⟩ :: es, ⟨max N N', fun n S hn hS => ?_⟩, .cons ⟨hs, ha, rfl, rfl⟩ hr, q⟩
  rw [runD_cons, hN n S (by omega) (by omega)]
  show recCons l h v (runD F.p.P (F.p.inv n S) F.size ops tr rest (putL F.size o.dst v l) h') = _
  rw [hN' n S (by omega) (by omega)]
  rfl

theorem put_some {size : Nat} {d : Tmp} {E : Loc} (hd : Nat.blt d size = true) (v : Value) : putL size (some d) v E = .cons d v E := by
  show (Bool.rec (motive := fun _ => Loc) E (.cons d v E) (Nat.blt d size) : Loc) = _
  rw [hd]

theorem wd_dst {F : Fx} {ops rest : List Oper} {d : Tmp} {op : Op} {ty : TypeId} {pos : String} {aft : Array Edge} {E : Loc} {h : AHeap} {Q : List RecE → Prop} (hd : Nat.blt d F.size = true) (q : opR F.p op E h fun v h' => Wd F ops rest (.cons d v E) h' fun es => Q (⟨E, h, v⟩ :: es)) : Wd F ops (⟨some d, op, ty, pos, aft, none⟩ :: rest) E h Q :=
  wd_cons (opG_none (by simpa only [put_some hd] using q))
theorem wd_nodst {F : Fx} {ops rest : List Oper} {op : Op} {ty : TypeId} {pos : String} {aft : Array Edge} {E : Loc} {h : AHeap} {Q : List RecE → Prop} (q : opR F.p op E h fun v h' => Wd F ops rest E h' fun es => Q (⟨E, h, v⟩ :: es)) : Wd F ops (⟨none, op, ty, pos, aft, none⟩ :: rest) E h Q := wd_cons (opG_none q)

theorem wants_slot {ops : List Oper} {j : Nat} {t : Tmp} (ht : slotOf ops j = some t) (E : Loc) (want : Bool) : wantsE ops E j want = isB want (E.look t top) := by
  unfold slotOf at ht
  unfold wantsE
  split at ht
  · rename_i hn
    rw [hn]
    dsimp only
    rw [ht]
  · cases ht

theorem wd_guard {F : Fx} {ops rest : List Oper} {d : Tmp} {op : Op} {ty : TypeId} {pos : String} {aft : Array Edge} {j : Nat} {want : Bool} {t : Tmp} {E : Loc} {h : AHeap} {Q : List RecE → Prop} (ht : slotOf ops j = some t) (hd : Nat.blt d F.size = true)
    (q : CondO (isB want (E.look t top)) (opR F.p op E h fun v h' => Wd F ops rest (.cons d v E) h' fun es => Q (⟨E, h, v⟩ :: es)) (Wd F ops rest (.cons d undef E) h fun es => Q (⟨E, h, undef⟩ :: es))) : Wd F ops (⟨some d, op, ty, pos, aft, some (j, want)⟩ :: rest) E h Q := by
  refine wd_cons ?_
  have hw := wants_slot ht E want
  unfold CondO at q
  unfold opG
  dsimp only
  rw [hw]
  simp only [put_some hd]
  split at q
  · rename_i b hb
    rw [hb]
    cases b with
    | true => exact q
    | false => exact q
  · exact q.elim
theorem wd_guardn {F : Fx} {ops rest : List Oper} {op : Op} {ty : TypeId} {pos : String} {aft : Array Edge} {j : Nat} {want : Bool} {t : Tmp} {E : Loc} {h : AHeap} {Q : List RecE → Prop} (ht : slotOf ops j = some t)
    (q : CondO (isB want (E.look t top)) (opR F.p op E h fun v h' => Wd F ops rest E h' fun es => Q (⟨E, h, v⟩ :: es)) (Wd F ops rest E h fun es => Q (⟨E, h, undef⟩ :: es))) : Wd F ops (⟨none, op, ty, pos, aft, some (j, want)⟩ :: rest) E h Q := by
  refine wd_cons ?_
  have hw := wants_slot ht E want
  unfold CondO at q
  unfold opG
  dsimp only
  rw [hw]
  split at q
  · rename_i b hb
    rw [hb]
    cases b with
    | true => exact q
    | false => exact q
  · exact q.elim

/-- reading once more, at another time -/
noncomputable def againE (F : Fx) (ops : List Oper) (es : List RecE) (i m : Nat) : Prop :=
  match ops[i]?, es[i]?, es[m]? with
  | some o, some e, some e' => match o.guard with
    | none => OptP (opE F.p.P o.op e.E e'.h) fun v _ => same v e.v = true
    | some (j, want) => match wantsE ops e.E j want with
      | some true => OptP (opE F.p.P o.op e.E e'.h) fun v _ => same v e.v = true
      | some false => same undef e.v = true
      | none => False
  | _, _, _ => False

def allAgain (F : Fx) (ops : List Oper) (es : List RecE) : List (Nat × Nat) → Prop
  | [] => True
  | (i, m) :: l => againE F ops es i m ∧ allAgain F ops es l

theorem allAgain_mem {F : Fx} {ops : List Oper} {es : List RecE} : ∀ {L : List (Nat × Nat)}, allAgain F ops es L → ∀ {i m : Nat}, (i, m) ∈ L → againE F ops es i m
  | (i', m') :: L, h, i, m, hm => by
    cases hm with
    | head => exact h.1
    | tail _ hm => exact allAgain_mem h.2 hm

def hasPair (i m : Nat) : List (Nat × Nat) → Bool
  | [] => false
  | (a, b) :: l => (Nat.beq a i && Nat.beq b m) || hasPair i m l
theorem hasPair_mem {i m : Nat} : ∀ {L : List (Nat × Nat)}, hasPair i m L = true → (i, m) ∈ L
  | (a, b) :: l, h => by
    have h' : ((Nat.beq a i && Nat.beq b m) || hasPair i m l) = true := h
    cases hb : (Nat.beq a i && Nat.beq b m) with
    | true =>
      obtain ⟨h1, h2⟩ := ble_and hb
      rw [Nat.eq_of_beq_eq_true h1, Nat.eq_of_beq_eq_true h2]
      exact .head _
    | false => rw [hb, Bool.false_or] at h'; exact .tail _ (hasPair_mem h')
noncomputable def coverL (i : Nat) (L : List (Nat × Nat)) : List Nat → Bool
  | [] => true
  | m :: l => hasPair i m L && coverL i L l
theorem coverL_mem {i : Nat} {L : List (Nat × Nat)} : ∀ {l : List Nat}, coverL i L l = true → ∀ m ∈ l, (i, m) ∈ L
  | m' :: l, h, m, hm => by
    obtain ⟨h1, h2⟩ := ble_and (show (hasPair i m' L && coverL i L l) = true from h)
    cases hm with
    | head => exact hasPair_mem h1
    | tail _ hm => exact coverL_mem h2 m hm
/-- are those all that must be read once more? -/
noncomputable def coverB (ops : List Oper) (L : List (Nat × Nat)) : Bool := allBelow ops.length fun i => coverL i L (needs ops i)

/-- at the end of a region: where it goes on, and what must be read once more -/
def DoneD (F : Fx) (ops : List Oper) (L : List (Nat × Nat)) (C : Loc → AHeap → Prop) (es : List RecE) : Prop :=
  Nat.beq es.length (ops.length + 1) = true ∧ allAgain F ops es L ∧ ∃ e, es[ops.length]? = some e ∧ C e.E e.h

theorem againAll_of {P : Program} {inv : Inv} {ops : List Oper} {tr : Tr Value} {o : Oper} {r : Rec} {rs : List Rec} : ∀ {l : List Nat}, (∀ m ∈ l, againAt P inv ops tr o r rs m = true) → againAll P inv ops tr o r rs l = true
  | [], _ => rfl
  | m :: l, h => by
    show (Bool.rec (motive := fun _ => Bool) false (againAll P inv ops tr o r rs l) (againAt P inv ops tr o r rs m) : Bool) = true
    rw [h m (.head _)]
    exact againAll_of fun m hm => h m (.tail _ hm)

theorem allBelow_of {p : Nat → Bool} : ∀ {n : Nat}, (∀ i, i < n → p i = true) → allBelow n p = true
  | 0, _ => rfl
  | n + 1, h => by
    show (Bool.rec (motive := fun _ => Bool) false (allBelow n p) (p n) : Bool) = true
    rw [h n (Nat.lt_succ_self n)]
    exact allBelow_of fun i hi => h i (Nat.lt_succ_of_lt hi)
theorem allBelow_at {p : Nat → Bool} : ∀ {n : Nat}, allBelow n p = true → ∀ i, i < n → p i = true
  | n + 1, h, i, hi => by
    have h' : (Bool.rec (motive := fun _ => Bool) false (allBelow n p) (p n) : Bool) = true := h
    cases hp : p n with
    | false => rw [hp] at h'; cases h'
    | true =>
      rw [hp] at h'
      rcases Nat.lt_or_ge i n with h1 | h1
      · exact allBelow_at h' i h1
      · rw [show i = n by omega]; exact hp

theorem again_sound {F : Fx} {ops : List Oper} {tr : Tr Value} {rs : List Rec} {es : List RecE} {i m : Nat} {o : Oper} {r : Rec} {n S : Nat} (hr : RecsAgr F.size tr rs es) (ho : ops[i]? = some o) (hri : rs[i]? = some r) (a : againE F ops es i m) : againAt F.p.P (F.p.inv n S) ops tr o r rs m = true := by
  unfold againE at a
  rw [ho] at a
  split at a
  · rename_i o' e e' h1 h2 h3
    cases h1
    obtain ⟨r1, k1, k2⟩ := hr.get h2
    rw [hri] at k1; cases k1
    obtain ⟨r2, k3, k4⟩ := hr.get h3
    have key : ∃ v h', oneOp F.p.P (F.p.inv n S) ops o r.l tr r2.h = some (v, h') ∧ same v r.v = true := by
      unfold oneOp
      rw [evE_eq k2.2.1]
      split at a
      · rename_i hg
        rw [hg]
        unfold OptP at a
        split at a
        · rename_i q hq
          exact ⟨q.1, q.2, by rw [k4.2.2.1]; exact opC_noInv _ hq, by rw [k2.2.2.2]; exact a⟩
        · exact a.elim
      · rename_i j want hg
        rw [hg]
        dsimp only
        rw [wants_eq k2.2.1]
        split at a
        · rename_i hw
          rw [hw]
          unfold OptP at a
          split at a
          · rename_i q hq
            exact ⟨q.1, q.2, by rw [k4.2.2.1]; exact opC_noInv _ hq, by rw [k2.2.2.2]; exact a⟩
          · exact a.elim
        · rename_i hw
          rw [hw]
          exact ⟨undef, r2.h, rfl, by rw [k2.2.2.2]; exact a⟩
        · exact a.elim
    obtain ⟨v, h', q1, q2⟩ := key
    unfold againAt
    rw [nth_eq, k3]
    dsimp only
    rw [q1]
    exact q2
  · exact a.elim

theorem runD_ops {P : Program} {inv : Inv} {size : Nat} {ops : List Oper} {tr : Tr Value} : ∀ {rest : List Oper} {l : Loc} {h : AHeap} {rs : List Rec} {r : Rec}, runD P inv size ops tr rest l h = some rs → rs[rest.length]? = some r → runOps P inv size ops tr rest l h = some (r.l, r.h)
  | [], l, h, rs, r, e, hr => by
    have e' : some [(⟨l, h, undef⟩ : Rec)] = some rs := e
    cases e'
    simp at hr
    subst hr
    rfl
  | o :: rest, l, h, rs, r, e, hr => by
    rw [runD_cons] at e
    rw [runOps_cons]
    split at e
    · rename_i v h' ho
      rw [ho]
      unfold recCons at e
      split at e
      · rename_i rs' he
        cases e
        exact runD_ops he (by simpa using hr)
      · cases e
    · cases e

theorem wk_drawn {F : Fx} {E : Loc} {ds : List Deferred} {h : AHeap} {k : List Item} {Q : Loc → List Deferred → AHeap → List Item → Prop} {ops : Array Oper} {id : Nat} (L : List (Nat × Nat)) (hd : drawOk ops.toList = true) (hc : coverB ops.toList L = true)
    (w : Wd F ops.toList ops.toList E h (DoneD F ops.toList L fun E' h' => Wk F E' ds h' k Q)) : Wk F E ds h (.code (.region id ops true) :: k) Q := by
  intro tr ha
  obtain ⟨rs, es, ⟨N, hN⟩, hr, hlen, hag, e, he, w⟩ := w .nil tr trivial ha
  obtain ⟨r, hre, hs', ha', hh, hv⟩ := hr.get he
  obtain ⟨st, E'', ha'', ⟨N', hN'⟩, q⟩ := w (r.l.flushed F.mask tr) (agr_flush F.full hs' ha')
  refine ⟨st, E'', ha'', ⟨max N N' + 1, fun n S m hn hS hm => ?_⟩, q⟩
  obtain ⟨m, rfl⟩ : ∃ m', m = m' + 1 := ⟨m - 1, by omega⟩
  have hrun := hN n S (by omega) (by omega)
  have hchk : checksD F.p.P (F.p.inv n S) ops.toList tr rs = true := by
    unfold checksD
    refine allBelow_of fun i hi => ?_
    obtain ⟨o, ho⟩ : ∃ o, ops.toList[i]? = some o := ⟨_, List.getElem?_eq_getElem hi⟩
    have hes : i < es.length := by have := Nat.eq_of_beq_eq_true hlen; omega
    obtain ⟨r1, k1, k2⟩ := hr.get (i := i) (List.getElem?_eq_getElem hes)
    rw [nth_eq, nth_eq, ho, k1]
    exact againAll_of fun m hm => again_sound hr ho k1 (allAgain_mem hag (coverL_mem (allBelow_at hc i hi) m hm))
  rw [runF_cons]
  show nextF tr ds h _ k _ (regionNx F.mask tr k ds (runAny F.p.P (F.p.inv n S) F.size ops.toList tr h)) = _
  have hany : runAny F.p.P (F.p.inv n S) F.size ops.toList tr h = some (r.l, r.h) ∨ ∃ l', runAny F.p.P (F.p.inv n S) F.size ops.toList tr h = some l' ∧ l' = (r.l, r.h) := by
    left
    unfold runAny
    rw [hd]
    cases hq : quietB ops.toList with
    | false =>
      show (match runD F.p.P (F.p.inv n S) F.size ops.toList tr ops.toList .nil h with
        | some rs => Bool.rec (motive := fun _ => Option (Loc × AHeap)) none (match nth rs ops.toList.length with
          | some r => some (r.l, r.h)
          | none => none) (checksD F.p.P (F.p.inv n S) ops.toList tr rs)
        | none => none) = _
      rw [hrun]
      dsimp only
      rw [hchk, nth_eq, hre]
    | true =>
      show runOps F.p.P (F.p.inv n S) F.size ops.toList tr ops.toList .nil h = _
      exact runD_ops hrun hre
  rcases hany with h1 | ⟨l', h1, rfl⟩ <;>
  · rw [h1]
    unfold regionNx
    dsimp only
    rw [flushK_eq, hh]
    exact hN' n S m (by omega) (by omega) (by omega)
theorem doneD {F : Fx} {ops : List Oper} {L : List (Nat × Nat)} {C : Loc → AHeap → Prop} {es : List RecE} {E : Loc} {h : AHeap} {v : Value} (hl : Nat.beq es.length (ops.length + 1) = true) (he : es[ops.length]? = some ⟨E, h, v⟩) (ha : allAgain F ops es L) (c : C E h) : DoneD F ops L C es :=
  ⟨hl, ha, _, he, c⟩
theorem again_nil {F : Fx} {ops : List Oper} {es : List RecE} : allAgain F ops es [] := trivial
theorem again_cons {F : Fx} {ops : List Oper} {es : List RecE} {i m : Nat} {L : List (Nat × Nat)} (a : againE F ops es i m) (b : allAgain F ops es L) : allAgain F ops es ((i, m) :: L) := ⟨a, b⟩
theorem again_plain {F : Fx} {ops : List Oper} {es : List RecE} {i m : Nat} {d : Option Tmp} {op : Op} {ty : TypeId} {pos : String} {aft : Array Edge} {E E' : Loc} {h h' : AHeap} {v v' : Value} (ho : ops[i]? = some ⟨d, op, ty, pos, aft, none⟩) (he : es[i]? = some ⟨E, h, v⟩) (he' : es[m]? = some ⟨E', h', v'⟩)
    (q : OptP (opE F.p.P op E h') fun u _ => same u v = true) : againE F ops es i m := by
  unfold againE
  rw [ho, he, he']
  exact q
theorem again_guard {F : Fx} {ops : List Oper} {es : List RecE} {i m j : Nat} {want : Bool} {t : Tmp} {d : Option Tmp} {op : Op} {ty : TypeId} {pos : String} {aft : Array Edge} {E E' : Loc} {h h' : AHeap} {v v' : Value} (ho : ops[i]? = some ⟨d, op, ty, pos, aft, some (j, want)⟩) (he : es[i]? = some ⟨E, h, v⟩) (he' : es[m]? = some ⟨E', h', v'⟩) (ht : slotOf ops j = some t)
    (q : CondO (isB want (E.look t top)) (OptP (opE F.p.P op E h') fun u _ => same u v = true) (same undef v = true)) : againE F ops es i m := by
  unfold againE
  rw [ho, he, he']
  dsimp only
  rw [wants_slot ht]
  unfold CondO at q
  split at q
  · rename_i b hb
    rw [hb]
    cases b with
    | true => exact q
    | false => exact q
  · exact q.elim

theorem kindEq_self (k : IntKind) : kindEq k k = true := by cases k <;> rfl
theorem bytesEq_self (l : List UInt8) : bytesEq l l = true := by rw [bytesEq_spec]; simp
/-- can it be told that it is the same? -/
def okC (v : Value) : Bool :=
  match v with
  | .int _ _ | .bool _ | .string _ | .pointer none | .map _ | .nilFunc | .nilIface => true
  | .pointer (some a) => a.spot.isNone
  | .slice none _ _ => true
  | .slice (some _) _ _ => true
  | _ => false
def okL : List Value → Bool
  | [] => true
  | v :: l => okC v && okL l
def okV (v : Value) : Bool :=
  match v with
  | .agg x => okL x.toList
  | .tuple x => okL x.toList
  | v => okC v
theorem addrEq_self (a : Addr) (h : a.spot.isNone = true) : addrEq (some a) (some a) = true := by
  cases a with
  | mk b o s => cases s with
    | none => show (Nat.beq b b && Nat.beq o o) = true; rw [Nat.beq_refl, Nat.beq_refl]; rfl
    | some s => cases h
theorem addrEq_any (a : Addr) : addrEq (some a) (some a) = true := by
  cases a with
  | mk b o s => cases s with
    | none => show (Nat.beq b b && Nat.beq o o) = true; rw [Nat.beq_refl, Nat.beq_refl]; rfl
    | some s => show (Nat.beq s s && (Nat.beq b b && Nat.beq o o)) = true; rw [Nat.beq_refl, Nat.beq_refl, Nat.beq_refl]; rfl
theorem okC_self {v : Value} (h : okC v = true) : cellSame v v = true := by
  unfold okC at h
  split at h
  · show (kindEq _ _ && eqI _ _) = true; rw [kindEq_self, eqI_spec]; simp
  · show (_ == _) = true; simp
  · exact bytesEq_self _
  · rfl
  · rename_i m; cases m with
    | none => rfl
    | some r => exact Nat.beq_refl r
  · rfl
  · rfl
  · exact addrEq_self _ h
  · show (true && Nat.beq _ _ && Nat.beq _ _) = true; rw [Nat.beq_refl, Nat.beq_refl]; rfl
  · show (addrEq _ _ && Nat.beq _ _ && Nat.beq _ _) = true; rw [addrEq_any, Nat.beq_refl, Nat.beq_refl]; rfl
  · cases h
theorem okL_self : ∀ {l : List Value}, okL l = true → cellsSame l l = true
  | [], _ => rfl
  | v :: l, h => by
    obtain ⟨h1, h2⟩ := ble_and (show (okC v && okL l) = true from h)
    show (Bool.rec (motive := fun _ => Bool) false (cellsSame l l) (cellSame v v) : Bool) = true
    rw [okC_self h1]
    exact okL_self h2
theorem same_of {u v : Value} (e : u = v) (h : okV v = true) : same u v = true := by
  subst e
  unfold okV at h
  split at h
  · exact okL_self h
  · exact okL_self h
  · rename_i h1 h2
    cases u with
    | agg x => exact absurd rfl (h1 _)
    | tuple x => exact absurd rfl (h2 _)
    | _ => exact okC_self h
theorem same_undef : same undef undef = true := rfl
end Go.Ev
