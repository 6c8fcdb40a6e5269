/- The evaluator: what is known of less; one operation, out of order. -/
import Derived.Test.YtelepfablohdmaaGreatDoorEv17
set_option linter.unusedSimpArgs false
set_option linter.unusedVariables false
namespace Go.Ev

variable {P : Program} {base : Nat} {ρ : Ren} {w : World}

/-- only what is known of the blocks below n -/
def Ren.cut (ρ : Ren) (n : Nat) : Ren := fun b => if b < n then ρ b else none

theorem Ren.cut_lt {ρ : Ren} {n b : Nat} (h : b < n) : ρ.cut n b = ρ b := if_pos h
theorem Ren.cut_some {ρ : Ren} {n b : Nat} {p : Place} (h : ρ.cut n b = some p) : b < n ∧ ρ b = some p := by
  unfold Ren.cut at h
  split at h
  · exact ⟨by assumption, h⟩
  · cases h
theorem ARel.cut {ρ ρ₂ : Ren} {n : Nat} (hd : ∀ b p, ρ₂ b = some p → b < n) {a a' a₂ : Addr} (h : ARel ρ a a') (h₂ : ARel ρ₂ a a₂) : ARel (ρ.cut n) a a' := by
  obtain ⟨h1, h2, p, hp, h3, h4⟩ := h
  obtain ⟨_, _, q, hq, _⟩ := h₂
  exact ⟨h1, h2, p, by rw [Ren.cut_lt (hd _ _ hq)]; exact hp, h3, h4⟩

mutual
theorem VRel.cut {ρ ρ₂ : Ren} {n : Nat} (hd : ∀ b p, ρ₂ b = some p → b < n) : ∀ {v v' v₂ : Value}, VRel ρ v v' → VRel ρ₂ v v₂ → VRel (ρ.cut n) v v'
  | _, _, _, .top v, _ => .top v
  | _, _, _, .bool b, _ => .bool b
  | _, _, _, .int k i, _ => .int k i
  | _, _, _, .string s, _ => .string s
  | _, _, _, .pnil, _ => .pnil
  | _, _, _, .ptr h, h₂ => by
    cases h₂ with
    | ptr h₂ => exact .ptr (h.cut hd h₂)
  | _, _, _, .snil, _ => .snil
  | _, _, _, .sl h hc hn hp hw, h₂ => by
    cases h₂ with
    | sl h₂ _ _ hp₂ => exact .sl (h.cut hd h₂) hc hn (by rw [Ren.cut_lt (hd _ _ hp₂)]; exact hp) hw
    | sj => obtain ⟨h1, _⟩ := h; cases h1
  | _, _, _, .sj a c, _ => .sj a c
  | _, _, _, .mnil, _ => .mnil
  | _, _, _, .map h, h₂ => by
    cases h₂ with
    | map h₂ => exact .map (by rw [Ren.cut_lt (hd _ _ h₂)]; exact h)
  | _, _, _, .fn hf h1 h2, h₂ => by
    cases h₂ with
    | fn _ k1 k2 => exact .fn hf (h1.cut hd k1) (h2.cut hd k2)
    | yl => cases hf
  | _, _, _, .yl h, h₂ => by
    cases h₂ with
    | fn hf => cases hf
    | yl h₂ => exact .yl (by rw [Ren.cut_lt (hd _ _ h₂)]; exact h)
  | _, _, _, .nilFunc, _ => .nilFunc
  | _, _, _, .nilIface, _ => .nilIface
  | _, _, _, .iface h, h₂ => by
    cases h₂ with
    | iface h₂ => exact .iface (h.cut hd h₂)
  | _, _, _, .agg h, h₂ => by
    cases h₂ with
    | agg h₂ => exact .agg (h.cut hd h₂)
  | _, _, _, .tuple h, h₂ => by
    cases h₂ with
    | tuple h₂ => exact .tuple (h.cut hd h₂)
theorem VRels.cut {ρ ρ₂ : Ren} {n : Nat} (hd : ∀ b p, ρ₂ b = some p → b < n) : ∀ {l l' l₂ : List Value}, VRels ρ l l' → VRels ρ₂ l l₂ → VRels (ρ.cut n) l l'
  | _, _, _, .nil, _ => .nil
  | _, _, _, .cons h t, h₂ => by
    cases h₂ with
    | cons h₂ t₂ => exact .cons (h.cut hd h₂) (t.cut hd t₂)
end

theorem CRel.cut {ρ ρ₂ : Ren} {n : Nat} (hd : ∀ b p, ρ₂ b = some p → b < n) {c : List Value} {cs cs₂ : Array Value} {off off₂ : Nat} (h : CRel ρ c cs off) (h₂ : CRel ρ₂ c cs₂ off₂) : CRel (ρ.cut n) c cs off :=
  ⟨h.1, fun i v e => by
    obtain ⟨v', h1, h2⟩ := h.2 i v e
    obtain ⟨v₂, _, k2⟩ := h₂.2 i v e
    exact ⟨v', h1, h2.cut hd k2⟩⟩

theorem ERels.cut {ρ ρ₂ : Ren} {n : Nat} (hd : ∀ b p, ρ₂ b = some p → b < n) : ∀ {l l' l₂ : List MapEntry}, ERels ρ l l' → ERels ρ₂ l l₂ → ERels (ρ.cut n) l l'
  | _, _, _, .nil, _ => .nil
  | _, _, _, .cons hk hv hb t, h₂ => by
    cases h₂ with
    | cons k1 k2 _ t₂ => exact .cons (hk.cut hd k1) (hv.cut hd k2) hb (t.cut hd t₂)

theorem TRel.cut {ρ ρ₂ : Ren} {n : Nat} (hd : ∀ b p, ρ₂ b = some p → b < n) {size shared : Nat} {tr : Tr Value} {tmps tmps₂ : Array Value} (h : TRel ρ size shared tr tmps) (h₂ : TRel ρ₂ size shared tr tmps₂) : TRel (ρ.cut n) size shared tr tmps :=
  ⟨h.1, fun t v e => ⟨(h.2 t v e).1, (h.2 t v e).2.cut hd (h₂.2 t v e).2⟩⟩

theorem LRel.cut {ρ ρ₂ : Ren} {n : Nat} (hd : ∀ b p, ρ₂ b = some p → b < n) {l : ALoop} {l' l₂ : Loop} (h : LRel ρ l l') (h₂ : LRel ρ₂ l l₂) : LRel (ρ.cut n) l l' := by
  obtain ⟨h1, h2, h3, h4, h5, h6, h7, p, hp, h8⟩ := h
  obtain ⟨_, _, _, _, _, _, k7, q, hq, _⟩ := h₂
  exact ⟨h1, h2, h3, h4, h5, h6, h7.cut hd k7, p, by rw [Ren.cut_lt (hd _ _ hq)]; exact hp, h8⟩

theorem ORel.cut {ρ ρ₂ : Ren} {n : Nat} (hd : ∀ b p, ρ₂ b = some p → b < n) {p p₂ : Place} {o : AObj} {x x₂ : Option Obj} (h : ORel P ρ p o x) (h₂ : ORel P ρ₂ p₂ o x₂) : ORel P (ρ.cut n) p o x := by
  cases o with
  | dead => trivial
  | cells c e rw =>
    obtain ⟨cs, e1, f1, rfl, h0, h1, h2, h3⟩ := cells_inv' h
    obtain ⟨cs₂, e2, f2, rfl, _, _, _, k3⟩ := cells_inv' h₂
    exact ⟨h0, h1, h2, h3.cut hd k3⟩
  | map es k =>
    obtain ⟨es', rfl, h1⟩ := map_inv h
    obtain ⟨es₂, rfl, k1⟩ := map_inv h₂
    exact ⟨rfl, h1.cut hd k1⟩
  | loop l =>
    obtain ⟨l', rfl, h1⟩ := loop_inv h
    obtain ⟨l₂, rfl, k1⟩ := loop_inv h₂
    exact LRel.cut hd h1 k1
  | deferred d =>
    cases x with
    | none => cases d with
      | none => exact h.elim
      | some ds => cases ds <;> exact h.elim
    | some x =>
      cases d with
      | none => cases x with
        | deferred d' => cases d' with
          | none => trivial
          | some ds => exact h.elim
        | _ => exact h.elim
      | some ds => cases ds with
        | nil => cases x with
          | deferred d' => cases d' with
            | none => exact h.elim
            | some ds' => cases ds' with
              | nil => trivial
              | cons => exact h.elim
          | _ => exact h.elim
        | cons => exact h.elim

/-! ### values that are the same -/
theorem arr_eq {a b : Array Value} (h : a.toList = b.toList) : a = b := Array.ext' h

theorem addrEq_spec {a b : Option Addr} (h : addrEq a b = true) : a = b := by
  unfold addrEq at h
  split at h
  · rfl
  · rename_i a b
    split at h
    · rename_i h1 h2
      obtain ⟨h3, h4⟩ := ble_and h
      have h3 := Nat.eq_of_beq_eq_true h3
      have h4 := Nat.eq_of_beq_eq_true h4
      cases a; cases b; simp_all
    · rename_i h1 h2
      obtain ⟨h0, h⟩ := ble_and h
      obtain ⟨h3, h4⟩ := ble_and h
      have h0 := Nat.eq_of_beq_eq_true h0
      have h3 := Nat.eq_of_beq_eq_true h3
      have h4 := Nat.eq_of_beq_eq_true h4
      cases a; cases b; simp_all
    · cases h
  · cases h

theorem bytes_ext {x y : ByteArray} (h : bytesEq x.data.toList y.data.toList = true) : x = y := by
  rw [bytesEq_spec] at h
  have h := Array.ext' (eq_of_beq h)
  cases x; cases y; simp_all

theorem cellSame_spec {a b : Value} (h : cellSame a b = true) : a = b := by
  unfold cellSame at h
  split at h
  · split at h
    · obtain ⟨h1, h2⟩ := ble_and h
      rw [eqI_spec] at h2
      rw [kindEq_spec h1, of_decide_eq_true h2]
    · cases h
  · split at h
    · rw [eq_of_beq h]
    · cases h
  · split at h
    · rw [bytes_ext h]
    · cases h
  · split at h
    · rw [addrEq_spec h]
    · cases h
  · split at h
    · obtain ⟨h1, h2⟩ := ble_and h
      obtain ⟨h1, h3⟩ := ble_and h1
      rw [addrEq_spec h1, Nat.eq_of_beq_eq_true h2, Nat.eq_of_beq_eq_true h3]
    · cases h
  · split at h
    · rw [Nat.eq_of_beq_eq_true h]
    · cases h
  · split at h
    · rfl
    · cases h
  · split at h
    · rfl
    · cases h
  · split at h
    · rfl
    · cases h
  · cases h

theorem cellsSame_spec : ∀ {x y : List Value}, cellsSame x y = true → x = y
  | [], [], _ => rfl
  | [], b :: y, h => by cases h
  | a :: x, [], h => by cases h
  | a :: x, b :: y, h => by
    have h' : (Bool.rec (motive := fun _ => Bool) false (cellsSame x y) (cellSame a b) : Bool) = true := h
    cases hc : cellSame a b with
    | false => rw [hc] at h'; cases h'
    | true => rw [hc] at h'; rw [cellSame_spec hc, cellsSame_spec (x := x) h']

theorem same_spec {a b : Value} (h : same a b = true) : a = b := by
  unfold same at h
  split at h
  · split at h
    · rw [arr_eq (cellsSame_spec h)]
    · cases h
  · split at h
    · rw [arr_eq (cellsSame_spec h)]
    · cases h
  · exact cellSame_spec h

/-! ### one operation -/
def Looks (ρ : Ren) (ops : Array Oper) (o : Oper) (l : Loc) (tr : Tr Value) (a : Act) : Prop :=
  ∀ t, (looksMask ops.toList o).testBit t = true → VRel ρ (l.look t (got (tr.get t))) (a.tmps.getD t undef)

open Classical in
/-- what is known of the operands alone -/
noncomputable def limit (op : Op) (ev : Operand → Value) : Operand → Value := fun x => if x ∈ op.operands then ev x else top

theorem Looks.ev {ops : Array Oper} {o : Oper} {l : Loc} {tr : Tr Value} {a : Act} (h : Looks ρ ops o l tr a) : EvRel ρ (limit o.op (Ev.ev l tr)) a.eval := by
  intro x
  unfold limit
  split
  · rename_i hx
    cases x with
    | tmp t => exact h t (looks_opd hx)
    | const v =>
      show VRel ρ (Bool.rec (motive := fun _ => Value) top v (constOk v)) v
      cases hc : constOk v with
      | true => exact const_rel hc
      | false => exact .top v
    | global g => exact .top _
    | func f => exact .fn rfl .nil .nil
  · exact .top _

theorem limit_run {inv : Inv} {h : AHeap} {op : Op} {ev : Operand → Value} : (opC P op).f inv (limit op ev) h = (opC P op).f inv ev h :=
  opC_congr op fun x hx => if_pos hx

theorem Looks.wants {ops : Array Oper} {o : Oper} {l : Loc} {tr : Tr Value} {a : Act} {j : Nat} {want r : Bool} (h : Looks ρ ops o l tr a) (hg : o.guard = some (j, want)) (e : wantsAt ops.toList l tr j want = some r) : (yielded ops a.tmps j == some want) = r := by
  unfold wantsAt at e
  rw [nth_eq] at e
  unfold yielded
  split at e
  · rename_i g ho
    have ho' : ops[j]? = some g := by simpa using ho
    simp only [ho', Option.bind_some]
    split at e
    · rename_i t ht
      simp only [ht, Option.bind_some]
      have he := h t (looks_guard hg (by rw [nth_eq]; exact ho) ht)
      rcases Nat.lt_or_ge t a.tmps.size with hlt | hge
      · have hg : a.tmps[t]? = some (a.tmps.getD t undef) := by simp [Array.getD, hlt]
        rw [hg]
        exact isB_sound e he
      · have hg : a.tmps[t]? = none := Array.getElem?_eq_none hge
        have hd : a.tmps.getD t undef = undef := by simp [Array.getD, Nat.not_lt.2 hge]
        rw [hd] at he
        rw [hg]
        exact isB_sound e he
    · rename_i ht
      simp only [ht]
      cases e
      cases want <;> rfl
  · rename_i ho
    have ho' : ops[j]? = none := by simpa using ho
    simp only [ho']
    cases e
    cases want <;> rfl

/-- what one operation does to the model's state -/
def StepOk (P : Program) (ops : Array Oper) (a : Act) (o : Oper) (w : World) (v' : Value) (w' : World) : Prop :=
  (Region.wanted o (yielded ops a.tmps) = true ∧ Does P (execOp a.eval o) w v' w' ∧ ∀ c, o.op ≠ .defer c) ∨ (Region.wanted o (yielded ops a.tmps) = false ∧ v' = undef ∧ w' = w)

theorem StepOk.steps {ops : Array Oper} {a : Act} {o : Oper} {v' : Value} {w' : World} {b : Frame} {i : Nat} {rest : List Nat} {k : List Item} {cs : List Frame} (h : StepOk P ops a o w v' w') (ho : ops[i]? = some o) :
    Steps P (lone (b.atR a (.inRegion ops (i :: rest) :: k)) cs w) (lone (b.atR (a.put o.dst v') (.inRegion ops rest :: k)) cs w') := by
  rcases h with ⟨k1, k2, k3⟩ | ⟨k1, rfl, rfl⟩
  · exact does_steps k2 ho k1 k3
  · have := stepR_op_skip (P := P) (b := b) (a := a) (k := k) (cs := cs) (w := w') (ops := ops) (i := i) (rest := rest) (by simp [ho, k1])
    rw [ho] at this
    exact .one this

/-- is an operation done, or skipped? -/
theorem one_cases {inv : Inv} {ops : Array Oper} {o : Oper} {l : Loc} {tr : Tr Value} {h h' : AHeap} {v : Value} {a : Act} (hl : Looks ρ ops o l tr a) (e : oneOp P inv ops.toList o l tr h = some (v, h')) :
    (Region.wanted o (yielded ops a.tmps) = true ∧ (opC P o.op).f inv (limit o.op (ev l tr)) h = some (v, h')) ∨ (Region.wanted o (yielded ops a.tmps) = false ∧ v = undef ∧ h' = h) := by
  unfold oneOp at e
  split at e
  · rename_i hgd
    exact .inl ⟨by simp [Region.wanted, hgd], by rw [limit_run]; exact e⟩
  · rename_i j want hgd
    split at e
    · rename_i r hr
      have hw := hl.wants hgd hr
      have hwant : Region.wanted o (yielded ops a.tmps) = r := by simp only [Region.wanted, hgd]; exact hw
      cases r with
      | true => exact .inl ⟨hwant, by rw [limit_run]; exact e⟩
      | false => cases e; exact .inr ⟨hwant, rfl, rfl⟩
    · cases e

theorem one_any {inv : Inv} {ops : Array Oper} {o : Oper} {l : Loc} {tr : Tr Value} {h h' : AHeap} {v : Value} {a : Act} (hinv : InvOk P inv) (st : Sim P base ρ h w) (hl : Looks ρ ops o l tr a) (e : oneOp P inv ops.toList o l tr h = some (v, h')) :
    ∃ ρ' v' w', StepOk P ops a o w v' w' ∧ VRel ρ' v v' ∧ Went P base ρ h w ρ' h' w' := by
  rcases one_cases hl e with ⟨hw, e⟩ | ⟨hw, rfl, rfl⟩
  · obtain ⟨⟨ρ', v', w', h1, h2, h3⟩, h4⟩ := op_sound hinv st hl.ev e
    exact ⟨ρ', v', w', .inl ⟨hw, h1, h4⟩, h2, h3⟩
  · exact ⟨ρ, undef, w, .inr ⟨hw, rfl, rfl⟩, .undef, .refl st⟩

theorem read_keeps {inv : Inv} {ev : Operand → Value} {h h' : AHeap} {op : Op} {v : Value} (hk : isRead (kindOf op) = true) (e : (opC P op).f inv ev h = some (v, h')) : h' = h := by
  cases op <;> simp only [opC] at e <;> simp only [kindOf] at hk <;> try cases hk
  case load t x => exact (rd_inv e).1
  case lookup t m k ok =>
    unfold lookOp at e
    split at e
    · exact (pv_inv e).2
    · exact (rd_inv e).1
  case slice t x lo hi mx =>
    unfold sliceOp at e
    split at e
    · exact (pv_inv e).2
    · split at e
      · unfold sliceSl at e
        split at e
        · split at e
          · split at e
            · exact (pv_inv e).2
            · split at e
              · exact (pv_inv e).2
              · rename_i l hi _ _ _ _ _ _ _
                cases h1 : Nat.beq l 0 with
                | true => rw [h1] at e; rw [cond_true] at e; exact (pv_inv e).2
                | false =>
                  rw [h1, cond_false] at e
                  cases h2 : Nat.beq hi l with
                  | true => rw [h2, cond_true] at e; exact (pv_inv e).2
                  | false =>
                    rw [h2, cond_false] at e
                    cases h3 : (evO ev mx).isSome || isEx _ with
                    | true => rw [h3, cond_true] at e; exact (pv_inv e).2
                    | false => rw [h3, cond_false] at e; exact (rd_inv e).1
          · cases e
        · cases e
      · cases e
    · split at e
      · exact (pv_inv e).2
      · cases e
    · cases e
  case call c =>
    unfold callOp at e
    split at e
    · rename_i f hc; rw [hc] at hk; cases hk
    · rename_i b hc
      rw [hc] at hk
      cases b with
      | len =>
        obtain ⟨t, x, h1, h2, h3⟩ := one_inv e
        unfold lenOp at h3
        split at h3
        · exact (rd_inv h3).1
        · exact (pv_inv h3).2
      | cap =>
        obtain ⟨t, x, h1, h2, h3⟩ := one_inv e
        exact (pv_inv h3).2
      | _ => cases hk
    · cases e

/-- an operation that writes nothing; what it reads, it may read elsewhere -/
theorem one_light {inv : Inv} {ops : Array Oper} {o : Oper} {l : Loc} {tr : Tr Value} {h h' : AHeap} {v : Value} {a : Act} (hk : isHeavy (kindOf o.op) = false) (hl : Looks ρ ops o l tr a)
    (hr : isRead (kindOf o.op) = true → ∃ g g' , RdRel P ρ g.get w ∧ oneOp P inv ops.toList o l tr g = some (v, g')) (e : oneOp P inv ops.toList o l tr h = some (v, h')) :
    (h' = h ∧ ∃ v', StepOk P ops a o w v' w ∧ VRel ρ v v') ∨
    ∃ ob, h' = h.new ob ∧ (ρ h.next = none → ∃ v' o' esz total, StepOk P ops a o w v' (w.alloc o') ∧ VRel (ρ.put h.next ⟨w.heap.size, 0, esz, total⟩) v v' ∧ ORel P (ρ.put h.next ⟨w.heap.size, 0, esz, total⟩) ⟨w.heap.size, 0, esz, total⟩ ob (some o')) := by
  rcases one_cases hl e with ⟨hw, e⟩ | ⟨hw, rfl, rfl⟩
  · cases hrd : isRead (kindOf o.op) with
    | true =>
      refine .inl ⟨read_keeps hrd e, ?_⟩
      obtain ⟨g, g', h1, h2⟩ := hr hrd
      rcases one_cases hl h2 with ⟨_, h2⟩ | ⟨hw', _⟩
      · obtain ⟨h3, h4⟩ := light_sound hk hl.ev (fun _ => h1) h2
        rcases h3 with ⟨_, v', h3, h5⟩ | ⟨ob, h3, _⟩
        · exact ⟨v', .inl ⟨hw, .value h3, h4⟩, h5⟩
        · rw [read_keeps hrd h2] at h3
          have : g.next = (g.new ob).next := by rw [← h3]
          exact absurd this (Nat.ne_of_lt (Nat.lt_succ_self _))
      · rw [hw] at hw'; cases hw'
    | false =>
      obtain ⟨h3, h4⟩ := light_sound (w := w) hk hl.ev (fun q => by rw [hrd] at q; cases q) e
      rcases h3 with ⟨h1, v', h3, h5⟩ | ⟨ob, h1, h3⟩
      · exact .inl ⟨h1, v', .inl ⟨hw, .value h3, h4⟩, h5⟩
      · refine .inr ⟨ob, h1, fun hn => ?_⟩
        obtain ⟨v', o', esz, total, k1, k2, k3⟩ := h3 hn
        exact ⟨v', o', esz, total, .inl ⟨hw, .value k1, h4⟩, k2, k3⟩
  · exact .inl ⟨rfl, undef, .inr ⟨hw, rfl, rfl⟩, .undef⟩
end Go.Ev
