/- The evaluator: what the order of a region's operations is bound to. -/
import Derived.Test.YtelepfablohdmaaGreatDoorEv15
import Derived.Orders
set_option linter.unusedSimpArgs false
set_option linter.unusedVariables false
namespace Go.Ev

theorem bitOf_eq (s t : Nat) : bitOf s t = s.testBit t := by
  show Nat.beq ((s >>> t) &&& 1) 1 = (1 &&& (s >>> t) != 0)
  rw [Nat.and_comm 1, Nat.and_one_is_mod]
  have h : (s >>> t) % 2 < 2 := Nat.mod_lt _ (by omega)
  generalize (s >>> t) % 2 = r at h
  match r with
  | 0 => rfl
  | 1 => rfl
  | n + 2 => omega

theorem allBelow_succ (n : Nat) (p : Nat → Bool) : allBelow (n + 1) p = Bool.rec (motive := fun _ => Bool) false (allBelow n p) (p n) := rfl
theorem allBelow_iff {p : Nat → Bool} : ∀ {n : Nat}, allBelow n p = true ↔ ∀ j, j < n → p j = true
  | 0 => ⟨fun _ j hj => absurd hj (Nat.not_lt_zero j), fun _ => rfl⟩
  | n + 1 => by
    rw [allBelow_succ]
    constructor
    · intro h j hj
      cases hp : p n with
      | false => rw [hp] at h; cases h
      | true =>
        rw [hp] at h
        rcases Nat.lt_or_ge j n with h1 | h1
        · exact allBelow_iff.1 h j h1
        · rw [show j = n by omega]; exact hp
    · intro h
      rw [h n (Nat.lt_succ_self n)]
      exact allBelow_iff.2 fun j hj => h j (Nat.lt_succ_of_lt hj)

theorem bit_shift (t : Nat) : (Nat.shiftLeft 1 t).testBit t = true := by
  show (1 <<< t).testBit t = true
  simp
theorem bit_lor (a b t : Nat) : (Nat.lor a b).testBit t = (a.testBit t || b.testBit t) := Nat.testBit_or a b t
theorem bit_shift_eq {t u : Nat} (h : (Nat.shiftLeft 1 t).testBit u = true) : t = u := by
  have h' : (1 <<< t).testBit u = true := h
  rw [Nat.one_shiftLeft, Nat.testBit_two_pow] at h'
  exact of_decide_eq_true h'

theorem opdsMask_cons (x : Operand) (l : List Operand) : opdsMask (x :: l) = Nat.lor (opdMask x) (opdsMask l) := rfl
theorem opds_bit {t : Nat} : ∀ {l : List Operand}, Operand.tmp t ∈ l → (opdsMask l).testBit t = true
  | [], h => by cases h
  | x :: l, h => by
    rw [opdsMask_cons, bit_lor]
    cases h with
    | head => rw [show (opdMask (.tmp t)).testBit t = true from bit_shift t]; rfl
    | tail _ h => rw [opds_bit h, Bool.or_true]

theorem dst_bit {d : Option Tmp} {t : Nat} (h : d = some t) : (dstMask d).testBit t = true := by subst h; exact bit_shift t

theorem looks_opd {ops : List Oper} {o : Oper} {t : Nat} (h : Operand.tmp t ∈ o.op.operands) : (looksMask ops o).testBit t = true := by
  unfold looksMask
  rw [bit_lor, opds_bit (by simpa using h), Bool.true_or]
theorem looks_guard {ops : List Oper} {o g : Oper} {j t : Nat} {want : Bool} (h : o.guard = some (j, want)) (hg : nth ops j = some g) (hd : g.dst = some t) : (looksMask ops o).testBit t = true := by
  unfold looksMask
  rw [bit_lor, h]
  dsimp only
  rw [hg]
  dsimp only
  rw [dst_bit hd, Bool.or_true]

theorem land_ne {a b t : Nat} (ha : a.testBit t = true) (hb : b.testBit t = true) : Nat.beq (Nat.land a b) 0 = false := by
  cases h : Nat.beq (Nat.land a b) 0 with
  | false => rfl
  | true =>
    have h0 : a &&& b = 0 := Nat.eq_of_beq_eq_true h
    have := Nat.testBit_and a b t
    rw [h0, ha, hb, Nat.zero_testBit] at this
    cases this

theorem meet_dst_look {ops : List Oper} {a b : Oper} {t : Nat} (ha : a.dst = some t) (hb : (looksMask ops b).testBit t = true) : meet ops a b = true := by
  unfold meet
  rw [land_ne (dst_bit ha) (show (Nat.lor (looksMask ops b) (dstMask b.dst)).testBit t = true by rw [bit_lor, hb]; rfl)]
  rfl
theorem meet_dst_dst {ops : List Oper} {a b : Oper} {t : Nat} (ha : a.dst = some t) (hb : b.dst = some t) : meet ops a b = true := by
  unfold meet
  rw [land_ne (dst_bit ha) (show (Nat.lor (looksMask ops b) (dstMask b.dst)).testBit t = true by rw [bit_lor, dst_bit hb, Bool.or_true])]
  rfl
theorem meet_look_dst {ops : List Oper} {a b : Oper} {t : Nat} (hb : b.dst = some t) (ha : (looksMask ops a).testBit t = true) : meet ops a b = true := by
  unfold meet
  rw [land_ne (dst_bit hb) ha]
  simp
theorem meet_heavy {ops : List Oper} {a b : Oper} (ha : isHeavy (kindOf a.op) = true) (hb : isHeavy (kindOf b.op) = true) : meet ops a b = true := by
  unfold meet
  rw [ha, hb]
  simp

/-- i comes before j, whatever the order -/
inductive Reach (ops : List Oper) : Nat → Nat → Prop where
  | edge {j : Nat} {o : Oper} {e : Edge} (ho : ops[j]? = some o) (he : e ∈ o.after.toList) (hb : Region.binds .any e = true) : Reach ops e.on j
  | trans {i j : Nat} {o : Oper} {e : Edge} (ho : ops[j]? = some o) (he : e ∈ o.after.toList) (hb : Region.binds .any e = true) (h : Reach ops i e.on) : Reach ops i j

def Closed (ops : List Oper) (S : Nat → Prop) : Prop := ∀ j o e, ops[j]? = some o → e ∈ o.after.toList → Region.binds .any e = true → S j → S e.on

theorem Closed.reach {ops : List Oper} {S : Nat → Prop} (hS : Closed ops S) {i j : Nat} (h : Reach ops i j) (hj : S j) : S i := by
  induction h with
  | edge ho he hb => exact hS _ _ _ ho he hb hj
  | trans ho he hb _ ih => exact ih (hS _ _ _ ho he hb hj)

theorem edgeMask_cons (done : List Nat) (e : Edge) (l : List Edge) : edgeMask done (e :: l) = Bool.rec (motive := fun _ => Nat) (edgeMask done l) (Nat.lor (Nat.lor (Nat.shiftLeft 1 e.on) (match nth done e.on with
    | some m => m
    | none => 0)) (edgeMask done l)) (Region.binds .any e) := rfl
theorem edge_bit {done : List Nat} {i : Nat} : ∀ {l : List Edge}, (edgeMask done l).testBit i = true → ∃ e ∈ l, Region.binds .any e = true ∧ (i = e.on ∨ ∃ m, done[e.on]? = some m ∧ m.testBit i = true)
  | [], h => by
    have h' : Nat.testBit 0 i = true := h
    rw [Nat.zero_testBit] at h'
    cases h'
  | e :: l, h => by
    rw [edgeMask_cons] at h
    cases hb : Region.binds .any e with
    | false =>
      rw [hb] at h
      obtain ⟨e', h1, h2⟩ := edge_bit (l := l) h
      exact ⟨e', .tail _ h1, h2⟩
    | true =>
      rw [hb] at h
      dsimp only at h
      rw [bit_lor, bit_lor, nth_eq] at h
      simp only [Bool.or_eq_true] at h
      rcases h with (h | h) | h
      · exact ⟨e, .head _, hb, .inl (bit_shift_eq h).symm⟩
      · refine ⟨e, .head _, hb, .inr ?_⟩
        split at h
        · rename_i m hm; exact ⟨m, hm, h⟩
        · rw [Nat.zero_testBit] at h; cases h
      · obtain ⟨e', h1, h2⟩ := edge_bit (l := l) h
        exact ⟨e', .tail _ h1, h2⟩

theorem closFrom_nil (done : List Nat) : closFrom [] done = done := rfl
theorem closFrom_cons (o : Oper) (l : List Oper) (done : List Nat) : closFrom (o :: l) done = closFrom l (done ++ [edgeMask done o.after.toList]) := by
  show forceN (edgeMask done o.after.toList) (fun m => closFrom l (done ++ [m])) = _
  rw [forceN_eq]

def GoodClos (ops : List Oper) (done : List Nat) : Prop := ∀ j m, done[j]? = some m → ∀ i, m.testBit i = true → Reach ops i j

theorem closFrom_good {ops : List Oper} : ∀ (l : List Oper) (done : List Nat), ops.drop done.length = l → GoodClos ops done → GoodClos ops (closFrom l done)
  | [], done, _, h => by rw [closFrom_nil]; exact h
  | o :: l, done, hd, h => by
    rw [closFrom_cons]
    have ho : ops[done.length]? = some o := by
      have : (ops.drop done.length)[0]? = some o := by rw [hd]; rfl
      rw [List.getElem?_drop, Nat.add_zero] at this
      exact this
    refine closFrom_good l _ (by rw [List.length_append, List.length_singleton, ← List.drop_drop, hd]; rfl) ?_
    intro j m hm i hi
    rcases Nat.lt_or_ge j done.length with h1 | h1
    · rw [List.getElem?_append_left h1] at hm
      exact h j m hm i hi
    · rw [List.getElem?_append_right h1] at hm
      have hj : j = done.length := by
        rcases Nat.lt_or_ge done.length j with h2 | h2
        · rw [List.getElem?_eq_none (by simp; omega)] at hm; cases hm
        · omega
      subst hj
      rw [Nat.sub_self] at hm
      cases hm
      obtain ⟨e, h2, h3, h4⟩ := edge_bit hi
      rcases h4 with rfl | ⟨m, h4, h5⟩
      · exact .edge ho h2 h3
      · exact .trans ho h2 h3 (h _ _ h4 _ h5)

theorem must_reach {ops : List Oper} {i j : Nat} (h : mustBefore ops i j = true) : Reach ops i j := by
  unfold mustBefore at h
  rw [nth_eq] at h
  split at h
  · rename_i m hm
    rw [bitOf_eq] at h
    exact closFrom_good ops [] rfl (fun j m h => by simp at h) j m hm i h
  · cases h

/-- what meets is bound to the order of the text -/
theorem order_of_meet {ops : List Oper} (hd : drawOk ops = true) {i j : Nat} {a b : Oper} (hij : i < j) (ha : ops[i]? = some a) (hb : ops[j]? = some b) (hm : meet ops a b = true) : Reach ops i j := by
  have hj : j < ops.length := by
    rcases Nat.lt_or_ge j ops.length with h | h
    · exact h
    · rw [List.getElem?_eq_none h] at hb; cases hb
  have h1 := allBelow_iff.1 hd j hj
  have h2 := allBelow_iff.1 (ble_and h1).2 i hij
  unfold pairOk at h2
  rw [nth_eq, nth_eq, ha, hb] at h2
  dsimp only at h2
  rw [hm] at h2
  exact must_reach h2

theorem heavyAt_eq {ops : List Oper} {i : Nat} {o : Oper} (h : ops[i]? = some o) : heavyAt ops i = isHeavy (kindOf o.op) := by
  unfold heavyAt
  rw [nth_eq, h]
theorem heavyAt_lt {ops : List Oper} {i : Nat} (h : heavyAt ops i = true) : ∃ o, ops[i]? = some o ∧ isHeavy (kindOf o.op) = true := by
  unfold heavyAt at h
  rw [nth_eq] at h
  split at h
  · rename_i o ho; exact ⟨o, ho, h⟩
  · cases h

/-- no operation from a on, before b, may write -/
def Calm (ops : List Oper) (a b : Nat) : Prop := ∀ j, a ≤ j → j < b → heavyAt ops j = false

theorem calmB_iff {ops : List Oper} {a b : Nat} : calmB ops a b = true ↔ Calm ops a b := by
  unfold calmB
  rw [allBelow_iff]
  constructor
  · intro h j h1 h2
    have h3 := h j h2
    cases h4 : Nat.blt j a with
    | true => rw [Nat.blt_eq] at h4; omega
    | false => rw [h4] at h3; simpa using h3
  · intro h j hj
    cases h4 : Nat.blt j a with
    | true => rfl
    | false =>
      have : ¬ j < a := fun q => by rw [← Nat.blt_eq] at q; rw [q] at h4; cases h4
      rw [h j (by omega) hj]; rfl

noncomputable def nhGo (ops : List Oper) (n : Nat) : Nat → Nat := Nat.rec (motive := fun _ => Nat → Nat) (fun t => t) (fun _ ih t => Bool.rec (motive := fun _ => Nat) (ih (Nat.succ t)) t (heavyAt ops t || Nat.ble ops.length t)) n
theorem nhGo_succ (ops : List Oper) (n t : Nat) : nhGo ops (n + 1) t = Bool.rec (motive := fun _ => Nat) (nhGo ops n (Nat.succ t)) t (heavyAt ops t || Nat.ble ops.length t) := rfl
theorem nextHeavy_go (ops : List Oper) : ∀ (n t : Nat), t ≤ nhGo ops n t ∧ Calm ops t (nhGo ops n t)
  | 0, t => ⟨Nat.le_refl _, fun j h1 h2 => absurd h1 (Nat.not_le.2 h2)⟩
  | n + 1, t => by
    have ih := nextHeavy_go ops n (Nat.succ t)
    rw [nhGo_succ]
    cases hb : (heavyAt ops t || Nat.ble ops.length t) with
    | true => exact ⟨Nat.le_refl _, fun j h1 h2 => absurd h1 (Nat.not_le.2 h2)⟩
    | false =>
      refine ⟨Nat.le_trans (Nat.le_succ t) ih.1, fun j h1 h2 => ?_⟩
      rcases Nat.lt_or_ge t j with h3 | h3
      · exact ih.2 j h3 h2
      · rw [show j = t by omega]
        cases hh : heavyAt ops t with
        | false => rfl
        | true => rw [hh] at hb; cases hb
theorem nextHeavy_spec (ops : List Oper) (t : Nat) : t ≤ nextHeavy ops t ∧ Calm ops t (nextHeavy ops t) := nextHeavy_go ops ops.length t

theorem needs_mem {ops : List Oper} {i t : Nat} (hc : (isTau ops t && mayAt ops i t && !(calmB ops t i && calmB ops i t)) = true) : ∀ n, t < n → nextHeavy ops t ∈ needsFrom ops i n
  | 0, h => absurd h (Nat.not_lt_zero _)
  | n + 1, h => by
    show _ ∈ (Bool.rec (motive := fun _ => List Nat) (needsFrom ops i n) (nextHeavy ops n :: needsFrom ops i n) (isTau ops n && mayAt ops i n && !(calmB ops n i && calmB ops i n)))
    rcases Nat.lt_or_ge t n with h1 | h1
    · have := needs_mem hc n h1
      cases (isTau ops n && mayAt ops i n && !(calmB ops n i && calmB ops i n)) with
      | true => exact .tail _ this
      | false => exact this
    · rw [show t = n by omega] at hc ⊢
      rw [hc]
      exact .head _

/-- where an operation that reads reads the same -/
theorem read_place {ops : List Oper} {i t : Nat} (hr : readAt ops i = true) (ht : isTau ops t = true) (hn : t ≤ ops.length) (hm : mayAt ops i t = true) : ∃ m, t ≤ m ∧ Calm ops t m ∧ (m = i ∨ m ∈ needs ops i) := by
  cases hc : (calmB ops t i && calmB ops i t) with
  | true =>
    obtain ⟨h1, h2⟩ := ble_and hc
    refine ⟨i, ?_, calmB_iff.1 h1, .inl rfl⟩
    rcases Nat.lt_or_ge i t with h3 | h3
    · cases t with
      | zero => omega
      | succ t =>
        have h4 : heavyAt ops t = true := ht
        rw [calmB_iff.1 h2 t (by omega) (Nat.lt_succ_self t)] at h4
        cases h4
    · exact h3
  | false =>
    obtain ⟨h1, h2⟩ := nextHeavy_spec ops t
    refine ⟨_, h1, h2, .inr ?_⟩
    unfold needs
    rw [hr]
    exact needs_mem (by rw [ht, hm, hc]; rfl) _ (Nat.lt_succ_of_le hn)

theorem quiet_needs {ops : List Oper} (h : quietB ops = true) {i : Nat} (hi : i < ops.length) : needs ops i = [] := by
  have := allBelow_iff.1 h i hi
  revert this
  cases needs ops i with
  | nil => intro _; rfl
  | cons a l => intro h; cases h

theorem mayAt_of {ops : List Oper} {S : Nat → Prop} {i t : Nat} (hS : Closed ops S) (ht : ∀ j, heavyAt ops j = true → (S j ↔ j < t)) (hready : ∀ j, Reach ops j i → S j) (hi : ¬ S i) : mayAt ops i t = true := by
  unfold mayAt
  rw [allBelow_iff]
  intro j _
  cases hh : heavyAt ops j with
  | false => rfl
  | true =>
    simp only [Bool.not_true, Bool.false_or, Bool.and_eq_true, Bool.or_eq_true, Bool.not_eq_true']
    constructor
    · cases hm : mustBefore ops j i with
      | false => exact .inl rfl
      | true =>
        right
        rw [Nat.blt_eq]
        exact (ht j hh).1 (hready j (must_reach hm))
    · cases hm : mustBefore ops i j with
      | false => exact .inl rfl
      | true =>
        right
        rw [Nat.ble_eq]
        rcases Nat.lt_or_ge j t with h1 | h1
        · exact absurd (hS.reach (must_reach hm) ((ht j hh).2 h1)) hi
        · exact h1
end Go.Ev
