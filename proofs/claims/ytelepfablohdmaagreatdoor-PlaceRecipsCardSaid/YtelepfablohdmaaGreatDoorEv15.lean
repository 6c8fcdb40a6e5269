/- The evaluator: a region in the order of the text. -/
import Derived.Test.YtelepfablohdmaaGreatDoorEv14
set_option linter.unusedSimpArgs false
set_option linter.unusedVariables false
namespace Go.Ev

variable {P : Program} {base : Nat} {ρ : Ren} {w : World}

/-- what is known of a frame's slots -/
def EnvRel (ρ : Ren) (l : Loc) (tr : Tr Value) (tmps : Array Value) : Prop := ∀ t, VRel ρ (l.look t (got (tr.get t))) (tmps.getD t undef)

theorem EnvRel.mono {ρ ρ' : Ren} (hl : Ren.le ρ ρ') {l : Loc} {tr : Tr Value} {tmps : Array Value} (h : EnvRel ρ l tr tmps) : EnvRel ρ' l tr tmps := fun t => (h t).mono hl

theorem EnvRel.ev {l : Loc} {tr : Tr Value} {a : Act} (h : EnvRel ρ l tr a.tmps) : EvRel ρ (ev l tr) a.eval := by
  intro x
  cases x with
  | tmp t => exact h t
  | const v =>
    show VRel ρ (Bool.rec (motive := fun _ => Value) top v (constOk v)) v
    cases hc : constOk v with
    | true => exact const_rel hc
    | false => exact .top v
  | global g => exact .top _
  | func f => exact .fn rfl .nil .nil

theorem look_cons (l : Loc) (t' : Nat) (v : Value) (t : Nat) (d : Value) : (Loc.cons t' v l).look t d = if t' = t then v else l.look t d := by
  show Bool.rec (motive := fun _ => Value) (l.look t d) v (Nat.beq t' t) = _
  by_cases h : t' = t
  · rw [if_pos h, show Nat.beq t' t = true by rw [h]; simp]
  · rw [if_neg h]
    cases hb : Nat.beq t' t with
    | true => exact absurd (Nat.eq_of_beq_eq_true hb) h
    | false => rfl

theorem getD_set (tmps : Array Value) (d : Nat) (v : Value) (t : Nat) : (tmps.setIfInBounds d v).getD t undef = if d = t ∧ d < tmps.size then v else tmps.getD t undef := by
  simp only [Array.getD_eq_getD_getElem?, Array.getElem?_setIfInBounds]
  by_cases h : d = t
  · subst h
    by_cases hs : d < tmps.size
    · simp [hs]
    · simp [hs]
  · simp [h]

theorem EnvRel.put {l : Loc} {tr : Tr Value} {a : Act} {v v' : Value} (h : EnvRel ρ l tr a.tmps) (hv : VRel ρ v v') (dst : Option Tmp) : EnvRel ρ (putL a.tmps.size dst v l) tr (a.put dst v').tmps := by
  cases dst with
  | none => exact h
  | some d =>
    intro t
    show VRel ρ ((Bool.rec (motive := fun _ => Loc) l (.cons d v l) (Nat.blt d a.tmps.size)).look t (got (tr.get t))) ((a.tmps.setIfInBounds d v').getD t undef)
    rw [getD_set]
    cases hb : Nat.blt d a.tmps.size with
    | true =>
      have hlt : d < a.tmps.size := blt_lt hb
      simp only [look_cons]
      by_cases e : d = t
      · rw [if_pos e, if_pos ⟨e, hlt⟩]; exact hv
      · rw [if_neg e, if_neg (fun q => e q.1)]; exact h t
    | false =>
      have hlt : ¬ d < a.tmps.size := fun q => by
        have : Nat.blt d a.tmps.size = true := by rw [Nat.blt_eq]; exact q
        rw [this] at hb; cases hb
      rw [if_neg (fun q => hlt q.2)]; exact h t

theorem put_size (a : Act) (dst : Option Tmp) (v : Value) : (a.put dst v).tmps.size = a.tmps.size := by
  cases dst <;> simp [Act.put]

theorem nth_eq {α : Type} (l : List α) (n : Nat) : nth l n = l[n]? := at?_eq l n

theorem isB_sound {want : Bool} {v v' : Value} {r : Bool} (h : isB want v = some r) (hv : VRel ρ v v') : ((match (some v' : Option Value) with | some (.bool b) => some b | _ => none) == some want) = r := by
  unfold isB at h
  split at h
  · cases h
    rw [hv.bool_inv]
    rename_i b
    cases b <;> cases want <;> rfl
  · split at h
    · rename_i vs hvs
      cases h
      obtain ⟨ys, rfl, _⟩ := hv.tuple_inv
      rfl
    · cases h
  · cases h

theorem wants_sound {ops : Array Oper} {l : Loc} {tr : Tr Value} {tmps : Array Value} {j : Nat} {want r : Bool} (henv : EnvRel ρ l tr tmps) (h : wantsAt ops.toList l tr j want = some r) : (yielded ops tmps j == some want) = r := by
  unfold wantsAt at h
  rw [nth_eq] at h
  unfold yielded
  split at h
  · rename_i o ho
    have ho' : ops[j]? = some o := by simpa using ho
    simp only [ho', Option.bind_some]
    split at h
    · rename_i t ht
      simp only [ht, Option.bind_some]
      have he := henv t
      rcases Nat.lt_or_ge t tmps.size with hlt | hge
      · have hg : tmps[t]? = some (tmps.getD t undef) := by simp [Array.getD, hlt]
        rw [hg]
        exact isB_sound h he
      · have hg : tmps[t]? = none := Array.getElem?_eq_none hge
        have hd : tmps.getD t undef = undef := by simp [Array.getD, Nat.not_lt.2 hge]
        rw [hd] at he
        rw [hg]
        exact isB_sound h he
    · rename_i ht
      simp only [ht]
      cases h
      cases want <;> rfl
  · rename_i ho
    have ho' : ops[j]? = none := by simpa using ho
    simp only [ho']
    cases h
    cases want <;> rfl

/-- one operation's steps -/
theorem does_steps {o : Oper} {b : Frame} {a : Act} {ops : Array Oper} {i : Nat} {rest : List Nat} {k : List Item} {cs : List Frame} {v : Value} {w' : World}
    (hd : Does P (execOp a.eval o) w v w') (ho : ops[i]? = some o) (hw : Region.wanted o (yielded ops a.tmps) = true) (hnd : ∀ c, o.op ≠ .defer c) :
    Steps P (lone (b.atR a (.inRegion ops (i :: rest) :: k)) cs w) (lone (b.atR (a.put o.dst v) (.inRegion ops rest :: k)) cs w') := by
  have hfin : (b.atR a (.inRegion ops (i :: rest) :: k)).finish v = b.atR (a.put o.dst v) (.inRegion ops rest :: k) := by
    rw [Frame.finish_atR, ho]; rfl
  have hg := stepGR_op (P := P) (b := b) (a := a) (k := k) (cs := cs) (w := w) (rest := rest) ho hw
  rw [Oper.semAt_eq _ _ _ hnd] at hg
  cases hd with
  | value h =>
    refine .one (step_lone_go ?_)
    rw [hg, ← hfin]
    simp [stepG.apply, Sem.runT_eq, h, GStep.bare_after]
  | skip h hv =>
    subst hv
    refine .one (step_lone_go ?_)
    rw [hg, ← hfin]
    simp [stepG.apply, Sem.runT_eq, h, GStep.bare_after]
  | enter h hc =>
    rename_i f args w₁
    have h1 : step P (lone (b.atR a (.inRegion ops (i :: rest) :: k)) cs w) = .next (lone (Frame.enter P f args .normal) (b.atR a (.inRegion ops (i :: rest) :: k) :: cs) w₁) :=
      step_lone_go (by rw [hg]; simp [stepG.apply, Sem.runT_eq, h, GStep.bare_after, Frame.atR])
    rw [← hfin]
    exact .head h1 (hc _ cs)
  | round h hc =>
    rename_i l f tmps assign body w₁
    have h1 : step P (lone (b.atR a (.inRegion ops (i :: rest) :: k)) cs w) = .next (lone (Frame.round l f tmps assign body .normal) (b.atR a (.inRegion ops (i :: rest) :: k) :: cs) w₁) :=
      step_lone_go (by rw [hg]; simp [stepG.apply, Sem.runT_eq, h, GStep.bare_after, Frame.atR])
    rw [← hfin]
    exact .head h1 (hc _ cs)

/-- what is done with one operation -/
theorem one_sound {inv : Inv} {ops : Array Oper} {o : Oper} {l : Loc} {tr : Tr Value} {h h' : AHeap} {v : Value} {a : Act} (hinv : InvOk P inv) (st : Sim P base ρ h w) (henv : EnvRel ρ l tr a.tmps) (e : oneOp P inv ops.toList o l tr h = some (v, h')) :
    ∃ ρ' v' w', (Region.wanted o (yielded ops a.tmps) = true ∧ Does P (execOp a.eval o) w v' w' ∧ (∀ c, o.op ≠ .defer c) ∨ Region.wanted o (yielded ops a.tmps) = false ∧ v' = undef ∧ w' = w ∧ ρ' = ρ ∧ h' = h) ∧ VRel ρ' v v' ∧ Went P base ρ h w ρ' h' w' := by
  unfold oneOp at e
  split at e
  · rename_i hgd
    obtain ⟨⟨ρ', v', w', h1, h2, h3⟩, h4⟩ := op_sound hinv st henv.ev e
    exact ⟨ρ', v', w', .inl ⟨by simp [Region.wanted, hgd], h1, h4⟩, h2, h3⟩
  · rename_i j want hgd
    split at e
    · rename_i r hr
      have hw := wants_sound henv hr
      have hwant : Region.wanted o (yielded ops a.tmps) = r := by simp only [Region.wanted, hgd]; exact hw
      cases r with
      | true =>
        obtain ⟨⟨ρ', v', w', h1, h2, h3⟩, h4⟩ := op_sound hinv st henv.ev e
        exact ⟨ρ', v', w', .inl ⟨hwant, h1, h4⟩, h2, h3⟩
      | false =>
        cases e
        exact ⟨ρ, undef, w, .inr ⟨hwant, rfl, rfl, rfl, rfl⟩, .undef, .refl st⟩
    · cases e

theorem one_steps {inv : Inv} {ops : Array Oper} {o : Oper} {l : Loc} {tr : Tr Value} {h h' : AHeap} {v : Value} {a : Act} {b : Frame} {i : Nat} {rest : List Nat} {k : List Item} (hinv : InvOk P inv) (st : Sim P base ρ h w) (henv : EnvRel ρ l tr a.tmps)
    (ho : ops[i]? = some o) (e : oneOp P inv ops.toList o l tr h = some (v, h')) :
    ∃ ρ' v' w', (∀ cs, Steps P (lone (b.atR a (.inRegion ops (i :: rest) :: k)) cs w) (lone (b.atR (a.put o.dst v') (.inRegion ops rest :: k)) cs w')) ∧ VRel ρ' v v' ∧ Went P base ρ h w ρ' h' w' := by
  obtain ⟨ρ', v', w', h1, h2, h3⟩ := one_sound hinv st henv e
  refine ⟨ρ', v', w', fun cs => ?_, h2, h3⟩
  rcases h1 with ⟨k1, k2, k3⟩ | ⟨k1, rfl, rfl, _, _⟩
  · exact does_steps k2 ho k1 k3
  · have := stepR_op_skip (P := P) (b := b) (a := a) (k := k) (cs := cs) (w := w') (ops := ops) (i := i) (rest := rest) (by simp [ho, k1])
    rw [ho] at this
    exact .one this

theorem runOps_nil (P : Program) (inv : Inv) (size : Nat) (ops : List Oper) (tr : Tr Value) (l : Loc) (h : AHeap) : runOps P inv size ops tr [] l h = some (l, h) := rfl
theorem runOps_cons (P : Program) (inv : Inv) (size : Nat) (ops : List Oper) (tr : Tr Value) (o : Oper) (rest : List Oper) (l : Loc) (h : AHeap) :
    runOps P inv size ops tr (o :: rest) l h = match oneOp P inv ops o l tr h with
      | some (v, h) => runOps P inv size ops tr rest (putL size o.dst v l) h
      | none => none := by
  show (match oneOp P inv ops o l tr h with
      | some (v, h) => forceV v fun v => runOps P inv size ops tr rest (putL size o.dst v l) h
      | none => none) = _
  cases oneOp P inv ops o l tr h with
  | none => rfl
  | some r => cases r; exact forceV_eq _ _

/-- operations in the order of the text -/
theorem runOps_sound {inv : Inv} {ops : Array Oper} {b : Frame} {k : List Item} {tr : Tr Value} (hinv : InvOk P inv) : ∀ (rest : List Oper) (i : Nat) (ρ : Ren) (w : World) (l l' : Loc) (h h' : AHeap) (a : Act), i + rest.length = ops.size → ops.toList.drop i = rest →
    Sim P base ρ h w → EnvRel ρ l tr a.tmps → runOps P inv a.tmps.size ops.toList tr rest l h = some (l', h') →
    ∃ ρ' w' a', (∀ cs, Steps P (lone (b.atR a (.inRegion ops (List.range' i rest.length) :: k)) cs w) (lone (b.atR a' k) cs w')) ∧ Went P base ρ h w ρ' h' w' ∧ EnvRel ρ' l' tr a'.tmps ∧ a'.tmps.size = a.tmps.size ∧ a'.defers = a.defers
  | [], i, ρ, w, l, l', h, h', a, _, _, st, henv, e => by
    rw [runOps_nil] at e
    cases e
    exact ⟨ρ, w, a, fun cs => .one stepR_region_end, .refl st, henv, rfl, rfl⟩
  | o :: rest, i, ρ, w, l, l', h, h', a, hlen, hdrop, st, henv, e => by
    rw [runOps_cons] at e
    have ho : ops[i]? = some o := by
      have : (ops.toList.drop i)[0]? = some o := by rw [hdrop]; rfl
      rw [List.getElem?_drop, Nat.add_zero] at this
      simpa using this
    split at e
    · rename_i v h1 he
      obtain ⟨ρ₁, v', w₁, s1, r1, g1⟩ := one_steps (b := b) (rest := List.range' (i + 1) rest.length) (k := k) hinv st henv ho he
      have henv1 : EnvRel ρ₁ (putL a.tmps.size o.dst v l) tr (a.put o.dst v').tmps := (henv.mono g1.le).put r1 o.dst
      obtain ⟨ρ', w', a', s2, g2, e2, z2, d2⟩ := runOps_sound (ops := ops) hinv rest (i + 1) ρ₁ w₁ _ l' h1 h' (a.put o.dst v') (by rw [List.length_cons] at hlen; omega) (by rw [← List.drop_drop, hdrop]; rfl) g1.sim henv1 (by rw [put_size]; exact e)
      refine ⟨ρ', w', a', fun cs => ?_, g1.trans g2, e2, by rw [z2, put_size], by rw [d2]; cases o.dst <;> rfl⟩
      rw [List.length_cons, List.range'_succ]
      exact (s1 cs).trans (s2 cs)
    · cases e
end Go.Ev
