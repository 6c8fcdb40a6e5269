/- The evaluator: a region that draws its order is what it is in the order of the text. -/
import Derived.Test.YtelepfablohdmaaGreatDoorEv21
set_option linter.unusedSimpArgs false
set_option linter.unusedVariables false
namespace Go.Ev

variable {P : Program} {base : Nat} {inv : Inv} {ops : Array Oper} {size : Nat} {tr : Tr Value} {ρ0 : Ren} {w0 : World} {L : Nat → Loc} {H : Nat → AHeap} {V : Nat → Value}

theorem EnvRel.looks {ρ : Ren} {l : Loc} {a : Act} {o : Oper} (h : EnvRel ρ l tr a.tmps) : Looks ρ ops o l tr a := fun t _ => h t

theorem txt_hyp {a0 : Act} (hinv : InvOk P inv) (st : Sim P base ρ0 (H 0) w0) (henv : EnvRel ρ0 (L 0) tr a0.tmps) (hsz : a0.tmps.size = size)
    (hrun : ∀ i o, ops[i]? = some o → oneOp P inv ops.toList o (L i) tr (H i) = some (V i, H (i + 1))) (hput : ∀ i o, ops[i]? = some o → L (i + 1) = putL size o.dst (V i) (L i)) :
    ∀ i, i ≤ ops.size → ∃ ρ w a, Went P base ρ0 (H 0) w0 ρ (H i) w ∧ EnvRel ρ (L i) tr (Act.tmps a) ∧ a.tmps.size = size
  | 0, _ => ⟨ρ0, w0, a0, .refl st, henv, hsz⟩
  | i + 1, hi => by
    obtain ⟨ρ, w, a, h1, h2, h3⟩ := txt_hyp hinv st henv hsz hrun hput i (by omega)
    obtain ⟨o, ho⟩ := op_at (ops := ops) (i := i) (by omega)
    obtain ⟨ρ', v', w', _, h5, h6⟩ := one_any hinv h1.sim h2.looks (hrun i o ho)
    refine ⟨ρ', w', a.put o.dst v', h1.trans h6, ?_, by rw [put_size]; exact h3⟩
    rw [hput i o ho, ← h3]
    exact (h2.mono h6.le).put h5 o.dst

theorem txt_of {a0 : Act} (hinv : InvOk P inv) (st : Sim P base ρ0 (H 0) w0) (henv : EnvRel ρ0 (L 0) tr a0.tmps) (hsz : a0.tmps.size = size)
    (hrun : ∀ i o, ops[i]? = some o → oneOp P inv ops.toList o (L i) tr (H i) = some (V i, H (i + 1))) (hput : ∀ i o, ops[i]? = some o → L (i + 1) = putL size o.dst (V i) (L i)) :
    Txt P base inv ops size tr ρ0 w0 L H V where
  run := hrun
  put := hput
  hyp := txt_hyp hinv st henv hsz hrun hput
  mono i hi := by
    obtain ⟨ρ, w, a, h1, h2, h3⟩ := txt_hyp hinv st henv hsz hrun hput i (by omega)
    obtain ⟨o, ho⟩ := op_at (ops := ops) hi
    obtain ⟨ρ', v', w', _, h5, h6⟩ := one_any hinv h1.sim h2.looks (hrun i o ho)
    exact h6.ext.next
  light i o ho hk := by
    have hi := op_lt ho
    obtain ⟨ρ, w, a, h1, h2, h3⟩ := txt_hyp hinv st henv hsz hrun hput i (by omega)
    rcases one_light hk h2.looks (fun _ => ⟨H i, _, h1.sim.rel.rd, hrun i o ho⟩) (hrun i o ho) with ⟨h4, _⟩ | ⟨ob, h4, _⟩
    · exact .inl h4
    · exact .inr ⟨ob, h4⟩
  out t ht := by
    have h1 := henv t
    have h2 : a0.tmps.getD t undef = undef := by rw [Array.getD, dif_neg (by omega)]
    rw [h2] at h1; exact h1
  start := st

theorem mid_start {a0 : Act} (T : Txt P base inv ops size tr ρ0 w0 L H V) (henv : EnvRel ρ0 (L 0) tr a0.tmps) (hsz : a0.tmps.size = size) {S : Nat → Prop} (hS : ∀ j, ¬ S j) : Mid P base ops size tr ρ0 w0 L H S 0 ρ0 a0 w0 where
  closed j o e _ _ _ h := absurd h (hS j)
  tau := rfl
  tau_le := Nat.zero_le _
  heavy j _ := ⟨fun h => absurd h (hS j), fun h => absurd h (Nat.not_lt_zero _)⟩
  asz := hsz
  slots t _ := ⟨0, Nat.zero_le _, henv t, fun j _ h => absurd h (Nat.not_lt_zero _), fun j _ _ => hS j⟩
  le := Ren.le_refl _
  below := .refl _ _
  kept _ _ _ := rfl
  fresh b p h h0 := by rw [h] at h0; cases h0
  same _ _ _ := rfl
  dom b p h := Nat.lt_of_lt_of_le (T.start.dom h) (T.mono' (Nat.zero_le _) (Nat.le_refl _))
  cont b p k h h1 h2 h3 h4 := by
    have hk : k = 0 := by
      rcases Nat.eq_zero_or_pos k with h5 | h5
      · exact h5
      · have := h4 0 (Nat.le_refl _) h5
        have := T.start.dom h
        omega
    rw [hk]; exact T.start.rel.obj b p h
  size := T.start.rel.size
  inj := T.start.rel.inj
  lo := T.start.rel.lo
  own b p h h1 := absurd (T.start.dom h) (Nat.not_lt.2 h1)
  unmet j b hj _ h1 _ := by
    refine ⟨?_, fun h => absurd h (Nat.not_lt_zero _)⟩
    cases h2 : ρ0 b with
    | none => rfl
    | some p =>
      have := T.start.dom h2
      have := T.mono' (Nat.zero_le j) (by omega)
      omega
  met j b _ h := absurd h (hS j)

/-- the schedule's steps -/
theorem drawn_sound {a : Act} (hm : P.follows .mixedOrders = true) (hinv : InvOk P inv) (st : Sim P base ρ0 (H 0) w0) (henv : EnvRel ρ0 (L 0) tr a.tmps) (hd : drawOk ops.toList = true)
    (hrun : ∀ i o, ops[i]? = some o → oneOp P inv ops.toList o (L i) tr (H i) = some (V i, H (i + 1))) (hput : ∀ i o, ops[i]? = some o → L (i + 1) = putL a.tmps.size o.dst (V i) (L i)) (hg : Again P inv ops tr L H V) {b : Frame} {k : List Item} {id : Nat} :
    ∃ ρ' w' a', (∀ cs, Steps P (lone (b.atR a (.code (.region id ops true) :: k)) cs w0) (lone (b.atR a' k) cs w')) ∧ Went P base ρ0 (H 0) w0 ρ' (H ops.size) w' ∧ EnvRel ρ' (L ops.size) tr a'.tmps ∧ a'.tmps.size = a.tmps.size ∧ a'.defers = a.defers := by
  have hdrew := st.drew
  have T := txt_of (a0 := a) hinv hdrew.sim henv rfl hrun hput
  have hnone : ∀ j, ¬ Listed (Array.replicate ops.size false) j := fun j h => by
    unfold Listed at h
    simp only [Array.getD_eq_getD_getElem?, Array.getElem?_replicate] at h
    split at h <;> simp at h
  obtain ⟨τ', ρ', a', w', listed', h1, h2, h3, h4⟩ := drawn_go T hd hinv hg (b := b) (k := k) ops.size (w0.tape w0.drawn (.order b.fn id)) (Array.replicate ops.size false) 0 ρ0 a w0.drew (by simp) (by
    have : ∀ (p : Nat → Bool) n, left p n ≤ n := fun p n => by
      induction n with
      | zero => exact Nat.le_refl _
      | succ n ih => show left p n + _ ≤ n + 1; split <;> omega
    exact this _ _) (mid_start T henv rfl hnone)
  obtain ⟨h5, h6⟩ := h2.done T h3
  refine ⟨ρ', w', a', fun cs => ?_, hdrew.trans h5, h6, h2.asz, h4⟩
  refine .head stepR_region_draw ?_
  simp only [Region.schedule, hm, Bool.true_or, if_true]
  exact h1 cs

theorem runOps_text {lops : List Oper} {l' : Loc} {h' : AHeap} : ∀ (rest : List Oper) (l : Loc) (h : AHeap), runOps P inv size lops tr rest l h = some (l', h') →
    ∃ (L : Nat → Loc) (H : Nat → AHeap) (V : Nat → Value), L 0 = l ∧ H 0 = h ∧ L rest.length = l' ∧ H rest.length = h' ∧ ∀ i o, rest[i]? = some o → oneOp P inv lops o (L i) tr (H i) = some (V i, H (i + 1)) ∧ L (i + 1) = putL size o.dst (V i) (L i)
  | [], l, h, e => by
    rw [runOps_nil] at e
    cases e
    exact ⟨fun _ => l', fun _ => h', fun _ => undef, rfl, rfl, rfl, rfl, fun i o h => by simp at h⟩
  | o :: rest, l, h, e => by
    rw [runOps_cons] at e
    split at e
    · rename_i v h1 he
      obtain ⟨L, H, V, e1, e2, e3, e4, e5⟩ := runOps_text rest _ h1 e
      refine ⟨fun | 0 => l | i + 1 => L i, fun | 0 => h | i + 1 => H i, fun | 0 => v | i + 1 => V i, rfl, rfl, e3, e4, fun i o' ho => ?_⟩
      cases i with
      | zero =>
        simp at ho; subst ho
        exact ⟨by simp only [e2]; exact he, by simp only [e1]⟩
      | succ i => exact e5 i o' (by simpa using ho)
    · cases e

theorem runD_nil (lops : List Oper) (l : Loc) (h : AHeap) : runD P inv size lops tr [] l h = some [⟨l, h, undef⟩] := rfl
theorem runD_cons (lops : List Oper) (o : Oper) (rest : List Oper) (l : Loc) (h : AHeap) : runD P inv size lops tr (o :: rest) l h = match oneOp P inv lops o l tr h with
      | some (v, h') => recCons l h v (runD P inv size lops tr rest (putL size o.dst v l) h')
      | none => none := by
  show (match oneOp P inv lops o l tr h with
      | some (v, h') => forceV v fun v => recCons l h v (runD P inv size lops tr rest (putL size o.dst v l) h')
      | none => none) = _
  cases oneOp P inv lops o l tr h with
  | none => rfl
  | some r => cases r; exact forceV_eq _ _

theorem runD_text {lops : List Oper} : ∀ (rest : List Oper) (l : Loc) (h : AHeap) (rs : List Rec), runD P inv size lops tr rest l h = some rs →
    ∃ (L : Nat → Loc) (H : Nat → AHeap) (V : Nat → Value), L 0 = l ∧ H 0 = h ∧ rs.length = rest.length + 1 ∧ (∀ i r, rs[i]? = some r → r.l = L i ∧ r.h = H i ∧ (i < rest.length → r.v = V i)) ∧ ∀ i o, rest[i]? = some o → oneOp P inv lops o (L i) tr (H i) = some (V i, H (i + 1)) ∧ L (i + 1) = putL size o.dst (V i) (L i)
  | [], l, h, rs, e => by
    rw [runD_nil] at e
    cases e
    refine ⟨fun _ => l, fun _ => h, fun _ => undef, rfl, rfl, rfl, fun i r hr => ?_, fun i o h => by simp at h⟩
    cases i with
    | zero => simp at hr; subst hr; exact ⟨rfl, rfl, fun h => absurd h (Nat.not_lt_zero _)⟩
    | succ i => simp at hr
  | o :: rest, l, h, rs, e => by
    rw [runD_cons] at e
    split at e
    · rename_i v h1 he
      unfold recCons at e
      split at e
      · rename_i rs' hrs'
        cases e
        obtain ⟨L, H, V, e1, e2, e3, e4, e5⟩ := runD_text rest _ h1 rs' hrs'
        refine ⟨fun | 0 => l | i + 1 => L i, fun | 0 => h | i + 1 => H i, fun | 0 => v | i + 1 => V i, rfl, rfl, by simp [e3], fun i r hr => ?_, fun i o' ho => ?_⟩
        · cases i with
          | zero => simp at hr; subst hr; exact ⟨rfl, rfl, fun _ => rfl⟩
          | succ i =>
            obtain ⟨k1, k2, k3⟩ := e4 i r (by simpa using hr)
            exact ⟨k1, k2, fun h => k3 (by simpa using h)⟩
        · cases i with
          | zero =>
            simp at ho; subst ho
            exact ⟨by simp only [e2]; exact he, by simp only [e1]⟩
          | succ i => exact e5 i o' (by simpa using ho)
      · cases e
    · cases e

theorem again_mem {lops : List Oper} {o : Oper} {r : Rec} {rs : List Rec} {m : Nat} : ∀ {l : List Nat}, againAll P inv lops tr o r rs l = true → m ∈ l → againAt P inv lops tr o r rs m = true
  | [], _, h => by cases h
  | x :: l, h, hm => by
    have h' : (Bool.rec (motive := fun _ => Bool) false (againAll P inv lops tr o r rs l) (againAt P inv lops tr o r rs x) : Bool) = true := h
    cases hx : againAt P inv lops tr o r rs x with
    | false => rw [hx] at h'; cases h'
    | true =>
      rw [hx] at h'
      cases hm with
      | head => exact hx
      | tail _ hm => exact again_mem h' hm

/-- a region that draws its order -/
theorem runAny_sound {a : Act} {h h' : AHeap} {l' : Loc} (hm : P.follows .mixedOrders = true) (hinv : InvOk P inv) (st : Sim P base ρ0 h w0) (henv : EnvRel ρ0 .nil tr a.tmps) (e : runAny P inv a.tmps.size ops.toList tr h = some (l', h')) {b : Frame} {k : List Item} {id : Nat} :
    ∃ ρ' w' a', (∀ cs, Steps P (lone (b.atR a (.code (.region id ops true) :: k)) cs w0) (lone (b.atR a' k) cs w')) ∧ Went P base ρ0 h w0 ρ' h' w' ∧ EnvRel ρ' l' tr a'.tmps ∧ a'.tmps.size = a.tmps.size ∧ a'.defers = a.defers := by
  unfold runAny at e
  cases hd : drawOk ops.toList with
  | false => rw [hd] at e; cases e
  | true =>
    rw [hd] at e
    cases hq : quietB ops.toList with
    | true =>
      rw [hq] at e
      dsimp only at e
      obtain ⟨L, H, V, e1, e2, e3, e4, e5⟩ := runOps_text _ _ _ e
      rw [Array.length_toList] at e3 e4
      subst e2
      rw [← e4, ← e3]
      refine drawn_sound hm hinv st (by rw [e1]; exact henv) hd (fun i o ho => (e5 i o (by simpa using ho)).1) (fun i o ho => (e5 i o (by simpa using ho)).2) fun i o m ho hm' => ?_
      rw [quiet_needs hq (by simpa using op_lt ho)] at hm'
      cases hm'
    | false =>
      rw [hq] at e
      dsimp only at e
      split at e
      · rename_i rs hrs
        cases hc : checksD P inv ops.toList tr rs with
        | false => rw [hc] at e; cases e
        | true =>
          rw [hc] at e
          dsimp only at e
          rw [nth_eq, Array.length_toList] at e
          split at e
          · rename_i r hr
            cases e
            obtain ⟨L, H, V, e1, e2, e3, e4, e5⟩ := runD_text _ _ _ _ hrs
            have hlen : rs.length = ops.size + 1 := by simpa using e3
            obtain ⟨k1, k2, _⟩ := e4 _ _ hr
            subst e2
            rw [k1, k2]
            refine drawn_sound hm hinv st (by rw [e1]; exact henv) hd (fun i o ho => (e5 i o (by simpa using ho)).1) (fun i o ho => (e5 i o (by simpa using ho)).2) fun i o m ho hm' => ?_
            have hi := op_lt ho
            have h1 := allBelow_iff.1 hc i (by simpa using hi)
            have hri : ∃ r', rs[i]? = some r' := ⟨rs[i]'(by omega), List.getElem?_eq_getElem (by omega)⟩
            obtain ⟨r', hr'⟩ := hri
            rw [nth_eq, nth_eq, show ops.toList[i]? = some o by simpa using ho, hr'] at h1
            have h2 := again_mem h1 hm'
            unfold againAt at h2
            rw [nth_eq] at h2
            split at h2
            · rename_i r₂ hr₂
              obtain ⟨j1, j2, _⟩ := e4 _ _ hr₂
              obtain ⟨i1, i2, i3⟩ := e4 _ _ hr'
              have hmlt : m < rs.length := by
                rcases Nat.lt_or_ge m rs.length with h | h
                · exact h
                · rw [List.getElem?_eq_none h] at hr₂; cases hr₂
              refine ⟨by omega, ?_⟩
              split at h2
              · rename_i v g hv
                rw [i1, j2] at hv
                rw [← i3 (by simpa using hi), ← same_spec h2]
                exact ⟨g, hv⟩
              · cases h2
            · cases h2
          · cases e
      · cases e
end Go.Ev
