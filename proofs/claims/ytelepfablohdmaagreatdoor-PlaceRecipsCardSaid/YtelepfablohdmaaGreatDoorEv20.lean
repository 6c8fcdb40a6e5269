/- The evaluator: a region that draws its order, whole. -/
import Derived.Test.YtelepfablohdmaaGreatDoorEv19
set_option linter.unusedSimpArgs false
set_option linter.unusedVariables false
namespace Go.Ev

variable {P : Program} {base : Nat} {inv : Inv} {ops : Array Oper} {size : Nat} {tr : Tr Value} {ρ0 : Ren} {w0 : World} {L : Nat → Loc} {H : Nat → AHeap} {V : Nat → Value}
variable {S : Nat → Prop} {τ : Nat} {ρ : Ren} {a : Act} {w : World}

theorem Ren.put_inv {ρ : Ren} {b c : Nat} {p q : Place} (h : ρ.put b p c = some q) : (b = c ∧ q = p) ∨ (b ≠ c ∧ ρ c = some q) := by
  by_cases e : b = c
  · subst e; rw [Ren.put_self] at h; cases h; exact .inl ⟨rfl, rfl⟩
  · rw [Ren.put_ne _ _ e] at h; exact .inr ⟨e, h⟩

/-- an operation that changes nothing -/
theorem Mid.quiet (M : Mid P base ops size tr ρ0 w0 L H S τ ρ a w) (T : Txt P base inv ops size tr ρ0 w0 L H V) (hd : drawOk ops.toList = true) {i : Nat} {o : Oper} (R : Ready ops S i o) (hk : isHeavy (kindOf o.op) = false) (hH : H (i + 1) = H i) {v' : Value} (hv : VRel ρ (V i) v') :
    Mid P base ops size tr ρ0 w0 L H (fun j => S j ∨ j = i) τ ρ (a.put o.dst v') w where
  closed := M.closed' R
  tau := M.tau
  tau_le := M.tau_le
  heavy j hj := by
    have hne : j ≠ i := fun e => by
      subst e
      rw [heavyAt_eq (ops := ops.toList) (by simpa using R.at'), hk] at hj; cases hj
    exact ⟨fun h => (M.heavy j hj).1 (h.resolve_right hne), fun h => .inl ((M.heavy j hj).2 h)⟩
  asz := by rw [put_size]; exact M.asz
  slots := M.slots' T hd R (Ren.le_refl ρ) hv
  le := M.le
  below := M.below
  kept := M.kept
  fresh := M.fresh
  same := M.same
  dom := M.dom
  cont := M.cont
  size := M.size
  inj := M.inj
  lo := M.lo
  own := M.own
  unmet j b hj hS := M.unmet j b hj (fun h => hS (.inl h))
  met j b hj hS h1 h2 := by
    rcases hS with hS | rfl
    · exact M.met j b hj hS h1 h2
    · rw [hH] at h2; omega

/-- an operation that makes a block -/
theorem Mid.makes (M : Mid P base ops size tr ρ0 w0 L H S τ ρ a w) (T : Txt P base inv ops size tr ρ0 w0 L H V) (hd : drawOk ops.toList = true) {i : Nat} {o : Oper} (R : Ready ops S i o) (hk : isHeavy (kindOf o.op) = false) {ob : AObj} (hH : H (i + 1) = (H i).new ob)
    {v' : Value} {o' : Obj} {esz total : Nat} (hv : VRel (ρ.put (H i).next ⟨w.heap.size, 0, esz, total⟩) (V i) v') (ho : ORel P (ρ.put (H i).next ⟨w.heap.size, 0, esz, total⟩) ⟨w.heap.size, 0, esz, total⟩ ob (some o')) :
    Mid P base ops size tr ρ0 w0 L H (fun j => S j ∨ j = i) τ (ρ.put (H i).next ⟨w.heap.size, 0, esz, total⟩) (a.put o.dst v') (w.alloc o') := by
  have hi := op_lt R.at'
  have hnx : (H (i + 1)).next = (H i).next + 1 := by rw [hH]; rfl
  have hnone : ρ (H i).next = none := (M.unmet i _ hi R.un (Nat.le_refl _) (by omega)).1
  have hle := Ren.le_put (p := ⟨w.heap.size, 0, esz, total⟩) hnone
  have hroom := T.start.room
  have hsz := M.below.size
  refine ⟨M.closed' R, M.tau, M.tau_le, ?_, by rw [put_size]; exact M.asz, M.slots' T hd R hle hv, Ren.le_trans M.le hle, M.below.alloc (Nat.le_trans hroom hsz) o', ?_, ?_, M.same, ?_, ?_, ?_, ?_, ?_, ?_, ?_, ?_⟩
  · intro j hj
    have hne : j ≠ i := fun e => by
      subst e
      rw [heavyAt_eq (ops := ops.toList) (by simpa using R.at'), hk] at hj; cases hj
    exact ⟨fun h => (M.heavy j hj).1 (h.resolve_right hne), fun h => .inl ((M.heavy j hj).2 h)⟩
  · intro c hc hn
    rw [alloc_heap, if_neg (by omega)]
    exact M.kept c hc hn
  · intro b p hb h0
    rcases Ren.put_inv hb with ⟨rfl, rfl⟩ | ⟨_, hb⟩
    · exact ⟨T.mono' (Nat.zero_le _) (by omega), .inl hsz⟩
    · exact M.fresh b p hb h0
  · intro b p hb
    rcases Ren.put_inv hb with ⟨rfl, rfl⟩ | ⟨_, hb⟩
    · have := T.mono' (i := i + 1) (j := ops.size) hi (Nat.le_refl _); omega
    · exact M.dom b p hb
  · intro b p k hb h1 h2 h3 h4
    rcases Ren.put_inv hb with ⟨rfl, rfl⟩ | ⟨_, hb⟩
    · have hki : i < k := by
        rcases Nat.lt_or_ge i k with h | h
        · exact h
        · have := T.mono' (i := k) (j := i) h (by omega); omega
      have hself : (H (i + 1)).get (H i).next = some ob := by rw [hH, get_new, if_pos rfl]
      refine ⟨ob, ?_, by rw [alloc_heap, if_pos rfl]; exact ho⟩
      rcases Nat.lt_or_ge i τ with h | h
      · have hkt : k = τ := by
          rcases Nat.lt_or_ge τ k with h5 | h5
          · have := h4 τ (Nat.le_refl _) h5
            have := T.mono' (i := i + 1) (j := τ) h M.tau_le
            omega
          · omega
        rw [hkt, (M.unmet i _ hi R.un (Nat.le_refl _) (by omega)).2 h]
        exact hself
      · have hkt : k = i + 1 := by
          rcases Nat.lt_or_ge (i + 1) k with h5 | h5
          · have := h4 (i + 1) (by omega) h5
            omega
          · omega
        rw [hkt]; exact hself
    · obtain ⟨q, h5, h6⟩ := M.cont b p k hb h1 h2 h3 h4
      refine ⟨q, h5, ?_⟩
      rw [alloc_heap, if_neg (Nat.ne_of_lt (M.size b p hb))]
      exact h6.mono hle
  · intro b p hb
    rw [World.size_alloc]
    rcases Ren.put_inv hb with ⟨rfl, rfl⟩ | ⟨_, hb⟩
    · exact Nat.lt_succ_self _
    · exact Nat.lt_succ_of_lt (M.size b p hb)
  · intro b₁ b₂ p₁ p₂ o₁ o₂ k1 k2 g1 g2 l1 l2 hp
    rcases Ren.put_inv k1 with ⟨rfl, rfl⟩ | ⟨_, k1⟩
    · rcases Ren.put_inv k2 with ⟨rfl, rfl⟩ | ⟨_, k2⟩
      · rfl
      · exact absurd hp.symm (Nat.ne_of_lt (M.size _ _ k2))
    · rcases Ren.put_inv k2 with ⟨rfl, rfl⟩ | ⟨_, k2⟩
      · exact absurd hp (Nat.ne_of_lt (M.size _ _ k1))
      · exact M.inj _ _ _ _ _ _ k1 k2 g1 g2 l1 l2 hp
  · intro b p q hb hq hrw
    rcases Ren.put_inv hb with ⟨rfl, rfl⟩ | ⟨_, hb⟩
    · exact Nat.le_trans hroom hsz
    · exact M.lo b p q hb hq hrw
  · intro b p hb hge
    rcases Ren.put_inv hb with ⟨rfl, rfl⟩ | ⟨_, hb⟩
    · refine ⟨Nat.le_trans hroom hsz, fun b₁ p₁ h1 h2 => ?_⟩
      rcases Ren.put_inv h1 with ⟨rfl, rfl⟩ | ⟨_, h1⟩
      · rfl
      · exact absurd h2 (Nat.ne_of_lt (M.size _ _ h1))
    · refine ⟨(M.own b p hb hge).1, fun b₁ p₁ h1 h2 => ?_⟩
      rcases Ren.put_inv h1 with ⟨rfl, rfl⟩ | ⟨_, h1⟩
      · exact absurd h2.symm (Nat.ne_of_lt (M.size _ _ hb))
      · exact (M.own b p hb hge).2 b₁ p₁ h1 h2
  · intro j b hj hS h1 h2
    have hji : j ≠ i := fun e => hS (.inr e)
    obtain ⟨h3, h4⟩ := M.unmet j b hj (fun h => hS (.inl h)) h1 h2
    refine ⟨?_, h4⟩
    rw [Ren.put_ne _ _ ?_]
    · exact h3
    · intro e
      rcases Nat.lt_or_ge j i with h | h
      · have := T.mono' (i := j + 1) (j := i) h (by omega); omega
      · have := T.mono' (i := i + 1) (j := j) (by omega) (by omega); omega
  · intro j b hj hS h1 h2
    rcases hS with hS | rfl
    · obtain ⟨q, hq⟩ := M.met j b hj hS h1 h2
      exact ⟨q, hle _ _ hq⟩
    · rw [show b = (H j).next by omega]
      exact ⟨_, Ren.put_self _ _ _⟩

/-- an operation that may write -/
theorem Mid.writes (M : Mid P base ops size tr ρ0 w0 L H S τ ρ a w) (T : Txt P base inv ops size tr ρ0 w0 L H V) (hd : drawOk ops.toList = true) (hinv : InvOk P inv) {i : Nat} {o : Oper} (R : Ready ops S i o) (hk : isHeavy (kindOf o.op) = true) :
    ∃ ρ' v' w', StepOk P ops a o w v' w' ∧ Mid P base ops size tr ρ0 w0 L H (fun j => S j ∨ j = i) (i + 1) ρ' (a.put o.dst v') w' := by
  have hi := op_lt R.at'
  have hheavy : heavyAt ops.toList i = true := by rw [heavyAt_eq (by simpa using R.at')]; exact hk
  have hτi : τ ≤ i := by
    rcases Nat.lt_or_ge i τ with h | h
    · exact absurd ((M.heavy i hheavy).2 h) R.un
    · exact h
  have hbefore : ∀ j, heavyAt ops.toList j = true → j < i → S j := fun j hj hlt => by
    obtain ⟨o', ho', hk'⟩ := heavyAt_lt hj
    exact R.reach M.closed (order_of_meet hd hlt ho' (by simpa using R.at') (meet_heavy hk' hk))
  have hcalm : Calm ops.toList τ i := fun j h1 h2 => by
    cases hj : heavyAt ops.toList j with
    | false => rfl
    | true => have := (M.heavy j hj).1 (hbefore j hj h2); omega
  have hlooks := M.looks T hd R
  obtain ⟨ρ₁, v', w', hstep, hv, hw⟩ := one_any hinv (M.cut T hτi (by omega) hcalm) (hlooks.cut T (by omega)) (T.run i o R.at')
  have hN : (H i).next ≤ (H (i + 1)).next := T.mono i hi
  have hunm : ∀ b, (H i).next ≤ b → b < (H (i + 1)).next → ρ b = none := fun b h1 h2 => (M.unmet i b hi R.un h1 h2).1
  let ρ' : Ren := fun b => if b < (H (i + 1)).next then ρ₁ b else ρ b
  have r1 : ∀ {b}, b < (H (i + 1)).next → ρ' b = ρ₁ b := fun h => if_pos h
  have r2 : ∀ {b}, (H (i + 1)).next ≤ b → ρ' b = ρ b := fun h => if_neg (Nat.not_lt.2 h)
  have hle1 : ρ.le ρ' := by
    intro b p hb
    rcases Nat.lt_or_ge b (H i).next with h | h
    · rw [r1 (by omega)]
      exact hw.le _ _ (by rw [Ren.cut_lt h]; exact hb)
    · rcases Nat.lt_or_ge b (H (i + 1)).next with h' | h'
      · rw [hunm b h h'] at hb; cases hb
      · rw [r2 h']; exact hb
  have hle2 : ρ₁.le ρ' := fun b p hb => by rw [r1 (hw.sim.dom hb)]; exact hb
  -- what a block below is, before and after
  have hold : ∀ b p, ρ₁ b = some p → (b < (H i).next ∧ ρ b = some p) ∨ ((ρ.cut (H i).next) b = none) := fun b p hb => by
    cases hc : (ρ.cut (H i).next) b with
    | none => exact .inr rfl
    | some q =>
      rw [hw.le _ _ hc] at hb; cases hb
      exact .inl (Ren.cut_some hc)
  refine ⟨ρ', v', w', hstep, M.closed' R, hheavy, hi, ?_, by rw [put_size]; exact M.asz, M.slots' T hd R hle1 (hv.mono hle2), Ren.le_trans M.le hle1, M.below.trans hw.ext.below, ?_, ?_, ?_, ?_, ?_, ?_, ?_, ?_, ?_, ?_, ?_⟩
  · intro j hj
    constructor
    · rintro (h | h)
      · have := (M.heavy j hj).1 h; omega
      · omega
    · intro h
      rcases Nat.lt_or_ge j i with h' | h'
      · exact .inl (hbefore j hj h')
      · exact .inr (by omega)
  · intro c hc hn
    rw [hw.ext.kept c (Nat.lt_of_lt_of_le hc M.below.size) ?_, M.kept c hc hn]
    intro b p hb hp
    obtain ⟨_, hb⟩ := Ren.cut_some hb
    cases h0 : ρ0 b with
    | some q => rw [M.le _ _ h0] at hb; cases hb; exact hn b p h0 hp
    | none =>
      rcases (M.fresh b p hb h0).2 with h | ⟨b₀, p₀, h1, h2⟩
      · omega
      · exact hn b₀ p₀ h1 (h2.trans hp)
  · intro b p hb h0
    rcases Nat.lt_or_ge b (H (i + 1)).next with h | h
    · rw [r1 h] at hb
      rcases hold b p hb with ⟨_, h1⟩ | h1
      · exact M.fresh b p h1 h0
      · obtain ⟨h2, h3⟩ := hw.ext.fresh b p hb h1
        refine ⟨Nat.le_trans (T.mono' (Nat.zero_le i) (by omega)) h2, ?_⟩
        rcases h3 with h3 | ⟨b₀, p₀, h3, h4⟩
        · exact .inl (Nat.le_trans M.below.size h3)
        · obtain ⟨_, h3⟩ := Ren.cut_some h3
          cases h5 : ρ0 b₀ with
          | some q => rw [M.le _ _ h5] at h3; cases h3; exact .inr ⟨b₀, p₀, h5, h4⟩
          | none =>
            rcases (M.fresh b₀ p₀ h3 h5).2 with h6 | ⟨b₁, p₁, h6, h7⟩
            · exact .inl (by omega)
            · exact .inr ⟨b₁, p₁, h6, h7.trans h4⟩
    · rw [r2 h] at hb; exact M.fresh b p hb h0
  · intro b hb h0
    have h1 := T.mono' (Nat.zero_le τ) M.tau_le
    have h2 := T.mono' hτi (by omega)
    have h3 : ρ b = none := by
      cases h4 : ρ b with
      | none => rfl
      | some p => have := (M.fresh b p h4 h0).1; omega
    rw [hw.ext.same b (by omega) (by rw [Ren.cut_lt (by omega)]; exact h3), T.calm hτi (by omega) hcalm (by omega), M.same b hb h0]
  · intro b p hb
    rcases Nat.lt_or_ge b (H (i + 1)).next with h | h
    · exact Nat.lt_of_lt_of_le h (T.mono' hi (Nat.le_refl _))
    · rw [r2 h] at hb; exact M.dom b p hb
  · intro b p k hb h1 h2 h3 h4
    rcases Nat.lt_or_ge b (H (i + 1)).next with h | h
    · have hk' : k = i + 1 := by
        rcases Nat.lt_or_ge (i + 1) k with h5 | h5
        · have := h4 (i + 1) (Nat.le_refl _) h5; omega
        · omega
      rw [r1 h] at hb
      obtain ⟨q, h5, h6⟩ := hw.sim.rel.obj b p hb
      exact ⟨q, by rw [hk']; exact h5, h6.mono hle2⟩
    · rw [r2 h] at hb
      obtain ⟨q, h5, h6⟩ := M.cont b p k hb (by omega) h2 h3 (fun k' h5 h6 => by
        rcases Nat.lt_or_ge k' (i + 1) with h7 | h7
        · exact Nat.le_trans (T.mono' (by omega) hi) h
        · exact h4 k' h7 h6)
      refine ⟨q, h5, ?_⟩
      have hτb : (H τ).next ≤ b := Nat.le_trans (T.mono' (by omega) hi) h
      rw [hw.ext.kept _ (M.size b p hb) (fun b₁ p₁ h7 h8 => by
        obtain ⟨h9, h7⟩ := Ren.cut_some h7
        have := (M.own b p hb hτb).2 b₁ p₁ h7 h8
        omega)]
      exact h6.mono hle1
  · intro b p hb
    rcases Nat.lt_or_ge b (H (i + 1)).next with h | h
    · rw [r1 h] at hb; exact hw.sim.rel.size b p hb
    · rw [r2 h] at hb; exact Nat.lt_of_lt_of_le (M.size b p hb) hw.ext.below.size
  · intro b₁ b₂ p₁ p₂ o₁ o₂ k1 k2 g1 g2 l1 l2 hp
    rw [r1 (T.lt hi g1)] at k1
    rw [r1 (T.lt hi g2)] at k2
    exact hw.sim.rel.inj _ _ _ _ _ _ k1 k2 g1 g2 l1 l2 hp
  · intro b p q hb hq hrw
    rw [r1 (T.lt hi hq)] at hb
    exact hw.sim.rel.lo b p q hb hq hrw
  · intro b p hb hge
    rw [r2 hge] at hb
    have hτb : (H τ).next ≤ b := Nat.le_trans (T.mono' (by omega) hi) hge
    obtain ⟨h1, h2⟩ := M.own b p hb hτb
    refine ⟨h1, fun b₁ p₁ h3 h4 => ?_⟩
    rcases Nat.lt_or_ge b₁ (H (i + 1)).next with h | h
    · rw [r1 h] at h3
      rcases hold b₁ p₁ h3 with ⟨_, h5⟩ | h5
      · exact h2 b₁ p₁ h5 h4
      · obtain ⟨_, h6⟩ := hw.ext.fresh b₁ p₁ h3 h5
        have hs := M.size b p hb
        rcases h6 with h6 | ⟨b₀, p₀, h6, h7⟩
        · omega
        · obtain ⟨h8, h6⟩ := Ren.cut_some h6
          have := h2 b₀ p₀ h6 (h7.trans h4)
          omega
    · rw [r2 h] at h3; exact h2 b₁ p₁ h3 h4
  · intro j b hj hS h1 h2
    have hji : j ≠ i := fun e => hS (.inr e)
    obtain ⟨h3, h4⟩ := M.unmet j b hj (fun h => hS (.inl h)) h1 h2
    rcases Nat.lt_or_ge j i with h | h
    · have h5 := T.mono' (i := j + 1) (j := i) h (by omega)
      have h6 : (ρ.cut (H i).next) b = none := by rw [Ren.cut_lt (by omega)]; exact h3
      refine ⟨?_, fun _ => ?_⟩
      · rw [r1 (by omega)]
        cases h7 : ρ₁ b with
        | none => rfl
        | some q => have := (hw.ext.fresh b q h7 h6).1; omega
      · rw [hw.ext.same b (by omega) h6]
        rcases Nat.lt_or_ge j τ with h7 | h7
        · rw [T.calm hτi (by omega) hcalm (by have := T.mono' (i := j + 1) (j := τ) h7 M.tau_le; omega)]
          exact h4 h7
        · exact T.calm (i := j + 1) h (by omega) (fun x h8 h9 => hcalm x (by omega) h9) h2
    · have h5 := T.mono' (i := i + 1) (j := j) (by omega) (by omega)
      exact ⟨by rw [r2 (by omega)]; exact h3, fun h6 => by omega⟩
  · intro j b hj hS h1 h2
    rcases hS with hS | rfl
    · obtain ⟨q, hq⟩ := M.met j b hj hS h1 h2
      exact ⟨q, hle1 _ _ hq⟩
    · rw [r1 h2]; exact hw.ext.full b h1 h2
end Go.Ev
