/- The evaluator: a region that draws its order, an operation at a time. -/
import Derived.Test.YtelepfablohdmaaGreatDoorEv18
set_option linter.unusedSimpArgs false
set_option linter.unusedVariables false
namespace Go.Ev

variable {P : Program} {base : Nat} {inv : Inv} {ops : Array Oper} {size : Nat} {tr : Tr Value} {ρ0 : Ren} {w0 : World} {L : Nat → Loc} {H : Nat → AHeap} {V : Nat → Value}

/-- what a region's operations come to in the order of the text -/
structure Txt (P : Program) (base : Nat) (inv : Inv) (ops : Array Oper) (size : Nat) (tr : Tr Value) (ρ0 : Ren) (w0 : World) (L : Nat → Loc) (H : Nat → AHeap) (V : Nat → Value) : Prop where
  run : ∀ i o, ops[i]? = some o → oneOp P inv ops.toList o (L i) tr (H i) = some (V i, H (i + 1))
  put : ∀ i o, ops[i]? = some o → L (i + 1) = putL size o.dst (V i) (L i)
  hyp : ∀ i, i ≤ ops.size → ∃ ρ w a, Went P base ρ0 (H 0) w0 ρ (H i) w ∧ EnvRel ρ (L i) tr (Act.tmps a) ∧ a.tmps.size = size
  mono : ∀ i, i < ops.size → (H i).next ≤ (H (i + 1)).next
  light : ∀ i o, ops[i]? = some o → isHeavy (kindOf o.op) = false → H (i + 1) = H i ∨ ∃ ob, H (i + 1) = (H i).new ob
  out : ∀ t, size ≤ t → VRel ρ0 ((L 0).look t (got (tr.get t))) undef
  start : Sim P base ρ0 (H 0) w0

theorem op_lt {i : Nat} {o : Oper} (h : ops[i]? = some o) : i < ops.size := by
  rcases Nat.lt_or_ge i ops.size with h1 | h1
  · exact h1
  · rw [Array.getElem?_eq_none h1] at h; cases h
theorem op_at {i : Nat} (h : i < ops.size) : ∃ o, ops[i]? = some o := ⟨ops[i], by simp [h]⟩

theorem Txt.mono' (T : Txt P base inv ops size tr ρ0 w0 L H V) {i : Nat} : ∀ {j : Nat}, i ≤ j → j ≤ ops.size → (H i).next ≤ (H j).next
  | 0, h1, _ => by rw [show i = 0 by omega]; exact Nat.le_refl _
  | j + 1, h1, h2 => by
    rcases Nat.lt_or_ge i (j + 1) with h | h
    · exact Nat.le_trans (T.mono' (by omega) (by omega)) (T.mono j (by omega))
    · rw [show i = j + 1 by omega]; exact Nat.le_refl _

theorem Txt.void (T : Txt P base inv ops size tr ρ0 w0 L H V) {i b : Nat} (hi : i ≤ ops.size) (hb : (H i).next ≤ b) : (H i).get b = none := by
  obtain ⟨ρ, w, a, h, _⟩ := T.hyp i hi
  exact h.sim.void b hb
theorem Txt.lt (T : Txt P base inv ops size tr ρ0 w0 L H V) {i b : Nat} {o : AObj} (hi : i ≤ ops.size) (hb : (H i).get b = some o) : b < (H i).next := by
  rcases Nat.lt_or_ge b (H i).next with h | h
  · exact h
  · rw [T.void hi h] at hb; cases hb

theorem Txt.calm (T : Txt P base inv ops size tr ρ0 w0 L H V) {i b : Nat} : ∀ {j : Nat}, i ≤ j → j ≤ ops.size → Calm ops.toList i j → b < (H i).next → (H j).get b = (H i).get b
  | 0, h1, _, _, _ => by rw [show i = 0 by omega]
  | j + 1, h1, h2, hc, hb => by
    rcases Nat.lt_or_ge i (j + 1) with h | h
    · obtain ⟨o, ho⟩ := op_at (ops := ops) (i := j) (by omega)
      have ih := T.calm (j := j) (by omega) (by omega) (fun x h3 h4 => hc x h3 (by omega)) hb
      have hk : isHeavy (kindOf o.op) = false := by
        rw [← heavyAt_eq (ops := ops.toList) (i := j) (by simpa using ho)]
        exact hc j (by omega) (Nat.lt_succ_self j)
      rcases T.light j o ho hk with h5 | ⟨ob, h5⟩
      · rw [h5]; exact ih
      · rw [h5, get_new, if_neg (by have := T.mono' (i := i) (j := j) (by omega) (by omega); omega)]
        exact ih
    · rw [show i = j + 1 by omega]

def Wr (ops : Array Oper) (t j : Nat) : Prop := ∃ o, ops[j]? = some o ∧ o.dst = some t

theorem look_put {size : Nat} {d : Option Tmp} {v x : Value} {l : Loc} {t : Nat} (h : d ≠ some t) : (putL size d v l).look t x = l.look t x := by
  cases d with
  | none => rfl
  | some d =>
    show (Bool.rec (motive := fun _ => Loc) l (.cons d v l) (Nat.blt d size)).look t x = _
    cases Nat.blt d size with
    | false => rfl
    | true => exact (look_cons l d v t x).trans (if_neg (fun e => h (by rw [e])))
theorem look_put_out {size : Nat} {d : Option Tmp} {v x : Value} {l : Loc} {t : Nat} (h : size ≤ t) : (putL size d v l).look t x = l.look t x := by
  cases d with
  | none => rfl
  | some d =>
    show (Bool.rec (motive := fun _ => Loc) l (.cons d v l) (Nat.blt d size)).look t x = _
    cases hb : Nat.blt d size with
    | false => rfl
    | true =>
      have := blt_lt hb
      exact (look_cons l d v t x).trans (if_neg (by omega))
theorem look_put_self {size : Nat} {v x : Value} {l : Loc} {t : Nat} (h : t < size) : (putL size (some t) v l).look t x = v := by
  show (Bool.rec (motive := fun _ => Loc) l (.cons t v l) (Nat.blt t size)).look t x = _
  rw [show Nat.blt t size = true by rw [Nat.blt_eq]; exact h]
  exact (look_cons l t v t x).trans (if_pos rfl)

theorem Txt.look (T : Txt P base inv ops size tr ρ0 w0 L H V) {t i : Nat} {x : Value} : ∀ {j : Nat}, i ≤ j → j ≤ ops.size → (∀ k, i ≤ k → k < j → ¬ Wr ops t k) → (L j).look t x = (L i).look t x
  | 0, h1, _, _ => by rw [show i = 0 by omega]
  | j + 1, h1, h2, hn => by
    rcases Nat.lt_or_ge i (j + 1) with h | h
    · obtain ⟨o, ho⟩ := op_at (ops := ops) (i := j) (by omega)
      rw [T.put j o ho, look_put (fun e => hn j (by omega) (Nat.lt_succ_self j) ⟨o, ho, e⟩)]
      exact T.look (by omega) (by omega) fun k h3 h4 => hn k h3 (by omega)
    · rw [show i = j + 1 by omega]
theorem Txt.look_out (T : Txt P base inv ops size tr ρ0 w0 L H V) {t : Nat} {x : Value} (ht : size ≤ t) : ∀ {j : Nat}, j ≤ ops.size → (L j).look t x = (L 0).look t x
  | 0, _ => rfl
  | j + 1, h => by
    obtain ⟨o, ho⟩ := op_at (ops := ops) (i := j) (by omega)
    rw [T.put j o ho, look_put_out ht]
    exact T.look_out ht (by omega)

/-- the state amid a region, behind the operations of S; tau: behind how many that may write -/
structure Mid (P : Program) (base : Nat) (ops : Array Oper) (size : Nat) (tr : Tr Value) (ρ0 : Ren) (w0 : World) (L : Nat → Loc) (H : Nat → AHeap) (S : Nat → Prop) (τ : Nat) (ρ : Ren) (a : Act) (w : World) : Prop where
  closed : Closed ops.toList S
  tau : isTau ops.toList τ = true
  tau_le : τ ≤ ops.size
  heavy : ∀ j, heavyAt ops.toList j = true → (S j ↔ j < τ)
  asz : a.tmps.size = size
  slots : ∀ t, t < size → ∃ k, k ≤ ops.size ∧ VRel ρ ((L k).look t (got (tr.get t))) (a.tmps.getD t undef) ∧ (∀ j, Wr ops t j → j < k → S j) ∧ (∀ j, Wr ops t j → k ≤ j → ¬ S j)
  le : ρ0.le ρ
  below : RowKit.Below base w0 w
  kept : ∀ c, c < w0.heap.size → (∀ b p, ρ0 b = some p → p.block ≠ c) → w.heap[c]? = w0.heap[c]?
  fresh : ∀ b p, ρ b = some p → ρ0 b = none → (H 0).next ≤ b ∧ (w0.heap.size ≤ p.block ∨ ∃ b₀ p₀, ρ0 b₀ = some p₀ ∧ p₀.block = p.block)
  same : ∀ b, b < (H 0).next → ρ0 b = none → (H τ).get b = (H 0).get b
  dom : ∀ b p, ρ b = some p → b < (H ops.size).next
  cont : ∀ b p k, ρ b = some p → τ ≤ k → k ≤ ops.size → b < (H k).next → (∀ k', τ ≤ k' → k' < k → (H k').next ≤ b) → ∃ o, (H k).get b = some o ∧ ORel P ρ p o w.heap[p.block]?
  size : ∀ b p, ρ b = some p → p.block < w.heap.size
  inj : ∀ b₁ b₂ p₁ p₂ o₁ o₂, ρ b₁ = some p₁ → ρ b₂ = some p₂ → (H τ).get b₁ = some o₁ → (H τ).get b₂ = some o₂ → o₁.rw = true → o₂.live = true → p₁.block = p₂.block → b₁ = b₂
  lo : ∀ b p o, ρ b = some p → (H τ).get b = some o → o.rw = true → base ≤ p.block
  own : ∀ b p, ρ b = some p → (H τ).next ≤ b → base ≤ p.block ∧ ∀ b₁ p₁, ρ b₁ = some p₁ → p₁.block = p.block → b₁ = b
  unmet : ∀ j b, j < ops.size → ¬ S j → (H j).next ≤ b → b < (H (j + 1)).next → ρ b = none ∧ (j < τ → (H τ).get b = (H (j + 1)).get b)
  met : ∀ j b, j < ops.size → S j → (H j).next ≤ b → b < (H (j + 1)).next → ∃ p, ρ b = some p

theorem least {p : Nat → Prop} {t : Nat} : ∀ {m : Nat}, t ≤ m → p m → ∃ k, t ≤ k ∧ k ≤ m ∧ p k ∧ ∀ k', t ≤ k' → k' < k → ¬ p k' := by
  intro m
  induction m using Nat.strongRecOn with
  | _ m ih =>
    intro h hp
    by_cases hq : ∃ k', t ≤ k' ∧ k' < m ∧ p k'
    · obtain ⟨k', h1, h2, h3⟩ := hq
      obtain ⟨k, h4, h5, h6⟩ := ih k' h2 h1 h3
      exact ⟨k, h4, by omega, h6⟩
    · exact ⟨m, h, Nat.le_refl _, hp, fun k' h1 h2 h3 => hq ⟨k', h1, h2, h3⟩⟩

section
variable {S : Nat → Prop} {τ : Nat} {ρ : Ren} {a : Act} {w : World}

/-- the heap at the next places is that of now -/
theorem Mid.fact (M : Mid P base ops size tr ρ0 w0 L H S τ ρ a w) (T : Txt P base inv ops size tr ρ0 w0 L H V) {m b : Nat} {p : Place} (h1 : τ ≤ m) (h2 : m ≤ ops.size) (hc : Calm ops.toList τ m) (hb : ρ b = some p) (hlt : b < (H m).next) :
    ∃ o, (H m).get b = some o ∧ ORel P ρ p o w.heap[p.block]? := by
  obtain ⟨k, k1, k2, k3, k4⟩ := least (p := fun k => b < (H k).next) h1 hlt
  obtain ⟨o, h3, h4⟩ := M.cont b p k hb k1 (by omega) k3 (fun k' h5 h6 => Nat.le_of_not_lt (k4 k' h5 h6))
  refine ⟨o, ?_, h4⟩
  rw [T.calm k2 h2 (fun j h5 h6 => hc j (by omega) h6) k3]
  exact h3

theorem Mid.rd (M : Mid P base ops size tr ρ0 w0 L H S τ ρ a w) (T : Txt P base inv ops size tr ρ0 w0 L H V) {m : Nat} (h1 : τ ≤ m) (h2 : m ≤ ops.size) (hc : Calm ops.toList τ m) : RdRel P ρ (H m).get w := by
  intro b p o hb ho
  obtain ⟨o', h3, h4⟩ := M.fact T h1 h2 hc hb (T.lt h2 ho)
  rw [h3] at ho; cases ho; exact h4

/-- what is known of the blocks that there are in the order of the text -/
theorem Mid.cut (M : Mid P base ops size tr ρ0 w0 L H S τ ρ a w) (T : Txt P base inv ops size tr ρ0 w0 L H V) {i : Nat} (h1 : τ ≤ i) (h2 : i ≤ ops.size) (hc : Calm ops.toList τ i) : Sim P base (ρ.cut (H i).next) (H i) w := by
  obtain ⟨ρ₂, w₂, a₂, g₂, _, _⟩ := T.hyp i h2
  have hd : ∀ b p, ρ₂ b = some p → b < (H i).next := fun b p hb => g₂.sim.dom hb
  have hcalm : ∀ b, b < (H τ).next → (H i).get b = (H τ).get b := fun b hb => T.calm h1 h2 hc hb
  refine ⟨⟨?_, ?_, ?_, ?_⟩, fun b hb => T.void h2 hb, Nat.le_trans T.start.room M.below.size⟩
  · intro b p hb
    obtain ⟨hlt, hb⟩ := Ren.cut_some hb
    obtain ⟨o, h3, h4⟩ := M.fact T h1 h2 hc hb hlt
    refine ⟨o, h3, ?_⟩
    have hq : ∃ q, ρ₂ b = some q := by
      cases h0 : ρ0 b with
      | some q => exact ⟨q, g₂.le _ _ h0⟩
      | none => exact g₂.ext.full b (M.fresh b p hb h0).1 hlt
    obtain ⟨q, hq⟩ := hq
    obtain ⟨o₂, h5, h6⟩ := g₂.sim.rel.obj b q hq
    rw [h3] at h5; cases h5
    exact h4.cut hd h6
  · intro b₁ b₂ p₁ p₂ o₁ o₂ k1 k2 g1 g2 l1 l2 hp
    obtain ⟨_, k1⟩ := Ren.cut_some k1
    obtain ⟨_, k2⟩ := Ren.cut_some k2
    rcases Nat.lt_or_ge b₁ (H τ).next with q1 | q1
    · rcases Nat.lt_or_ge b₂ (H τ).next with q2 | q2
      · rw [hcalm _ q1] at g1
        rw [hcalm _ q2] at g2
        exact M.inj _ _ _ _ _ _ k1 k2 g1 g2 l1 l2 hp
      · exact (M.own b₂ p₂ k2 q2).2 b₁ p₁ k1 hp
    · exact ((M.own b₁ p₁ k1 q1).2 b₂ p₂ k2 hp.symm).symm
  · intro b p hb; exact M.size b p (Ren.cut_some hb).2
  · intro b p o hb ho hrw
    obtain ⟨_, hb⟩ := Ren.cut_some hb
    rcases Nat.lt_or_ge b (H τ).next with q | q
    · rw [hcalm _ q] at ho; exact M.lo b p o hb ho hrw
    · exact (M.own b p hb q).1

/-- may operation i be carried out? -/
structure Ready (ops : Array Oper) (S : Nat → Prop) (i : Nat) (o : Oper) : Prop where
  at' : ops[i]? = some o
  un : ¬ S i
  before : ∀ e ∈ o.after.toList, Region.binds .any e = true → S e.on

theorem Ready.reach {i : Nat} {o : Oper} (R : Ready ops S i o) (hS : Closed ops.toList S) {j : Nat} (h : Reach ops.toList j i) : S j := by
  have ho := R.at'
  cases h with
  | edge ho' he hb =>
    rw [Array.getElem?_toList, ho] at ho'; cases ho'
    exact R.before _ he hb
  | trans ho' he hb h =>
    rw [Array.getElem?_toList, ho] at ho'; cases ho'
    exact hS.reach h (R.before _ he hb)

theorem Mid.looks (M : Mid P base ops size tr ρ0 w0 L H S τ ρ a w) (T : Txt P base inv ops size tr ρ0 w0 L H V) (hd : drawOk ops.toList = true) {i : Nat} {o : Oper} (R : Ready ops S i o) : Looks ρ ops o (L i) tr a := by
  intro t ht
  have hi := op_lt R.at'
  rcases Nat.lt_or_ge t size with hts | hts
  · obtain ⟨k, hk, h1, h2, h3⟩ := M.slots t hts
    have key : ∀ j, Wr ops t j → (j < k ↔ j < i) := by
      intro j ⟨o', ho', hdst⟩
      constructor
      · intro hj
        have hSj := h2 j ⟨o', ho', hdst⟩ hj
        rcases Nat.lt_trichotomy j i with h | h | h
        · exact h
        · subst h; exact absurd hSj R.un
        · have hr := order_of_meet hd h (by simpa using R.at') (by simpa using ho') (meet_look_dst hdst ht)
          exact absurd (M.closed.reach hr hSj) R.un
      · intro hj
        have hr := order_of_meet hd hj (by simpa using ho') (by simpa using R.at') (meet_dst_look hdst ht)
        have hSj := R.reach M.closed hr
        rcases Nat.lt_or_ge j k with h | h
        · exact h
        · exact absurd hSj (h3 j ⟨o', ho', hdst⟩ h)
    have hlook : (L k).look t (got (tr.get t)) = (L i).look t (got (tr.get t)) := by
      rcases Nat.le_total k i with h | h
      · exact (T.look h (by omega) fun j h4 h5 hw => by have := (key j hw).2 h5; omega).symm
      · exact T.look h hk fun j h4 h5 hw => by have := (key j hw).1 h5; omega
    rw [← hlook]; exact h1
  · rw [T.look_out hts (by omega)]
    have : a.tmps.getD t undef = undef := by rw [Array.getD, dif_neg (by rw [M.asz]; omega)]
    rw [this]
    exact (T.out t hts).mono M.le

/-- .. and of the blocks that there are in the order of the text -/
theorem Looks.cut (T : Txt P base inv ops size tr ρ0 w0 L H V) {i : Nat} {o : Oper} (hi : i ≤ ops.size) (h : Looks ρ ops o (L i) tr a) : Looks (ρ.cut (H i).next) ops o (L i) tr a := by
  obtain ⟨ρ₂, w₂, a₂, g₂, e₂, _⟩ := T.hyp i hi
  exact fun t ht => (h t ht).cut (fun b p hb => g₂.sim.dom hb) (e₂ t)

theorem Mid.slots' (M : Mid P base ops size tr ρ0 w0 L H S τ ρ a w) (T : Txt P base inv ops size tr ρ0 w0 L H V) (hd : drawOk ops.toList = true) {i : Nat} {o : Oper} (R : Ready ops S i o) {ρ' : Ren} {v' : Value} (hle : ρ.le ρ') (hv : VRel ρ' (V i) v') :
    ∀ t, t < size → ∃ k, k ≤ ops.size ∧ VRel ρ' ((L k).look t (got (tr.get t))) ((a.put o.dst v').tmps.getD t undef) ∧ (∀ j, Wr ops t j → j < k → S j ∨ j = i) ∧ (∀ j, Wr ops t j → k ≤ j → ¬ (S j ∨ j = i)) := by
  intro t ht
  have hi := op_lt R.at'
  by_cases hdst : o.dst = some t
  · refine ⟨i + 1, hi, ?_, ?_, ?_⟩
    · rw [T.put i o R.at', hdst, look_put_self ht]
      show VRel ρ' (V i) ((a.tmps.setIfInBounds t v').getD t undef)
      rw [getD_set, if_pos ⟨rfl, by rw [M.asz]; exact ht⟩]
      exact hv
    · intro j ⟨o', ho', hdst'⟩ hj
      rcases Nat.lt_or_ge j i with h | h
      · exact .inl (R.reach M.closed (order_of_meet hd h (by simpa using ho') (by simpa using R.at') (meet_dst_dst hdst' hdst)))
      · exact .inr (by omega)
    · intro j ⟨o', ho', hdst'⟩ hj hS
      rcases hS with hS | hS
      · exact R.un (M.closed.reach (order_of_meet hd (by omega : i < j) (by simpa using R.at') (by simpa using ho') (meet_dst_dst hdst hdst')) hS)
      · omega
  · obtain ⟨k, hk, h1, h2, h3⟩ := M.slots t ht
    refine ⟨k, hk, ?_, fun j hw hj => .inl (h2 j hw hj), ?_⟩
    · have : (a.put o.dst v').tmps.getD t undef = a.tmps.getD t undef := by
        cases hd' : o.dst with
        | none => rfl
        | some d =>
          show (a.tmps.setIfInBounds d v').getD t undef = _
          rw [getD_set, if_neg (fun q => hdst (by rw [hd', q.1]))]
      rw [this]; exact h1.mono hle
    · intro j hw hj hS
      rcases hS with hS | rfl
      · exact h3 j hw hj hS
      · obtain ⟨o', ho', hdst'⟩ := hw
        rw [R.at'] at ho'; cases ho'
        exact hdst hdst'

theorem Mid.closed' (M : Mid P base ops size tr ρ0 w0 L H S τ ρ a w) {i : Nat} {o : Oper} (R : Ready ops S i o) : Closed ops.toList fun j => S j ∨ j = i := by
  intro j o' e ho' he hb hj
  rcases hj with hj | rfl
  · exact .inl (M.closed j o' e ho' he hb hj)
  · rw [Array.getElem?_toList, R.at'] at ho'; cases ho'
    exact .inl (R.before e he hb)
end
end Go.Ev
