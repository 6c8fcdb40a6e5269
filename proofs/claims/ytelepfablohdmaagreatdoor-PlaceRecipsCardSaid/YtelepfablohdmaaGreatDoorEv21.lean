/- The evaluator: a region that draws its order, from its start to its end. -/
import Derived.Test.YtelepfablohdmaaGreatDoorEv20
set_option linter.unusedSimpArgs false
set_option linter.unusedVariables false
namespace Go.Ev

variable {P : Program} {base : Nat} {inv : Inv} {ops : Array Oper} {size : Nat} {tr : Tr Value} {ρ0 : Ren} {w0 : World} {L : Nat → Loc} {H : Nat → AHeap} {V : Nat → Value}
variable {S : Nat → Prop} {τ : Nat} {ρ : Ren} {a : Act} {w : World}

/-- what is read again is the same -/
def Again (P : Program) (inv : Inv) (ops : Array Oper) (tr : Tr Value) (L : Nat → Loc) (H : Nat → AHeap) (V : Nat → Value) : Prop :=
  ∀ i o m, ops[i]? = some o → m ∈ needs ops.toList i → m ≤ ops.size ∧ ∃ g, oneOp P inv ops.toList o (L i) tr (H m) = some (V i, g)

theorem Mid.step (M : Mid P base ops size tr ρ0 w0 L H S τ ρ a w) (T : Txt P base inv ops size tr ρ0 w0 L H V) (hd : drawOk ops.toList = true) (hinv : InvOk P inv) (hg : Again P inv ops tr L H V) {i : Nat} {o : Oper} (R : Ready ops S i o) :
    ∃ τ' ρ' v' w', StepOk P ops a o w v' w' ∧ Mid P base ops size tr ρ0 w0 L H (fun j => S j ∨ j = i) τ' ρ' (a.put o.dst v') w' := by
  have hi := op_lt R.at'
  cases hk : isHeavy (kindOf o.op) with
  | true =>
    obtain ⟨ρ', v', w', h1, h2⟩ := M.writes T hd hinv R hk
    exact ⟨_, ρ', v', w', h1, h2⟩
  | false =>
    have hlooks := M.looks T hd R
    have hread : isRead (kindOf o.op) = true → ∃ g g', RdRel P ρ g.get w ∧ oneOp P inv ops.toList o (L i) tr g = some (V i, g') := fun hr => by
      have hra : readAt ops.toList i = true := by
        unfold readAt
        rw [nth_eq, show ops.toList[i]? = some o by simpa using R.at']
        exact hr
      obtain ⟨m, h1, h2, h3⟩ := read_place hra M.tau (by simpa using M.tau_le) (mayAt_of M.closed M.heavy (fun j hj => R.reach M.closed hj) R.un)
      rcases h3 with rfl | h3
      · exact ⟨H m, _, M.rd T h1 (by omega) h2, T.run m o R.at'⟩
      · obtain ⟨h4, g, h5⟩ := hg i o m R.at' h3
        exact ⟨H m, g, M.rd T h1 h4 h2, h5⟩
    rcases one_light hk hlooks hread (T.run i o R.at') with ⟨h0, v', h1, h2⟩ | ⟨ob, h1, h2⟩
    · exact ⟨τ, ρ, v', w, h1, M.quiet T hd R hk h0 h2⟩
    · have hnone : ρ (H i).next = none := (M.unmet i _ hi R.un (Nat.le_refl _) (by rw [h1]; exact Nat.lt_succ_self _)).1
      obtain ⟨v', o', esz, total, h3, h4, h5⟩ := h2 hnone
      exact ⟨τ, _, v', _, h3, M.makes T hd R hk h1 h4 h5⟩

/-- how many are left -/
def left (p : Nat → Bool) : Nat → Nat
  | 0 => 0
  | n + 1 => left p n + (if p n then 1 else 0)
theorem left_congr {p q : Nat → Bool} : ∀ {n : Nat}, (∀ j, j < n → p j = q j) → left p n = left q n
  | 0, _ => rfl
  | n + 1, h => by
    show left p n + _ = left q n + _
    rw [left_congr fun j hj => h j (by omega), h n (Nat.lt_succ_self n)]
theorem left_set {p q : Nat → Bool} {i : Nat} (hp : p i = true) (hq : q i = false) (h : ∀ j, j ≠ i → q j = p j) : ∀ {n : Nat}, i < n → left q n + 1 = left p n
  | 0, hi => absurd hi (Nat.not_lt_zero _)
  | n + 1, hi => by
    show left q n + (if q n then 1 else 0) + 1 = left p n + (if p n then 1 else 0)
    rcases Nat.lt_or_ge i n with h1 | h1
    · have := left_set hp hq h h1
      rw [h n (by omega)]
      omega
    · have : i = n := by omega
      subst this
      rw [hp, hq, left_congr (p := q) (q := p) fun j hj => h j (by omega)]
      simp
theorem left_zero {p : Nat → Bool} : ∀ {n : Nat}, left p n = 0 → ∀ j, j < n → p j = false
  | 0, _, j, hj => absurd hj (Nat.not_lt_zero _)
  | n + 1, h, j, hj => by
    have h' : left p n + (if p n then 1 else 0) = 0 := h
    rcases Nat.lt_or_ge j n with h1 | h1
    · exact left_zero (by omega) j h1
    · rw [show j = n by omega]
      cases hp : p n with
      | false => rfl
      | true => rw [hp] at h'; simp at h'

def Listed (listed : Array Bool) (j : Nat) : Prop := listed.getD j false = true

theorem listed_lt {listed : Array Bool} {j : Nat} (h : j < listed.size) : listed.getD j true = listed.getD j false := by simp [Array.getD, h]

theorem listed_set {listed : Array Bool} {i j : Nat} (hi : i < listed.size) : Listed (listed.setIfInBounds i true) j ↔ Listed listed j ∨ j = i := by
  unfold Listed
  simp only [Array.getD_eq_getD_getElem?, Array.getElem?_setIfInBounds]
  by_cases h : i = j
  · subst h; simp [hi]
  · simp [h, Ne.symm h]

theorem edges_lt {l : List Oper} (hd : drawOk l = true) {j : Nat} {o : Oper} (ho : l[j]? = some o) {e : Edge} (he : e ∈ o.after.toList) (hb : Region.binds .any e = true) : e.on < j := by
  have hj : j < l.length := by
    rcases Nat.lt_or_ge j l.length with h | h
    · exact h
    · rw [List.getElem?_eq_none h] at ho; cases ho
  have h1 := (ble_and (allBelow_iff.1 hd j hj)).1
  rw [nth_eq, ho] at h1
  dsimp only at h1
  revert h1 he
  generalize o.after.toList = es
  intro he h1
  induction es with
  | nil => cases he
  | cons x es ih =>
    have h2 : (Bool.rec (motive := fun _ => Bool) (edgesOk j es) (Bool.rec (motive := fun _ => Bool) false (edgesOk j es) (Nat.blt x.on j)) (Region.binds .any x) : Bool) = true := h1
    cases he with
    | head =>
      rw [hb] at h2
      cases hlt : Nat.blt e.on j with
      | true => exact blt_lt hlt
      | false => rw [hlt] at h2; cases h2
    | tail _ he =>
      refine ih he ?_
      cases hb' : Region.binds .any x with
      | false => rw [hb'] at h2; exact h2
      | true =>
        rw [hb'] at h2
        cases hlt : Nat.blt x.on j with
        | true => rw [hlt] at h2; exact h2
        | false => rw [hlt] at h2; cases h2

/-- when nothing may follow, nothing is left -/
theorem all_listed (hd : drawOk ops.toList = true) {listed : Array Bool} (hsz : listed.size = ops.size) (hr : Region.ready .any ops listed = []) : ∀ j, j < ops.size → Listed listed j := by
  intro j
  induction j using Nat.strongRecOn with
  | _ j ih =>
    intro hj
    cases hl : listed.getD j false with
    | true => exact hl
    | false =>
      obtain ⟨o, ho⟩ := op_at hj
      have : j ∈ Region.ready .any ops listed := mem_ready.2 ⟨by rw [listed_lt (by omega)]; exact hl, o, ho, fun e he hb => by
        have hlt := edges_lt hd (by simpa using ho) (by simpa using he) hb
        exact ih e.on hlt (by omega)⟩
      rw [hr] at this
      cases this

theorem drawn_go (T : Txt P base inv ops size tr ρ0 w0 L H V) (hd : drawOk ops.toList = true) (hinv : InvOk P inv) (hg : Again P inv ops tr L H V) {b : Frame} {k : List Item} :
    ∀ (fuel t : Nat) (listed : Array Bool) (τ : Nat) (ρ : Ren) (a : Act) (w : World), listed.size = ops.size → left (fun j => !listed.getD j false) ops.size ≤ fuel → Mid P base ops size tr ρ0 w0 L H (Listed listed) τ ρ a w →
    ∃ τ' ρ' a' w' listed', (∀ cs, Steps P (lone (b.atR a (.inRegion ops (Region.linearise.go .any ops fuel t listed []) :: k)) cs w) (lone (b.atR a' k) cs w')) ∧ Mid P base ops size tr ρ0 w0 L H (Listed listed') τ' ρ' a' w' ∧ (∀ j, j < ops.size → Listed listed' j) ∧ a'.defers = a.defers := by
  intro fuel
  induction fuel with
  | zero =>
    intro t listed τ ρ a w hsz hl M
    refine ⟨τ, ρ, a, w, listed, fun cs => by simpa [Region.linearise.go] using Steps.one stepR_region_end, M, fun j hj => ?_, rfl⟩
    have := left_zero (Nat.le_zero.1 hl) j hj
    simpa [Listed] using this
  | succ fuel ih =>
    intro t listed τ ρ a w hsz hl M
    simp only [Region.linearise.go]
    change ∃ τ' ρ' a' w' listed', (∀ cs, Steps P (lone (b.atR a (.inRegion ops (match (Region.ready .any ops listed)[t % (Region.ready .any ops listed).length]? with
      | some i => Region.linearise.go .any ops fuel (t / (Region.ready .any ops listed).length) (listed.setIfInBounds i true) [i]
      | none => [].reverse) :: k)) cs w) _) ∧ _
    cases hi : (Region.ready .any ops listed)[t % (Region.ready .any ops listed).length]? with
    | none =>
      have hnil : Region.ready .any ops listed = [] := by
        cases hr : Region.ready .any ops listed with
        | nil => rfl
        | cons x xs =>
          rw [hr] at hi
          have hlt : t % (x :: xs).length < (x :: xs).length := Nat.mod_lt _ (by simp)
          simp at hi
          simp at hlt
          omega
      exact ⟨τ, ρ, a, w, listed, fun cs => .one stepR_region_end, M, all_listed hd hsz hnil, rfl⟩
    | some i =>
      simp only []
      rw [linearise_go_acc, List.reverse_singleton, List.singleton_append]
      have hmem := List.mem_of_getElem? hi
      obtain ⟨hun, o, ho, hall⟩ := mem_ready.1 hmem
      have hlt := op_lt ho
      have hun' : listed.getD i false = false := by rw [← listed_lt (by omega)]; exact hun
      have R : Ready ops (Listed listed) i o := ⟨ho, by unfold Listed; rw [hun']; simp, fun e he hb => hall e (by simpa using he) hb⟩
      obtain ⟨τ₁, ρ₁, v', w₁, h1, h2⟩ := M.step T hd hinv hg R
      have hS : (fun j => Listed listed j ∨ j = i) = Listed (listed.setIfInBounds i true) := funext fun j => propext (listed_set (by omega)).symm
      rw [hS] at h2
      obtain ⟨τ', ρ', a', w', listed', h3, h4, h5, h6⟩ := ih (t / (Region.ready .any ops listed).length) (listed.setIfInBounds i true) τ₁ ρ₁ (a.put o.dst v') w₁ (by rw [Array.size_setIfInBounds]; exact hsz) (by
        have := left_set (p := fun j => !listed.getD j false) (q := fun j => !(listed.setIfInBounds i true).getD j false) (i := i) (by simp [hun']) (by
          have : Listed (listed.setIfInBounds i true) i := (listed_set (by omega)).2 (.inr rfl)
          unfold Listed at this; simp only [this, Bool.not_true]) (fun j hj => by simp only [getD_set_ne false (Ne.symm hj)]) hlt
        omega) h2
      exact ⟨τ', ρ', a', w', listed', fun cs => (h1.steps ho).trans (h3 cs), h4, h5, by rw [h6]; cases o.dst <;> rfl⟩

theorem Mid.done (M : Mid P base ops size tr ρ0 w0 L H S τ ρ a w) (T : Txt P base inv ops size tr ρ0 w0 L H V) (hS : ∀ j, j < ops.size → S j) : Went P base ρ0 (H 0) w0 ρ (H ops.size) w ∧ EnvRel ρ (L ops.size) tr a.tmps := by
  have hcalm : Calm ops.toList τ ops.size := fun j h1 h2 => by
    cases hj : heavyAt ops.toList j with
    | false => rfl
    | true => have := (M.heavy j hj).1 (hS j h2); omega
  have hcut := M.cut T M.tau_le (Nat.le_refl _) hcalm
  have hρ : ρ.cut (H ops.size).next = ρ := funext fun b => by
    unfold Ren.cut
    split
    · rfl
    · rename_i h
      cases hb : ρ b with
      | none => rfl
      | some p => exact absurd (M.dom b p hb) h
  rw [hρ] at hcut
  refine ⟨⟨hcut, M.le, M.below, M.kept, M.fresh, T.mono' (Nat.zero_le _) (Nat.le_refl _), fun b hb h0 => ?_, fun b h1 h2 => ?_⟩, fun t => ?_⟩
  · rw [T.calm M.tau_le (Nat.le_refl _) hcalm (Nat.lt_of_lt_of_le hb (T.mono' (Nat.zero_le _) M.tau_le))]
    exact M.same b hb h0
  · obtain ⟨j, h3, h4, h5, h6⟩ := least (p := fun j => b < (H j).next) (Nat.zero_le _) h2
    cases j with
    | zero => exact absurd h1 (Nat.not_le.2 h5)
    | succ j => exact M.met j b (by omega) (hS j (by omega)) (Nat.le_of_not_lt (h6 j (Nat.zero_le _) (Nat.lt_succ_self j))) h5
  · rcases Nat.lt_or_ge t size with ht | ht
    · obtain ⟨k, hk, h1, h2, h3⟩ := M.slots t ht
      rw [T.look hk (Nat.le_refl _) fun j h4 h5 hw => h3 j hw h4 (hS j h5)]
      exact h1
    · rw [T.look_out ht (Nat.le_refl _)]
      have : a.tmps.getD t undef = undef := by rw [Array.getD, dif_neg (by rw [M.asz]; omega)]
      rw [this]
      exact (T.out t ht).mono M.le
end Go.Ev
