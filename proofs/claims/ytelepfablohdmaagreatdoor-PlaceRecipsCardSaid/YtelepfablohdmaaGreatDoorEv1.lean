/- A small evaluator for closed calls: a map from numbers. -/
import Derived.Calls
import Derived.Orders
set_option linter.unusedSimpArgs false
set_option linter.unusedVariables false
namespace Go.Ev
noncomputable section

/-- A map from numbers, as a tree over their digits. -/
inductive Tr (α : Type) where
  | lf
  | nd (v : Option α) (l r : Tr α)

namespace Tr
variable {α : Type}

/-- one step down the tree -/
def turn {β : Type} (here : β) (even odd : Nat → β) (n : Nat) : β :=
  Nat.rec (motive := fun _ => β) here (fun m _ => Bool.rec (motive := fun _ => β) (odd (Nat.div m 2)) (even (Nat.div m 2)) (Nat.beq (Nat.mod m 2) 0)) n

def get (t : Tr α) : Nat → Option α :=
  Tr.rec (motive := fun _ => Nat → Option α) (fun _ => none) (fun v _ _ gl gr n => turn v gl gr n) t

def fresh (f : Nat) : Nat → α → Tr α :=
  Nat.rec (motive := fun _ => Nat → α → Tr α) (fun _ _ => .lf) (fun _ ih n a => turn (.nd (some a) .lf .lf) (fun m => .nd none (ih m a) .lf) (fun m => .nd none .lf (ih m a)) n) f

def set (t : Tr α) : Nat → α → Tr α :=
  Tr.rec (motive := fun _ => Nat → α → Tr α) (fun n a => fresh (Nat.succ n) n a)
    (fun v l r sl sr n a => turn (.nd (some a) l r) (fun m => .nd v (sl m a) r) (fun m => .nd v l (sr m a)) n) t

/-- set, and what is done with the result: the path that was laid anew is there, cell by cell -/
def setK {β : Type} (t : Tr α) : Nat → α → (Tr α → β) → β :=
  Tr.rec (motive := fun _ => Nat → α → (Tr α → β) → β) (fun n a k => k (fresh (Nat.succ n) n a))
    (fun v l r sl sr n a k => turn (k (.nd (some a) l r)) (fun m => sl m a fun l => k (.nd v l r)) (fun m => sr m a fun r => k (.nd v l r)) n) t

theorem turn_zero {β : Type} (x : β) (f g : Nat → β) : turn x f g 0 = x := rfl
theorem turn_even {β : Type} (x : β) (f g : Nat → β) {m : Nat} (h : m % 2 = 0) : turn x f g (m + 1) = f (m / 2) := by
  have hb : Nat.beq (Nat.mod m 2) 0 = true := by rw [Nat.beq_eq]; exact h
  show Bool.rec (motive := fun _ => β) (g (m / 2)) (f (m / 2)) (Nat.beq (Nat.mod m 2) 0) = _
  rw [hb]
theorem turn_odd {β : Type} (x : β) (f g : Nat → β) {m : Nat} (h : ¬ m % 2 = 0) : turn x f g (m + 1) = g (m / 2) := by
  have hb : Nat.beq (Nat.mod m 2) 0 = false := by
    cases hh : Nat.beq (Nat.mod m 2) 0 with
    | false => rfl
    | true => exact absurd (Nat.eq_of_beq_eq_true hh) h
  show Bool.rec (motive := fun _ => β) (g (m / 2)) (f (m / 2)) (Nat.beq (Nat.mod m 2) 0) = _
  rw [hb]
theorem turn_map {β γ : Type} (k : β → γ) (x : β) (f g : Nat → β) (n : Nat) : k (turn x f g n) = turn (k x) (fun m => k (f m)) (fun m => k (g m)) n := by
  cases n with
  | zero => rfl
  | succ m => by_cases h : m % 2 = 0
              · rw [turn_even _ _ _ h, turn_even _ _ _ h]
              · rw [turn_odd _ _ _ h, turn_odd _ _ _ h]

theorem get_lf (n : Nat) : (Tr.lf : Tr α).get n = none := rfl
theorem get_nd (v : Option α) (l r : Tr α) (n : Nat) : (Tr.nd v l r).get n = turn v l.get r.get n := rfl
theorem setK_eq {β : Type} : ∀ (t : Tr α) (n : Nat) (a : α) (k : Tr α → β), setK t n a k = k (set t n a)
  | .lf, _, _, _ => rfl
  | .nd v l r, n, a, k => by
    show turn (k (.nd (some a) l r)) (fun m => setK l m a fun l => k (.nd v l r)) (fun m => setK r m a fun r => k (.nd v l r)) n = k (turn (Tr.nd (some a) l r) (fun m => Tr.nd v (l.set m a) r) (fun m => Tr.nd v l (r.set m a)) n)
    rw [turn_map k]
    simp only [setK_eq l, setK_eq r]

theorem get_fresh : ∀ (f n k : Nat) (a : α), n < f → (fresh f n a).get k = if n = k then some a else none
  | 0, _, _, _, h => absurd h (Nat.not_lt_zero _)
  | f + 1, n, k, a, h => by
    show (turn (Tr.nd (some a) .lf .lf) (fun m => Tr.nd none (fresh f m a) .lf) (fun m => Tr.nd none .lf (fresh f m a)) n).get k = _
    cases n with
    | zero =>
      rw [turn_zero, get_nd]
      cases k with
      | zero => rfl
      | succ k => by_cases hk : k % 2 = 0
                  · rw [turn_even _ _ _ hk]; rfl
                  · rw [turn_odd _ _ _ hk]; rfl
    | succ m =>
      have ih := get_fresh f (m / 2) (k := (k - 1) / 2) (a := a) (by omega)
      by_cases hm : m % 2 = 0
      · rw [turn_even _ _ _ hm, get_nd]
        cases k with
        | zero => rfl
        | succ k =>
          by_cases hk : k % 2 = 0
          · rw [turn_even _ _ _ hk, show k / 2 = (k + 1 - 1) / 2 from rfl, ih]
            by_cases e : m = k
            · rw [if_pos (by simp [e]), if_pos (by rw [e])]
            · rw [if_neg (by simp; omega), if_neg (by omega)]
          · rw [turn_odd _ _ _ hk, if_neg (by omega)]; rfl
      · rw [turn_odd _ _ _ hm, get_nd]
        cases k with
        | zero => rfl
        | succ k =>
          by_cases hk : k % 2 = 0
          · rw [turn_even _ _ _ hk, if_neg (by omega)]; rfl
          · rw [turn_odd _ _ _ hk, show k / 2 = (k + 1 - 1) / 2 from rfl, ih]
            by_cases e : m = k
            · rw [if_pos (by simp [e]), if_pos (by rw [e])]
            · rw [if_neg (by simp; omega), if_neg (by omega)]

theorem get_set : ∀ (t : Tr α) (n k : Nat) (a : α), (t.set n a).get k = if n = k then some a else t.get k
  | .lf, n, k, a => get_fresh (Nat.succ n) n k a (Nat.lt_succ_self _)
  | .nd v l r, n, k, a => by
    show (turn (Tr.nd (some a) l r) (fun m => Tr.nd v (l.set m a) r) (fun m => Tr.nd v l (r.set m a)) n).get k = if n = k then some a else turn v l.get r.get k
    cases n with
    | zero =>
      rw [turn_zero, get_nd]
      cases k with
      | zero => rfl
      | succ k => by_cases hk : k % 2 = 0
                  · rw [turn_even _ _ _ hk, turn_even _ _ _ hk]; rfl
                  · rw [turn_odd _ _ _ hk, turn_odd _ _ _ hk]; rfl
    | succ m =>
      have il := get_set l (m / 2) (k := (k - 1) / 2) (a := a)
      have ir := get_set r (m / 2) (k := (k - 1) / 2) (a := a)
      by_cases hm : m % 2 = 0
      · rw [turn_even _ _ _ hm, get_nd]
        cases k with
        | zero => rfl
        | succ k =>
          by_cases hk : k % 2 = 0
          · rw [turn_even _ _ _ hk, turn_even _ _ _ hk, show k / 2 = (k + 1 - 1) / 2 from rfl, il]
            by_cases e : m = k
            · rw [if_pos (by simp [e]), if_pos (by rw [e])]
            · rw [if_neg (by simp; omega), if_neg (by omega)]
          · rw [turn_odd _ _ _ hk, turn_odd _ _ _ hk, if_neg (by omega)]
      · rw [turn_odd _ _ _ hm, get_nd]
        cases k with
        | zero => rfl
        | succ k =>
          by_cases hk : k % 2 = 0
          · rw [turn_even _ _ _ hk, turn_even _ _ _ hk, if_neg (by omega)]
          · rw [turn_odd _ _ _ hk, turn_odd _ _ _ hk, show k / 2 = (k + 1 - 1) / 2 from rfl, ir]
            by_cases e : m = k
            · rw [if_pos (by simp [e]), if_pos (by rw [e])]
            · rw [if_neg (by simp; omega), if_neg (by omega)]
end Tr
end
end Go.Ev
