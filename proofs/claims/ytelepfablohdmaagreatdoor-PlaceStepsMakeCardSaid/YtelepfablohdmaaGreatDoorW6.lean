/- Arguments in memory: blocks that are only read; slices whose elements are plain cells. -/
import Derived.Test.YtelepfablohdmaaGreatDoorW5
import Derived.Carry
import Derived.SizedLaws
import Derived.WalkKit
import Derived.ProofKit
set_option linter.unusedSimpArgs false
set_option linter.unusedVariables false
namespace Go.Ev
open Go.ChangeShapes Go.WideShapes Go.ChangeAt Go.RowKit

/-- elements, cell by cell -/
def flatE {α : Type} (enc : α → List Value) (l : List α) : List Value := l.flatMap enc
theorem flatE_cons {α : Type} (enc : α → List Value) (x : α) (l : List α) : flatE enc (x :: l) = enc x ++ flatE enc l := rfl
theorem flatE_append {α : Type} (enc : α → List Value) (l m : List α) : flatE enc (l ++ m) = flatE enc l ++ flatE enc m := by simp [flatE]
theorem flatE_length {α : Type} {enc : α → List Value} {k : Nat} (hk : ∀ x, (enc x).length = k) : ∀ l : List α, (flatE enc l).length = l.length * k
  | [] => by simp [flatE]
  | x :: l => by rw [flatE_cons, List.length_append, hk, flatE_length hk l, List.length_cons, Nat.succ_mul, Nat.add_comm]
theorem flatE_drop {α : Type} {enc : α → List Value} {k : Nat} (hk : ∀ x, (enc x).length = k) : ∀ (l : List α) (i : Nat), i ≤ l.length → (flatE enc l).drop (i * k) = flatE enc (l.drop i)
  | l, 0, _ => by simp
  | [], i + 1, h => absurd h (Nat.not_succ_le_zero i)
  | x :: l, i + 1, h => by
    rw [flatE_cons, List.drop_append, hk, List.drop_eq_nil_of_le (by rw [hk, Nat.succ_mul]; omega), List.nil_append, show (i + 1) * k - k = i * k by rw [Nat.succ_mul]; omega, flatE_drop hk l i (Nat.le_of_succ_le_succ h)]
    rfl
theorem flatE_cut {α : Type} {enc : α → List Value} {k : Nat} (hk : ∀ x, (enc x).length = k) (l : List α) {i : Nat} (hi : i < l.length) : cut (flatE enc l) (i * k) k = some (enc l[i]) := by
  have hlen := flatE_length hk l
  have h1 : i * k + k ≤ l.length * k := by
    have := Nat.mul_le_mul_right k (show i + 1 ≤ l.length from hi)
    rw [Nat.succ_mul] at this; exact this
  rw [cut_len (by rw [hlen]; exact h1), flatE_drop hk l i (Nat.le_of_lt hi), List.drop_eq_getElem_cons hi, flatE_cons, List.take_append_of_le_length (by rw [hk]; exact Nat.le_refl _), List.take_of_length_le (by rw [hk]; exact Nat.le_refl _)]

/-- a slice that may be read: its elements -/
def SlIn {α : Type} (enc : α → List Value) (k e : Nat) (h : AHeap) (v : Value) (l : List α) : Prop :=
  ∃ a c, v = .slice a l.length c ∧ l.length ≤ capLo c ∧ (l ≠ [] → ∃ b off all rw, a = some ⟨b, off, none⟩ ∧ b < h.next ∧ h.get b = some (.cells all e rw) ∧ ∀ i (hi : i < l.length), cut all (off + i * k) k = some (enc l[i]))
theorem SlIn.gr {α : Type} {enc : α → List Value} {k e : Nat} {h h' : AHeap} {v : Value} {l : List α} (hv : SlIn enc k e h v l) (g : h.next ≤ h'.next ∧ ∀ b, b < h.next → h'.get b = h.get b) : SlIn enc k e h' v l := by
  obtain ⟨a, c, rfl, hc, hv⟩ := hv
  refine ⟨a, c, rfl, hc, fun hne => ?_⟩
  obtain ⟨b, off, all, rw', h1, h2, h3, h4⟩ := hv hne
  exact ⟨b, off, all, rw', h1, Nat.lt_of_lt_of_le h2 g.1, by rw [g.2 b h2]; exact h3, h4⟩

section
variable {P : Program} {w : World} {H : Type} {enc : TypeId × Value → H}

end
end Go.Ev
