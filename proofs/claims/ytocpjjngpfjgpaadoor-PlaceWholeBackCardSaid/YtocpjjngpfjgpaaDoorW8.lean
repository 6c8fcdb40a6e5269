/- Parts of slices. -/
import Derived.Test.YtocpjjngpfjgpaaDoorW7
set_option linter.unusedSimpArgs false
set_option linter.unusedVariables false
namespace Go.Ev
variable {P : Program} {E : Loc} {h : AHeap}
theorem evO_n (e : Operand → Value) : evO e none = none := rfl
theorem evO_s (e : Operand → Value) (x : Operand) : evO e (some x) = some (e x) := rfl
attribute [push_cast] evO_n evO_s
theorem bounds_to {c n k : Nat} (hk : k ≤ c) : boundsOf c n none (some (.int .i64 (k : Int))) none = some (0, k, c) := by
  show cond (Nat.ble 0 k && Nat.ble k c && Nat.ble c c && (!false || true)) (some (0, k, c)) none = _
  rw [ble_yes (Nat.le_refl c), ble_yes (Nat.zero_le k), ble_yes hk]
  rfl
theorem bounds_from {c n k : Nat} (hk : k ≤ n) (hn : n ≤ c) : boundsOf c n (some (.int .i64 (k : Int))) none none = some (k, n, c) := by
  show cond (Nat.ble k n && Nat.ble n c && Nat.ble c c && (!false || false)) (some (k, n, c)) none = _
  rw [ble_yes (Nat.le_refl c), ble_yes hk, ble_yes hn]
  rfl
section
variable {α : Type} {enc : α → List Value} {k e : Nat}
/-- the first elements -/
theorem slice_to {v : Value} {l : List α} (hv : SlIn enc k e h v l) {j : Nat} (hj : j ≤ l.length) : ∃ v', (∀ H, sliceSl H e k v none (some (.int .i64 (j : Int))) none = some (v', H)) ∧ SlIn enc k e h v' (l.take j) := by
  obtain ⟨a, c, rfl, hc, hv⟩ := hv
  have hb := bounds_to (c := capLo c) (n := l.length) (k := j) (by omega)
  have hlen : (l.take j).length = j := by rw [List.length_take]; omega
  cases a with
  | none =>
    have hl : l = [] := Classical.byContradiction fun hne => by obtain ⟨b, off, all, rw', h1, _⟩ := hv hne; cases h1
    subst hl
    have hj0 : j = 0 := Nat.le_zero.1 hj
    subst hj0
    exact ⟨.slice none 0 0, fun H => by unfold sliceSl; dsimp only; rw [hb]; rfl, none, 0, rfl, Nat.zero_le _, fun h => absurd rfl h⟩
  | some a =>
    obtain ⟨b, off, sp⟩ := a
    cases sp with
    | some sp =>
      have hl : l = [] := Classical.byContradiction fun hne => by obtain ⟨b, off, all, rw', h1, _⟩ := hv hne; cases h1
      subst hl
      have hj0 : j = 0 := Nat.le_zero.1 hj
      subst hj0
      exact ⟨.slice (some junk) 0 0, fun H => by unfold sliceSl; dsimp only; rw [hb]; rfl, some junk, 0, rfl, Nat.zero_le _, fun h => absurd rfl h⟩
    | none =>
      refine ⟨.slice (some ⟨b, off, none⟩) j c, fun H => by unfold sliceSl; dsimp only; rw [hb]; rfl, some ⟨b, off, none⟩, c, by rw [hlen], by rw [hlen]; omega, fun hne => ?_⟩
      have hl : l ≠ [] := fun h0 => hne (by rw [h0]; simp)
      obtain ⟨b', off', all, rw', h1, h2, h3, h4⟩ := hv hl
      refine ⟨b', off', all, rw', h1, h2, h3, fun i hi => ?_⟩
      rw [hlen] at hi
      rw [h4 i (by omega), List.getElem_take]
/-- the elements from j on -/
theorem slice_from {v : Value} {l : List α} (hv : SlIn enc k e h v l) {j : Nat} (hj : j ≤ l.length) : ∃ v', (∀ H, Gr h H → sliceSl H e k v (some (.int .i64 (j : Int))) none none = some (v', H)) ∧ SlIn enc k e h v' (l.drop j) := by
  have hv0 := hv
  obtain ⟨a, c, rfl, hc, hv⟩ := hv
  have hb := bounds_from (c := capLo c) (n := l.length) (k := j) hj hc
  have hlen : (l.drop j).length = l.length - j := List.length_drop
  cases a with
  | none =>
    have hl : l = [] := Classical.byContradiction fun hne => by obtain ⟨b, off, all, rw', h1, _⟩ := hv hne; cases h1
    subst hl
    exact ⟨.slice none 0 0, fun H _ => by unfold sliceSl; dsimp only; rw [hb]; rfl, none, 0, by simp, by simp, fun h => absurd (by simp) h⟩
  | some a =>
    obtain ⟨b, off, sp⟩ := a
    cases sp with
    | some sp =>
      have hl : l = [] := Classical.byContradiction fun hne => by obtain ⟨b, off, all, rw', h1, _⟩ := hv hne; cases h1
      subst hl
      exact ⟨.slice (some junk) 0 0, fun H _ => by unfold sliceSl; dsimp only; rw [hb]; rfl, some junk, 0, by simp, by simp, fun h => absurd (by simp) h⟩
    | none =>
      rcases Nat.eq_zero_or_pos j with h0 | h0
      · subst h0
        exact ⟨.slice (some ⟨b, off, none⟩) l.length c, fun H _ => by unfold sliceSl; dsimp only; rw [hb]; rfl, by simpa using hv0⟩
      · have e0 : Nat.beq j 0 = false := by cases j with | zero => omega | succ j => rfl
        rcases Nat.lt_or_ge j l.length with hlt | hge
        · have hne : l ≠ [] := fun h => by rw [h] at hlt; exact absurd hlt (Nat.not_lt_zero j)
          obtain ⟨b', off', all, rw', h1, h2, h3, h4⟩ := hv hne
          cases h1
          have e1 : Nat.beq l.length j = false := by
            cases hb : Nat.beq l.length j with
            | false => rfl
            | true => have := Nat.eq_of_beq_eq_true hb; omega
          refine ⟨.slice (some ((⟨b, off, none⟩ : Addr).add (j * k))) (l.length - j) (cond (false || isEx c) (EX + (capLo c - j)) (capLo c - j)), fun H g => ?_, some ((⟨b, off, none⟩ : Addr).add (j * k)), cond (false || isEx c) (EX + (capLo c - j)) (capLo c - j), by rw [hlen], ?_, fun _ => ⟨b, off + j * k, all, rw', by rw [addr_plus], h2, h3, fun i hi => ?_⟩⟩
          · unfold sliceSl
            dsimp only
            rw [hb]
            dsimp only
            rw [e0, e1]
            cases hx : isEx c with
            | true => rfl
            | false =>
              show rd H (some (b, _)) = _
              unfold rd
              dsimp only
              rw [g.2 b h2, h3]
              dsimp only
              rw [Nat.beq_refl]
              rfl
          · rw [hlen]
            cases hx : isEx c with
            | true => show _ ≤ capLo (EX + (capLo c - j)); rw [capLo_ex]; exact Nat.sub_le_sub_right hc j
            | false =>
              show _ ≤ capLo (capLo c - j)
              have hlt : c < EX := by
                rcases Nat.lt_or_ge c EX with h | h
                · exact h
                · have : isEx c = true := ble_yes h
                  rw [hx] at this; cases this
              have e2 := (capLo_small hlt).1
              have e3 := (capLo_small (Nat.lt_of_le_of_lt (Nat.sub_le c j) hlt)).1
              rw [e2, e3]
              rw [e2] at hc
              exact Nat.sub_le_sub_right hc j
          · rw [hlen] at hi
            rw [show off + j * k + i * k = off + (j + i) * k by rw [Nat.add_mul]; omega, h4 (j + i) (by omega), List.getElem_drop]
        · have hjl : j = l.length := by omega
          subst hjl
          exact ⟨.slice (some junk) 0 0, fun H _ => by unfold sliceSl; dsimp only; rw [hb]; dsimp only; rw [e0, Nat.beq_refl]; rfl, some junk, 0, by simp, by simp, fun h => absurd (by simp) h⟩
end
end Go.Ev
