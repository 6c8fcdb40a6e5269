/- One element more in a list that has some. -/
import Derived.Test.YtocpjjngpfjgpaaDoorW10
set_option linter.unusedSimpArgs false
set_option linter.unusedVariables false
namespace Go.Ev
section
variable {α : Type} {enc : α → List Value} {k e bytes : Nat}
theorem optP_more {h : AHeap} {l : List α} {b bn e' c c' : Nat} {x : α} {rw' : Bool} {Q : Value → AHeap → Prop} (hk : ∀ x, (enc x).length = k) (hf : ∀ x, allFlat (enc x) = true) (hne : l ≠ []) (hn : l.length ≤ 300000) (hb : bytes ≤ 1000) (hc : capLo c = l.length) (hg : h.get b = some (.cells (flatE enc l) e true)) (hx : h.get bn = some (.cells (enc x) e' rw'))
    (q : ∀ H, H.next = h.next + 1 → H.get h.next = some (.cells (flatE enc (l ++ [x])) e true) → (∀ c, c < h.next → c ≠ b → H.get c = h.get c) → Q (.slice (some ⟨h.next, 0, none⟩) (l ++ [x]).length (l ++ [x]).length) H) :
    OptP (appendS h e k bytes (some ⟨b, 0, none⟩) l.length c (.slice (some ⟨bn, 0, none⟩) 1 c')) Q := by
  have hcx : cut (enc x) 0 (1 * k) = some (enc x) := by
    have hl := hk x
    rw [Nat.one_mul, ← hl, cut_len (by omega), List.drop_zero, List.take_of_length_le (by omega)]
  have hcut : cut (flatE enc l) 0 (l.length * k) = some (flatE enc l) := by
    have hl := flatE_length hk l
    rw [← hl, cut_len (by omega), List.drop_zero, List.take_of_length_le (by omega)]
  have hsz : (2 * (l.length + 1) + 1000) * bytes ≤ 100000000000000 := by
    have := Nat.mul_le_mul (show 2 * (l.length + 1) + 1000 ≤ 1601000 by omega) hb
    omega
  have hfl : flatE enc (l ++ [x]) = flatE enc l ++ enc x := by rw [flatE_append, flatE_one]
  rw [appendS_eq (m := 1) (new := enc x) rfl (src_at hx hcx) (hf x)]
  unfold appendIn
  rw [hc, ble_no (show l.length < l.length + 1 by omega), ble_yes hsz, ble_yes (show l.length + 1 ≤ 1000000000000 by omega)]
  show OptP (appendNew h e k ⟨b, 0, none⟩ l.length c (enc x) (l.length + 1)) Q
  unfold appendNew
  rw [hg]
  dsimp only
  rw [hcut]
  dsimp only
  have hlen : (l ++ [x]).length = l.length + 1 := by simp
  cases isEx c with
  | true =>
    refine optP_some ?_
    have := q (h.new (.cells (flatE enc l ++ enc x) e true)) rfl (by rw [get_new, if_pos rfl, hfl]) fun c hc hne => by rw [get_new, if_neg (by omega)]
    rw [hlen] at this
    exact this
  | false =>
    rw [Nat.beq_refl]
    refine optP_some ?_
    have := q ((h.set b .dead).new (.cells (flatE enc l ++ enc x) e true)) rfl (by rw [get_new, next_set, if_pos rfl, hfl]) fun c hc hne => by rw [get_new, if_neg (by rw [next_set]; omega), get_setH, if_neg (fun h => hne h.symm)]
    rw [hlen] at this
    exact this
end
end Go.Ev
