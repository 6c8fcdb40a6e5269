/- Contracts: times, Mul. -/
import Derived.Test.YtbldcoaenhplcaaDoorVF
import Derived.Test.YtbldcoaenhplcaaDoorVB
set_option linter.unusedSimpArgs false
set_option linter.unusedVariables false
namespace Go.Proofs.YtbldcoaenhplcaaDoor
open Go.Ev
theorem digsN_le {X k K : Nat} (h : digsN X k) (hX : X < 60 ^ K) : k ≤ K := by
  rcases h.2.2 with q | q
  · omega
  · apply Classical.byContradiction
    intro hh
    apply q
    have : 60 ^ K ≤ 60 ^ (k - 1) := Nat.pow_le_pow_right (by decide) (by omega)
    rw [Nat.div_eq_of_lt (by omega)]
theorem digsN_lt {X k : Nat} (hX : X < 60 ^ 146) (h : digsN X k) : X < 60 ^ k := by
  have := top_zero hX h
  rcases Nat.lt_or_ge X (60 ^ k) with q | q
  · exact q
  · have := Nat.div_pos q (pow60_pos k)
    omega
theorem ints_okL (k : IntKind) : ∀ l : List Int, okL (ints k l) = true
  | [] => rfl
  | x :: l => by
    show (okC (.int k x) && okL (ints k l)) = true
    rw [ints_okL k l]; rfl
theorem same_ints (k : IntKind) (l : List Int) : same (.agg (ints k l).toArray) (.agg (ints k l).toArray) = true := same_of rfl (ints_okL k l)
theorem valN_lt16 {l : List Int} (hv : valid l) (hl : l.length ≤ 16) : valN l < 60 ^ 16 := Nat.lt_of_lt_of_le (valN_lt hv.1) (Nat.pow_le_pow_right (by decide) hl)
theorem place_len {l : List Int} {e X K : Nat} (hl : valid l) (hn : l ≠ []) (h : valN l * 60 ^ e = X) (hX : X < 60 ^ K) : l.length + e ≤ K := by
  have h1 := valid_ge hl hn
  have h2 := Nat.mul_le_mul_right (60 ^ e) h1
  rw [← Nat.pow_add, h] at h2
  have := (Nat.pow_lt_pow_iff_right (by decide : 1 < 60)).1 (Nat.lt_of_le_of_lt h2 hX)
  have := List.length_pos_iff.2 hn
  omega
theorem placeE_zero {l : List Int} {s : Int} (hv : valid l) (hn : l ≠ []) (h1 : -64 ≤ s) (h2 : s ≤ 64) : (l.length ≤ 16 → placeE l s = 0) ∧ (16 < l.length → placeE l s ≠ 0) := by
  refine ⟨fun h => ?_, fun h => ?_⟩
  · rw [placeE, if_neg (fun h3 => h3 (valid_check hv h)), if_neg (fun h3 => h3 ⟨h1, h2⟩), if_neg (fun h3 => hn h3.1)]
  · have : checkE l = 3 := by rw [checkE, if_pos h]
    rw [placeE, this, if_pos (by decide)]
    decide
theorem valN_one : valN [1] = 1 := rfl
theorem lt_mul {a b : List Int} {i j k : Nat} (ha : valid a) (hb : valid b) (la : a.length ≤ i) (lb : b.length ≤ j) (h : i + j ≤ k) : valN a * valN b < 60 ^ k := by
  have h1 := Nat.lt_of_lt_of_le (valN_lt ha.1) (Nat.pow_le_pow_right (n := 60) (by decide) la)
  have h2 := Nat.lt_of_lt_of_le (valN_lt hb.1) (Nat.pow_le_pow_right (n := 60) (by decide) lb)
  have h3 := Nat.mul_lt_mul'' h1 h2
  rw [← Nat.pow_add] at h3
  exact Nat.lt_of_lt_of_le h3 (Nat.pow_le_pow_right (by decide) h)
theorem one_in {H : AHeap} {b : Nat} (hb : b < H.next) (hg : H.get b = some (.cells [.int .i64 1] 3 true)) : IIn H (.slice (some ⟨b, 0, none⟩) 1 (EX + 1)) [1] :=
  own_in (l := [1]) (b := b) (c := EX + 1) encI_len (by rw [capLo_ex]; exact Nat.le_refl _) (fun _ => hb) (fun _ => ⟨true, hg⟩)
theorem len0 {l : List Int} : ((l.length : Int) = 0) ↔ l = [] := by
  constructor
  · intro h; exact List.eq_nil_of_length_eq_zero (by omega)
  · intro h; rw [h]; rfl
end Go.Proofs.YtbldcoaenhplcaaDoor
