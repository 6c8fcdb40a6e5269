/- Ratios as fractions: the field. -/
import Derived.Test.YtgaglaplilpgfaaQ8
import Derived.Test.YtgaglaplilpgfaaG5
set_option linter.unusedSimpArgs false
set_option linter.unusedVariables false
namespace Go.Proofs.Ytgaglaplilpgfaa
open Go.Ev
theorem ratQ_F {N D : Int} (hD : D ≠ 0) : ratQ N D = ratF N D := by
  rw [ratQ, ratF, if_neg hD]
  by_cases hN : N = 0
  · subst hN
    rw [if_pos rfl, mkR]
    have h1 : (0 : Int).natAbs.gcd D.natAbs = D.natAbs := Nat.gcd_zero_left _
    have h2 : 0 < D.natAbs := by omega
    rw [h1, show (0 : Int).natAbs / D.natAbs = 0 from Nat.zero_div _, Nat.div_self h2, if_neg (by decide), if_neg (by decide)]
    split <;> rfl
  · rw [if_neg hN]; rfl
/-- equal fractions make the same ratio -/
theorem ratF_eq {N D n d : Int} (hD : D ≠ 0) (hd : d ≠ 0) (e : N * d = n * D) : ratF N D = ratF n d := by
  by_cases hN : N = 0
  · have hn : n = 0 := by
      rw [hN, Int.zero_mul] at e
      rcases Int.mul_eq_zero.1 e.symm with h | h
      · exact h
      · exact absurd h hD
    rw [← ratQ_F hD, ← ratQ_F hd, ratQ, ratQ, if_pos hN, if_pos hn]
  · have hn : n ≠ 0 := by
      intro h
      rw [h, Int.zero_mul] at e
      rcases Int.mul_eq_zero.1 e with h | h
      · exact hN h
      · exact hd h
    have hg : 0 < n.natAbs.gcd d.natAbs := gcd_pos' (by omega)
    have hg2 : 0 < N.natAbs.gcd D.natAbs := gcd_pos' (by omega)
    -- both are the fraction in lowest terms
    have c1 : Nat.gcd (n.natAbs / n.natAbs.gcd d.natAbs) (d.natAbs / n.natAbs.gcd d.natAbs) = 1 := Nat.coprime_div_gcd_div_gcd hg
    have e1 : n.natAbs.gcd d.natAbs * (n.natAbs / n.natAbs.gcd d.natAbs) = n.natAbs := Nat.mul_div_cancel' (Nat.gcd_dvd_left _ _)
    have e2 : n.natAbs.gcd d.natAbs * (d.natAbs / n.natAbs.gcd d.natAbs) = d.natAbs := Nat.mul_div_cancel' (Nat.gcd_dvd_right _ _)
    have e3 : N.natAbs * d.natAbs = n.natAbs * D.natAbs := by rw [← Int.natAbs_mul, ← Int.natAbs_mul, e]
    have hdd : d.natAbs / n.natAbs.gcd d.natAbs ≠ 0 := by intro h; rw [h, Nat.mul_zero] at e2; omega
    obtain ⟨k1, k2⟩ := cross_div (N := N.natAbs) (D := D.natAbs) (n := n.natAbs / n.natAbs.gcd d.natAbs) (d := d.natAbs / n.natAbs.gcd d.natAbs) (by omega) hdd c1 (by
      apply Nat.eq_of_mul_eq_mul_left hg
      calc n.natAbs.gcd d.natAbs * (N.natAbs * (d.natAbs / n.natAbs.gcd d.natAbs)) = N.natAbs * (n.natAbs.gcd d.natAbs * (d.natAbs / n.natAbs.gcd d.natAbs)) := by ac_rfl
        _ = N.natAbs * d.natAbs := by rw [e2]
        _ = n.natAbs * D.natAbs := e3
        _ = (n.natAbs.gcd d.natAbs * (n.natAbs / n.natAbs.gcd d.natAbs)) * D.natAbs := by rw [e1]
        _ = n.natAbs.gcd d.natAbs * (n.natAbs / n.natAbs.gcd d.natAbs * D.natAbs) := by ac_rfl)
    rw [ratF, ratF, if_neg hD, if_neg hd, mkR, mkR, k1, k2, show (decide (N < 0) != decide (D < 0)) = (decide (n < 0) != decide (d < 0)) from sgn_cross hN hD hn hd e]
theorem ratF_spec {n d : Int} (hd : d ≠ 0) : (∃ p q, IsR p q ∧ n * q = p * d ∧ ratF n d = (p, q, 0)) ∨ ratF n d = (0, 0, 6) := by
  rcases Int.lt_or_gt_of_ne hd with h | h
  · have e : ratF n d = ratF (-n) (-d) := ratF_eq hd (by omega) (by rw [Int.mul_neg, Int.neg_mul])
    rw [e]
    rcases ratF_cases (n := -n) (d := -d) (by omega) with ⟨g, p, q, hg, e1, e2, hr, e3⟩ | e3
    · refine .inl ⟨p, q, hr, ?_, e3⟩
      have f1 : n = -(g * p) := by omega
      have f2 : d = -(g * q) := by omega
      rw [f1, f2, Int.neg_mul, Int.mul_neg]
      congr 1
      ac_rfl
    · exact .inr e3
  · rcases ratF_cases (n := n) h with ⟨g, p, q, hg, e1, e2, hr, e3⟩ | e3
    · refine .inl ⟨p, q, hr, ?_, e3⟩
      rw [e1, e2]
      ac_rfl
    · exact .inr e3
theorem isr_ne {a b : Int} (h : IsR a b) : b ≠ 0 := by have := h.1; omega

theorem sub_back {a b c d p q : Int} (h : (a * d + c * b) * q = p * (b * d)) : (p * d - c * q) * b = a * (q * d) := by
  grind
theorem div_back {a b c d p q : Int} (h : (a * c) * q = p * (b * d)) : (p * d) * b = a * (q * c) := by
  grind
theorem add_group {a b c d u v x y s t : Int} (hd : d ≠ 0) (h1 : (a * d + c * b) * y = x * (b * d)) (h2 : (c * v + u * d) * t = s * (d * v)) : (x * v + u * y) * (b * t) = (a * t + s * b) * (y * v) := by
  refine Int.eq_of_mul_eq_mul_left hd ?_
  have k1 : (a * d + c * b) * y * (v * t) = x * (b * d) * (v * t) := by rw [h1]
  have k2 : (c * v + u * d) * t * (b * y) = s * (d * v) * (b * y) := by rw [h2]
  clear h1 h2 hd
  grind
theorem mul_group {a b c d u v x y s t : Int} (hd : d ≠ 0) (h1 : (a * c) * y = x * (b * d)) (h2 : (c * u) * t = s * (d * v)) : (x * u) * (b * t) = (a * s) * (y * v) := by
  refine Int.eq_of_mul_eq_mul_left hd ?_
  have k1 : (a * c) * y * (u * t) = x * (b * d) * (u * t) := by rw [h1]
  have k2 : (c * u) * t * (a * y) = s * (d * v) * (a * y) := by rw [h2]
  clear h1 h2 hd
  grind
theorem spread_eq {a b c d u v s t x y z w : Int} (hd : d ≠ 0) (hv : v ≠ 0) (h1 : (c * v + u * d) * t = s * (d * v)) (h2 : (a * c) * y = x * (b * d)) (h3 : (a * u) * w = z * (b * v)) : (a * s) * (y * w) = (x * w + z * y) * (b * t) := by
  refine Int.eq_of_mul_eq_mul_left (Int.mul_ne_zero hd hv) ?_
  have k1 : (c * v + u * d) * t * (a * y * w) = s * (d * v) * (a * y * w) := by rw [h1]
  have k2 : (a * c) * y * (v * w * t) = x * (b * d) * (v * w * t) := by rw [h2]
  have k3 : (a * u) * w * (d * y * t) = z * (b * v) * (d * y * t) := by rw [h3]
  clear h1 h2 h3 hd hv
  grind
end Go.Proofs.Ytgaglaplilpgfaa
