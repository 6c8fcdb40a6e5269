/- MetroRatioOrder: the walk. -/
import Derived.Test.YtomamgmefpmnpaaG6
set_option linter.unusedSimpArgs false
set_option linter.unusedVariables false
namespace Go.Proofs.Ytomamgmefpmnpaa
open Go.Ev
theorem mkR_ok {neg : Bool} {n d : Nat} (hd : d ≠ 0) (h : (mkR neg n d).2.2 = 0) : IsR (mkR neg n d).1 (mkR neg n d).2.1 := by
  have hg : 0 < n.gcd d := gcd_pos' hd
  have e2 : n.gcd d * (d / n.gcd d) = d := Nat.mul_div_cancel' (Nat.gcd_dvd_right _ _)
  have e3 : (n / n.gcd d).gcd (d / n.gcd d) = 1 := Nat.coprime_div_gcd_div_gcd hg
  revert h
  rw [mkR]
  generalize n / n.gcd d = n1 at *
  generalize d / n.gcd d = d1 at *
  have hd1 : 0 < d1 := by
    rcases Nat.eq_zero_or_pos d1 with h | h
    · rw [h, Nat.mul_zero] at e2; omega
    · exact h
  by_cases c1 : 1099511627776 < n1
  · rw [if_pos c1]; intro h; exact absurd h (by decide)
  · rw [if_neg c1]
    by_cases c2 : 1048576 < d1
    · rw [if_pos c2]; intro h; exact absurd h (by decide)
    · rw [if_neg c2]
      intro _
      cases neg with
      | true => exact ⟨by show 1 ≤ (d1 : Int); omega, by show (d1 : Int) ≤ 1048576; omega, by show (-(n1 : Int)).natAbs ≤ _; omega, by show (-(n1 : Int)).natAbs.gcd _ = 1; rw [Int.natAbs_neg]; exact e3⟩
      | false => exact ⟨by show 1 ≤ (d1 : Int); omega, by show (d1 : Int) ≤ 1048576; omega, by show ((n1 : Int)).natAbs ≤ _; omega, e3⟩
theorem ratF_ok {n d : Int} (h : (ratF n d).2.2 = 0) : IsR (ratF n d).1 (ratF n d).2.1 := by
  revert h
  rw [ratF]
  by_cases hd : d = 0
  · rw [if_pos hd]; intro h; exact absurd h (by decide)
  · rw [if_neg hd]; intro h; exact mkR_ok (by omega) h

set_option maxRecDepth 100000 in
set_option maxHeartbeats 4000000 in
theorem ratio68_w (n d : Int) (h1 : -9223372036854775808 ≤ n) (h2 : n ≤ 9223372036854775807) (h3 : -9223372036854775808 ≤ d) (h4 : d ≤ 9223372036854775807) (h : AHeap) :
    Wc pr (.func 68) [.int .i64 n, .int .i64 d] h fun v h' => v = .tuple #[.agg #[.int .i64 (ratF n d).1, .int .i64 (ratF n d).2.1], .bool (decide ((ratF n d).2.2 = 0))] ∧ Gr h h' := by
  refine wc_func Try.func68 rfl rfl rfl rfl ?_
  repeat' (first
    | ((with_reducible refine optP_id ?_); conv => { arg 1; simp (disch := first | assumption | omega) only [push_cast, ↓reduceIte, reduceIte, Nat.reduceEqDiff, Nat.reduceAdd, Nat.reduceSub, Nat.reduceMul, Nat.reduceBEq, Int.reduceNeg] }; refine optP_some ?_)
    | ((with_reducible refine condP_id ?_); conv => { arg 1; simp (disch := first | assumption | omega) only [push_cast, ↓reduceIte, reduceIte, Nat.reduceEqDiff, Nat.reduceAdd, Nat.reduceSub, Nat.reduceMul, Nat.reduceBEq, Int.reduceNeg] }; first | refine condP_yes (by first | assumption | exact fun hn => hn (by assumption) | omega | decide) ?_ | refine condP_non (by assumption) ?_ | refine condP_no (by first | assumption | omega | decide) ?_ | refine condP_decn (fun hc => ?_) (fun hc => ?_) | refine condP_dec (fun hc => ?_) (fun hc => ?_) | refine condP_true (by first | assumption | rfl) ?_ | refine condP_false (by first | assumption | rfl) ?_ | refine condP_bool (fun hc => ?_) (fun hc => ?_))
    | ((with_reducible refine condO_id ?_); conv => { arg 1; simp (disch := first | assumption | omega) only [push_cast, ↓reduceIte, reduceIte, Nat.reduceEqDiff, Nat.reduceAdd, Nat.reduceSub, Nat.reduceMul, Nat.reduceBEq, Int.reduceNeg] }; refine condO_some ?_)
    | ((with_reducible refine callP_id ?_); conv => { arg 2; simp (disch := first | assumption | omega) only [push_cast, ↓reduceIte, reduceIte, Nat.reduceEqDiff, Nat.reduceAdd, Nat.reduceSub, Nat.reduceMul, Nat.reduceBEq, Int.reduceNeg] }; conv => { arg 3; simp (disch := first | assumption | omega) only [push_cast, ↓reduceIte, reduceIte, Nat.reduceEqDiff, Nat.reduceAdd, Nat.reduceSub, Nat.reduceMul, Nat.reduceBEq, Int.reduceNeg] }; first | refine callP_plain ?_ | refine callP_yield ?_ | (refine callP_func ?_; conv => { arg 3; simp only [push_cast] }))
    | ((with_reducible refine resP_id ?_); conv => { arg 1; simp (disch := first | assumption | omega) only [push_cast, ↓reduceIte, reduceIte, Nat.reduceEqDiff, Nat.reduceAdd, Nat.reduceSub, Nat.reduceMul, Nat.reduceBEq, Int.reduceNeg] }; first | refine resP_one ?_ | refine resP_two ?_ | refine resP_three ?_ | refine resP_zero ?_)
    | refine wk_seq ?_ | refine wk_block ?_ | refine wk_scope ?_ | refine wk_inBlock ?_ | refine wk_inScope ?_ | refine wk_skip ?_ | refine wk_label ?_ | refine wk_region ?_ | refine wk_draw (by kernel_rfl) (by decide +kernel) ?_ | refine wo_nil ?_ | refine wk_exit ?_ | refine exitK_code ?_ | refine exitK_hit ?_ | refine exitK_miss rfl ?_ | refine exitK_inLoop ?_ | refine exitK_inScope ?_ | refine wk_cond ?_ | refine wk_ret ?_ | refine wk_nil ?_ | refine wo_dst rfl (opR_call ?_) | refine wo_nodst (opR_call ?_) | refine wo_dst rfl (opR_pick ?_) | refine wo_guard rfl rfl ?_ | refine wo_guardn rfl ?_ | refine wo_dst rfl (opR_pure ?_) | refine wo_nodst (opR_pure ?_)
    | refine give_ret ?_ | refine give_end ?_)
  refine (ratio_w n d h1 h2 h3 h4 _).mono ?_
  rintro _ h1 ⟨rfl, g1⟩; have n1 := g1.1; have k1 := g1.2; try simp only [next_new, next_set] at n1 k1
  repeat' (first
    | ((with_reducible refine optP_id ?_); conv => { arg 1; simp (disch := first | assumption | omega) only [push_cast, ↓reduceIte, reduceIte, Nat.reduceEqDiff, Nat.reduceAdd, Nat.reduceSub, Nat.reduceMul, Nat.reduceBEq, Int.reduceNeg, k1] }; refine optP_some ?_)
    | ((with_reducible refine condP_id ?_); conv => { arg 1; simp (disch := first | assumption | omega) only [push_cast, ↓reduceIte, reduceIte, Nat.reduceEqDiff, Nat.reduceAdd, Nat.reduceSub, Nat.reduceMul, Nat.reduceBEq, Int.reduceNeg, k1] }; first | refine condP_yes (by first | assumption | exact fun hn => hn (by assumption) | omega | decide) ?_ | refine condP_non (by assumption) ?_ | refine condP_no (by first | assumption | omega | decide) ?_ | refine condP_decn (fun hc => ?_) (fun hc => ?_) | refine condP_dec (fun hc => ?_) (fun hc => ?_) | refine condP_true (by first | assumption | rfl) ?_ | refine condP_false (by first | assumption | rfl) ?_ | refine condP_bool (fun hc => ?_) (fun hc => ?_))
    | ((with_reducible refine condO_id ?_); conv => { arg 1; simp (disch := first | assumption | omega) only [push_cast, ↓reduceIte, reduceIte, Nat.reduceEqDiff, Nat.reduceAdd, Nat.reduceSub, Nat.reduceMul, Nat.reduceBEq, Int.reduceNeg, k1] }; refine condO_some ?_)
    | ((with_reducible refine callP_id ?_); conv => { arg 2; simp (disch := first | assumption | omega) only [push_cast, ↓reduceIte, reduceIte, Nat.reduceEqDiff, Nat.reduceAdd, Nat.reduceSub, Nat.reduceMul, Nat.reduceBEq, Int.reduceNeg, k1] }; conv => { arg 3; simp (disch := first | assumption | omega) only [push_cast, ↓reduceIte, reduceIte, Nat.reduceEqDiff, Nat.reduceAdd, Nat.reduceSub, Nat.reduceMul, Nat.reduceBEq, Int.reduceNeg, k1] }; first | refine callP_plain ?_ | refine callP_yield ?_ | (refine callP_func ?_; conv => { arg 3; simp only [push_cast] }))
    | ((with_reducible refine resP_id ?_); conv => { arg 1; simp (disch := first | assumption | omega) only [push_cast, ↓reduceIte, reduceIte, Nat.reduceEqDiff, Nat.reduceAdd, Nat.reduceSub, Nat.reduceMul, Nat.reduceBEq, Int.reduceNeg, k1] }; first | refine resP_one ?_ | refine resP_two ?_ | refine resP_three ?_ | refine resP_zero ?_)
    | refine wk_seq ?_ | refine wk_block ?_ | refine wk_scope ?_ | refine wk_inBlock ?_ | refine wk_inScope ?_ | refine wk_skip ?_ | refine wk_label ?_ | refine wk_region ?_ | refine wk_draw (by kernel_rfl) (by decide +kernel) ?_ | refine wo_nil ?_ | refine wk_exit ?_ | refine exitK_code ?_ | refine exitK_hit ?_ | refine exitK_miss rfl ?_ | refine exitK_inLoop ?_ | refine exitK_inScope ?_ | refine wk_cond ?_ | refine wk_ret ?_ | refine wk_nil ?_ | refine wo_dst rfl (opR_call ?_) | refine wo_nodst (opR_call ?_) | refine wo_dst rfl (opR_pick ?_) | refine wo_guard rfl rfl ?_ | refine wo_guardn rfl ?_ | refine wo_dst rfl (opR_pure ?_) | refine wo_nodst (opR_pure ?_)
    | refine give_ret ?_ | refine give_end ?_)
  exact ⟨rfl, by (repeat (first | exact Gr.refl _ | assumption | (refine Gr.trans ?_ (by assumption)) | refine Gr.set ?_ (by first | exact Nat.le_refl _ | omega | (simp only [next_new, next_set]; omega)) _ | refine Gr.new ?_ _))⟩

theorem ratio_spec (n d : Int) (h1 : -9223372036854775808 ≤ n) (h2 : n ≤ 9223372036854775807) (h3 : -9223372036854775808 ≤ d) (h4 : d ≤ 9223372036854775807) : ∃ a b e : Int,
    (∀ h, Wc pr (.func 68) [.int .i64 n, .int .i64 d] h fun v h' => v = .tuple #[.agg #[.int .i64 a, .int .i64 b], .bool (decide (e = 0))] ∧ Gr h h') ∧ (e = 0 → IsR a b) :=
  ⟨_, _, _, ratio68_w n d h1 h2 h3 h4, ratF_ok⟩

theorem cmp_spec {a b c d : Int} (hab : IsR a b) (hcd : IsR c d) : ∃ m : Int,
    (∀ h, Wc pr (.func 30) [.agg #[.int .i64 a, .int .i64 b], .agg #[.int .i64 c, .int .i64 d]] h fun v h' => v = .tuple #[.int .i64 m, .int .i64 0] ∧ Gr h h') ∧ (m = -1 ∧ a * d < c * b ∨ m = 0 ∧ a * d = c * b ∨ m = 1 ∧ c * b < a * d) := by
  obtain ⟨a1, _, _⟩ := isr_bd hab
  obtain ⟨c1, _, _⟩ := isr_bd hcd
  have hw := fun h => cmp_w a b c d (by omega) (by omega) (by omega) (by omega) h
  rw [cmpF, if_pos ⟨hab, hcd⟩] at hw
  by_cases h1 : a * d < c * b
  · rw [if_pos h1] at hw; exact ⟨-1, hw, .inl ⟨rfl, h1⟩⟩
  · rw [if_neg h1] at hw
    by_cases h2 : c * b < a * d
    · rw [if_pos h2] at hw; exact ⟨1, hw, .inr (.inr ⟨rfl, h2⟩)⟩
    · rw [if_neg h2] at hw; exact ⟨0, hw, .inr (.inl ⟨rfl, by omega⟩)⟩

theorem add_spec {a b c d : Int} (hab : IsR a b) (hcd : IsR c d) : ∃ s t e : Int,
    (∀ h, Wc pr (.func 22) [.agg #[.int .i64 a, .int .i64 b], .agg #[.int .i64 c, .int .i64 d]] h fun v h' => v = .tuple #[.agg #[.int .i64 s, .int .i64 t], .int .i64 e] ∧ Gr h h') ∧
    ((e = 0 ∧ IsR s t ∧ ∃ g, 0 < g ∧ a * d + c * b = g * s ∧ b * d = g * t) ∨ (e = 6 ∧ s = 0 ∧ t = 0)) := by
  obtain ⟨a1, _, b2⟩ := isr_bd hab
  obtain ⟨c1, _, d2⟩ := isr_bd hcd
  have hw := fun h => add_w a b c d (by omega) (by omega) (by omega) (by omega) h
  rw [addF, calcF, if_pos ⟨hab, hcd⟩] at hw
  have hp : 0 < b * d := Int.mul_pos (by omega) (by omega)
  rcases ratF_cases (n := a * d + c * b) hp with ⟨g, n', d', hg, e1, e2, hr, e3⟩ | e3
  · rw [e3] at hw; exact ⟨n', d', 0, hw, .inl ⟨rfl, hr, g, hg, e1, e2⟩⟩
  · rw [e3] at hw; exact ⟨0, 0, 6, hw, .inr ⟨rfl, rfl, rfl⟩⟩

theorem cmp_any (a b c d : Int) (h1 : -9223372036854775808 ≤ a) (h2 : a ≤ 9223372036854775807) (h3 : -9223372036854775808 ≤ c) (h4 : c ≤ 9223372036854775807) : ∃ m e : Int,
    (∀ h, Wc pr (.func 30) [.agg #[.int .i64 a, .int .i64 b], .agg #[.int .i64 c, .int .i64 d]] h fun v h' => v = .tuple #[.int .i64 m, .int .i64 e] ∧ Gr h h') := ⟨_, _, cmp_w a b c d h1 h2 h3 h4⟩

/-- multiplying by a number above 0 keeps the order -/
theorem lt_mul_iff {g x y : Int} (hg : 0 < g) : g * x < g * y ↔ x < y := Int.mul_lt_mul_left hg
theorem eq_mul_iff {g x y : Int} (hg : 0 < g) : g * x = g * y ↔ x = y := by
  constructor
  · intro h; exact Int.eq_of_mul_eq_mul_left (by omega) h
  · intro h; rw [h]

theorem trans_le {a b c d u v : Int} (hb : 1 ≤ b) (hd : 1 ≤ d) (hv : 1 ≤ v) (h1 : a * d ≤ c * b) (h2 : c * v ≤ u * d) : a * v ≤ u * b := by
  have k1 : a * d * v ≤ c * b * v := Int.mul_le_mul_of_nonneg_right h1 (by omega)
  have k2 : c * v * b ≤ u * d * b := Int.mul_le_mul_of_nonneg_right h2 (by omega)
  have k3 : d * (a * v) ≤ d * (u * b) := by
    have e1 : a * d * v = d * (a * v) := by ac_rfl
    have e2 : c * b * v = c * v * b := by ac_rfl
    have e3 : u * d * b = d * (u * b) := by ac_rfl
    omega
  exact Int.le_of_mul_le_mul_left k3 (by omega)

/-- sums with one ratio are ordered as what was added to it -/
theorem add_order {a b c d u v s t w x g k : Int} (hb : 1 ≤ b) (hd : 1 ≤ d) (hv : 1 ≤ v) (hg : 0 < g) (hk : 0 < k) (e1 : a * v + u * b = g * s) (e2 : b * v = g * t) (e3 : c * v + u * d = k * w) (e4 : d * v = k * x) :
    (s * x < w * t ↔ a * d < c * b) ∧ (w * t < s * x ↔ c * b < a * d) := by
  have p : 0 < v * v := Int.mul_pos (by omega) (by omega)
  have q : 0 < g * k := Int.mul_pos hg hk
  have l1 : g * k * (s * x) = (a * v + u * b) * (d * v) := by rw [e1, e4]; ac_rfl
  have l2 : g * k * (w * t) = (c * v + u * d) * (b * v) := by rw [e3, e2]; ac_rfl
  have l3 : (a * v + u * b) * (d * v) - (c * v + u * d) * (b * v) = v * v * (a * d) - v * v * (c * b) := by
    have x1 : (a * v + u * b) * (d * v) = v * v * (a * d) + u * b * d * v := by rw [Int.add_mul]; congr 1 <;> ac_rfl
    have x2 : (c * v + u * d) * (b * v) = v * v * (c * b) + u * b * d * v := by rw [Int.add_mul]; congr 1 <;> ac_rfl
    rw [x1, x2]; omega
  have i1 := lt_mul_iff (x := s * x) (y := w * t) q
  have i2 := lt_mul_iff (x := a * d) (y := c * b) p
  have i3 := lt_mul_iff (x := w * t) (y := s * x) q
  have i4 := lt_mul_iff (x := c * b) (y := a * d) p
  rw [l1, l2] at i1
  rw [l1, l2] at i3
  generalize (a * v + u * b) * (d * v) = A at *
  generalize (c * v + u * d) * (b * v) = B at *
  exact ⟨i1.symm.trans ((by omega : A < B ↔ v * v * (a * d) < v * v * (c * b)).trans i2), i3.symm.trans ((by omega : B < A ↔ v * v * (c * b) < v * v * (a * d)).trans i4)⟩

theorem floor_spec {a b : Int} (h : IsR a b) : ∃ k r : Int, (∀ h, Wc pr (.func 34) [.agg #[.int .i64 a, .int .i64 b]] h fun v h' => v = .tuple #[.int .i64 k, .agg #[.int .i64 r, .int .i64 b], .int .i64 0] ∧ Gr h h') ∧
    0 ≤ r ∧ r < b ∧ IsR k 1 ∧ IsR r b ∧ k * b + r * 1 = a := by
  obtain ⟨a1, b1, b2⟩ := isr_bd h
  have hw := fun hp => floor_w a b (by omega) (by omega) hp
  rw [floorV, if_pos h] at hw
  have e1 : a - a / b * b = a % b := by have := Int.mul_ediv_add_emod a b; rw [Int.mul_comm] at this; omega
  have e2 := Int.emod_nonneg a (show b ≠ 0 by omega)
  have e3 := Int.emod_lt_of_pos a (show 0 < b by omega)
  have e4 := ediv_le (N := a) (D := b) (by omega)
  refine ⟨a / b, a - a / b * b, hw, by omega, by omega, ⟨by omega, by omega, by omega, Nat.gcd_one_right _⟩, ⟨h.1, h.2.1, by omega, ?_⟩, by omega⟩
  have g1 : Int.gcd (a - a / b * b) b = Int.gcd a b := Int.gcd_sub_mul_right_left b a (a / b)
  have g2 : Int.gcd a b = 1 := h.2.2.2
  exact g1.trans g2
end Go.Proofs.Ytomamgmefpmnpaa
