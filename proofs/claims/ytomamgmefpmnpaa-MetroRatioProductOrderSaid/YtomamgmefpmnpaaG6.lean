/- Contracts: Floor; what Ratio makes; ratios as fractions. -/
import Derived.Test.YtomamgmefpmnpaaG5a
set_option linter.unusedSimpArgs false
set_option linter.unusedVariables false
namespace Go.Proofs.Ytomamgmefpmnpaa
open Go.Ev
theorem ediv_of {N D q : Int} (h1 : q * D ≤ N) (h2 : N < (q + 1) * D) (hD : 0 < D) : N / D = q := by
  have a : q ≤ N / D := (Int.le_ediv_iff_mul_le hD).2 h1
  have b : N / D < q + 1 := (Int.ediv_lt_iff_lt_mul hD).2 h2
  omega
theorem tdiv_floor {N D : Int} (hD : 0 < D) : (N < N.tdiv D * D → N.tdiv D - 1 = N / D) ∧ (¬ N < N.tdiv D * D → N.tdiv D = N / D) := by
  have h1 := Int.mul_tdiv_add_tmod N D
  have h3 : (N.tmod D).natAbs < D.natAbs := by
    rw [Int.natAbs_tmod]; exact Nat.mod_lt _ (by omega)
  have h2 : N.tdiv D * D = D * N.tdiv D := Int.mul_comm _ _
  constructor
  · intro h
    refine (ediv_of ?_ ?_ hD).symm
    · rw [Int.sub_mul]; omega
    · rw [Int.sub_add_cancel]; exact h
  · intro h
    refine (ediv_of ?_ ?_ hD).symm
    · omega
    · rw [Int.add_mul]; omega
theorem tdiv_le {N D : Int} : (N.tdiv D).natAbs ≤ N.natAbs := by
  rw [Int.natAbs_tdiv]; exact Nat.div_le_self _ _
theorem tdiv_mul_le {N D : Int} : (N.tdiv D * D).natAbs ≤ N.natAbs := by
  rw [Int.natAbs_mul, Int.natAbs_tdiv]
  exact Nat.div_mul_le_self _ _
theorem ediv_le {N D : Int} (hD : 0 < D) : (N / D).natAbs ≤ N.natAbs := by
  have h1 := Int.mul_ediv_add_emod N D
  have h2 := Int.emod_nonneg N (show D ≠ 0 by omega)
  have h3 := Int.emod_lt_of_pos N hD
  rcases Int.lt_or_le N 0 with h | h
  · have : N / D < 0 := Int.ediv_neg_of_neg_of_pos h hD
    have : N ≤ N / D := (Int.le_ediv_iff_mul_le hD).2 (by
      have := Int.mul_le_mul_of_nonpos_left (a := N) (b := D) (c := 1) (by omega) (by omega)
      omega)
    omega
  · have : 0 ≤ N / D := Int.ediv_nonneg h (by omega)
    have : N / D ≤ N := Int.ediv_le_self D h
    omega
def floorV (a b : Int) : Value := if IsR a b then .tuple #[.int .i64 (a / b), .agg #[.int .i64 (a - a / b * b), .int .i64 b], .int .i64 0] else .tuple #[.int .i64 0, .agg #[.int .i64 0, .int .i64 0], .int .i64 2]
set_option maxRecDepth 100000 in
set_option maxHeartbeats 4000000 in
theorem floor_w (a b : Int) (h1 : -9223372036854775808 ≤ a) (h2 : a ≤ 9223372036854775807) (h : AHeap) :
    Wc pr (.func 34) [.agg #[.int .i64 a, .int .i64 b]] h fun v h' => v = floorV a b ∧ Gr h h' := by
  by_cases hab : IsR a b
  · obtain ⟨a1, b1, b2⟩ := isr_bd hab
    obtain ⟨f1, f2⟩ := tdiv_floor (N := a) (D := b) (by omega)
    have t1 := tdiv_le (N := a) (D := b)
    have t2 := tdiv_mul_le (N := a) (D := b)
    have t3 : (a.tdiv b - 1) * b = a.tdiv b * b - b := by rw [Int.sub_mul]; omega
    refine wc_func Try.func34 rfl rfl rfl rfl ?_
    repeat' (first
    | ((with_reducible refine optP_id ?_); conv => { arg 1; simp (disch := first | assumption | omega) only [push_cast, ↓reduceIte, reduceIte, Nat.reduceEqDiff, Nat.reduceAdd, Nat.reduceSub, Nat.reduceMul, Nat.reduceBEq, Int.reduceNeg] }; refine optP_some ?_)
    | ((with_reducible refine condP_id ?_); conv => { arg 1; simp (disch := first | assumption | omega) only [push_cast, ↓reduceIte, reduceIte, Nat.reduceEqDiff, Nat.reduceAdd, Nat.reduceSub, Nat.reduceMul, Nat.reduceBEq, Int.reduceNeg] }; first | refine condP_yes (by first | assumption | exact fun hn => hn (by assumption) | omega | decide) ?_ | refine condP_non (by assumption) ?_ | refine condP_no (by first | assumption | omega | decide) ?_ | refine condP_decn (fun hc => ?_) (fun hc => ?_) | refine condP_dec (fun hc => ?_) (fun hc => ?_) | refine condP_true (by first | assumption | rfl) ?_ | refine condP_false (by first | assumption | rfl) ?_ | refine condP_bool (fun hc => ?_) (fun hc => ?_))
    | ((with_reducible refine condO_id ?_); conv => { arg 1; simp (disch := first | assumption | omega) only [push_cast, ↓reduceIte, reduceIte, Nat.reduceEqDiff, Nat.reduceAdd, Nat.reduceSub, Nat.reduceMul, Nat.reduceBEq, Int.reduceNeg] }; refine condO_some ?_)
    | ((with_reducible refine callP_id ?_); conv => { arg 2; simp (disch := first | assumption | omega) only [push_cast, ↓reduceIte, reduceIte, Nat.reduceEqDiff, Nat.reduceAdd, Nat.reduceSub, Nat.reduceMul, Nat.reduceBEq, Int.reduceNeg] }; conv => { arg 3; simp (disch := first | assumption | omega) only [push_cast, ↓reduceIte, reduceIte, Nat.reduceEqDiff, Nat.reduceAdd, Nat.reduceSub, Nat.reduceMul, Nat.reduceBEq, Int.reduceNeg] }; first | refine callP_plain ?_ | refine callP_yield ?_ | (refine callP_func ?_; conv => { arg 3; simp only [push_cast] }))
    | ((with_reducible refine resP_id ?_); conv => { arg 1; simp (disch := first | assumption | omega) only [push_cast, ↓reduceIte, reduceIte, Nat.reduceEqDiff, Nat.reduceAdd, Nat.reduceSub, Nat.reduceMul, Nat.reduceBEq, Int.reduceNeg] }; first | refine resP_one ?_ | refine resP_two ?_ | refine resP_three ?_ | refine resP_zero ?_)
    | refine wk_seq ?_ | refine wk_block ?_ | refine wk_scope ?_ | refine wk_inBlock ?_ | refine wk_inScope ?_ | refine wk_skip ?_ | refine wk_label ?_ | refine wk_region ?_ | refine wk_draw (by kernel_rfl) (by decide +kernel) ?_ | refine wo_nil ?_ | refine wk_exit ?_ | refine exitK_code ?_ | refine exitK_hit ?_ | refine exitK_miss rfl ?_ | refine exitK_inLoop ?_ | refine exitK_inScope ?_ | refine wk_cond ?_ | refine wk_ret ?_ | refine wk_nil ?_ | refine wo_dst rfl (opR_call ?_) | refine wo_nodst (opR_call ?_) | refine wo_dst rfl (opR_pick ?_) | refine wo_guard rfl rfl ?_ | refine wo_guardn rfl ?_ | refine wo_dst rfl (opR_pure ?_) | refine wo_nodst (opR_pure ?_)
    | refine give_ret ?_ | refine give_end ?_)
    refine (isr_w a b (by omega) (by omega) _).mono ?_
    rintro _ h1 ⟨rfl, g1⟩; have n1 := g1.1; have k1 := g1.2; try simp only [next_new, next_set] at n1 k1
    repeat' (first
    | ((with_reducible refine optP_id ?_); conv => { arg 1; simp (disch := first | assumption | omega) only [push_cast, ↓reduceIte, reduceIte, Nat.reduceEqDiff, Nat.reduceAdd, Nat.reduceSub, Nat.reduceMul, Nat.reduceBEq, Int.reduceNeg, k1, t3] }; refine optP_some ?_)
    | ((with_reducible refine condP_id ?_); conv => { arg 1; simp (disch := first | assumption | omega) only [push_cast, ↓reduceIte, reduceIte, Nat.reduceEqDiff, Nat.reduceAdd, Nat.reduceSub, Nat.reduceMul, Nat.reduceBEq, Int.reduceNeg, k1, t3] }; first | refine condP_yes (by first | assumption | exact fun hn => hn (by assumption) | omega | decide) ?_ | refine condP_non (by assumption) ?_ | refine condP_no (by first | assumption | omega | decide) ?_ | refine condP_decn (fun hc => ?_) (fun hc => ?_) | refine condP_dec (fun hc => ?_) (fun hc => ?_) | refine condP_true (by first | assumption | rfl) ?_ | refine condP_false (by first | assumption | rfl) ?_ | refine condP_bool (fun hc => ?_) (fun hc => ?_))
    | ((with_reducible refine condO_id ?_); conv => { arg 1; simp (disch := first | assumption | omega) only [push_cast, ↓reduceIte, reduceIte, Nat.reduceEqDiff, Nat.reduceAdd, Nat.reduceSub, Nat.reduceMul, Nat.reduceBEq, Int.reduceNeg, k1, t3] }; refine condO_some ?_)
    | ((with_reducible refine callP_id ?_); conv => { arg 2; simp (disch := first | assumption | omega) only [push_cast, ↓reduceIte, reduceIte, Nat.reduceEqDiff, Nat.reduceAdd, Nat.reduceSub, Nat.reduceMul, Nat.reduceBEq, Int.reduceNeg, k1, t3] }; conv => { arg 3; simp (disch := first | assumption | omega) only [push_cast, ↓reduceIte, reduceIte, Nat.reduceEqDiff, Nat.reduceAdd, Nat.reduceSub, Nat.reduceMul, Nat.reduceBEq, Int.reduceNeg, k1, t3] }; first | refine callP_plain ?_ | refine callP_yield ?_ | (refine callP_func ?_; conv => { arg 3; simp only [push_cast] }))
    | ((with_reducible refine resP_id ?_); conv => { arg 1; simp (disch := first | assumption | omega) only [push_cast, ↓reduceIte, reduceIte, Nat.reduceEqDiff, Nat.reduceAdd, Nat.reduceSub, Nat.reduceMul, Nat.reduceBEq, Int.reduceNeg, k1, t3] }; first | refine resP_one ?_ | refine resP_two ?_ | refine resP_three ?_ | refine resP_zero ?_)
    | refine wk_seq ?_ | refine wk_block ?_ | refine wk_scope ?_ | refine wk_inBlock ?_ | refine wk_inScope ?_ | refine wk_skip ?_ | refine wk_label ?_ | refine wk_region ?_ | refine wk_draw (by kernel_rfl) (by decide +kernel) ?_ | refine wo_nil ?_ | refine wk_exit ?_ | refine exitK_code ?_ | refine exitK_hit ?_ | refine exitK_miss rfl ?_ | refine exitK_inLoop ?_ | refine exitK_inScope ?_ | refine wk_cond ?_ | refine wk_ret ?_ | refine wk_nil ?_ | refine wo_dst rfl (opR_call ?_) | refine wo_nodst (opR_call ?_) | refine wo_dst rfl (opR_pick ?_) | refine wo_guard rfl rfl ?_ | refine wo_guardn rfl ?_ | refine wo_dst rfl (opR_pure ?_) | refine wo_nodst (opR_pure ?_)
    | refine give_ret ?_ | refine give_end ?_)
    · refine ⟨?_, by (repeat (first | exact Gr.refl _ | assumption | (refine Gr.trans ?_ (by assumption)) | refine Gr.set ?_ (by first | exact Nat.le_refl _ | omega | (simp only [next_new, next_set]; omega)) _ | refine Gr.new ?_ _))⟩
      rw [floorV, if_pos hab, ← f1 hc, t3]
    · refine ⟨?_, by (repeat (first | exact Gr.refl _ | assumption | (refine Gr.trans ?_ (by assumption)) | refine Gr.set ?_ (by first | exact Nat.le_refl _ | omega | (simp only [next_new, next_set]; omega)) _ | refine Gr.new ?_ _))⟩
      rw [floorV, if_pos hab, ← f2 hc]
  · refine wc_func Try.func34 rfl rfl rfl rfl ?_
    repeat' (first
    | ((with_reducible refine optP_id ?_); conv => { arg 1; simp (disch := first | assumption | omega) only [push_cast, ↓reduceIte, reduceIte, Nat.reduceEqDiff, Nat.reduceAdd, Nat.reduceSub, Nat.reduceMul, Nat.reduceBEq, Int.reduceNeg] }; refine optP_some ?_)
    | ((with_reducible refine condP_id ?_); conv => { arg 1; simp (disch := first | assumption | omega) only [push_cast, ↓reduceIte, reduceIte, Nat.reduceEqDiff, Nat.reduceAdd, Nat.reduceSub, Nat.reduceMul, Nat.reduceBEq, Int.reduceNeg] }; first | refine condP_yes (by first | assumption | exact fun hn => hn (by assumption) | omega | decide) ?_ | refine condP_non (by assumption) ?_ | refine condP_no (by first | assumption | omega | decide) ?_ | refine condP_decn (fun hc => ?_) (fun hc => ?_) | refine condP_dec (fun hc => ?_) (fun hc => ?_) | refine condP_true (by first | assumption | rfl) ?_ | refine condP_false (by first | assumption | rfl) ?_ | refine condP_bool (fun hc => ?_) (fun hc => ?_))
    | ((with_reducible refine condO_id ?_); conv => { arg 1; simp (disch := first | assumption | omega) only [push_cast, ↓reduceIte, reduceIte, Nat.reduceEqDiff, Nat.reduceAdd, Nat.reduceSub, Nat.reduceMul, Nat.reduceBEq, Int.reduceNeg] }; refine condO_some ?_)
    | ((with_reducible refine callP_id ?_); conv => { arg 2; simp (disch := first | assumption | omega) only [push_cast, ↓reduceIte, reduceIte, Nat.reduceEqDiff, Nat.reduceAdd, Nat.reduceSub, Nat.reduceMul, Nat.reduceBEq, Int.reduceNeg] }; conv => { arg 3; simp (disch := first | assumption | omega) only [push_cast, ↓reduceIte, reduceIte, Nat.reduceEqDiff, Nat.reduceAdd, Nat.reduceSub, Nat.reduceMul, Nat.reduceBEq, Int.reduceNeg] }; first | refine callP_plain ?_ | refine callP_yield ?_ | (refine callP_func ?_; conv => { arg 3; simp only [push_cast] }))
    | ((with_reducible refine resP_id ?_); conv => { arg 1; simp (disch := first | assumption | omega) only [push_cast, ↓reduceIte, reduceIte, Nat.reduceEqDiff, Nat.reduceAdd, Nat.reduceSub, Nat.reduceMul, Nat.reduceBEq, Int.reduceNeg] }; first | refine resP_one ?_ | refine resP_two ?_ | refine resP_three ?_ | refine resP_zero ?_)
    | refine wk_seq ?_ | refine wk_block ?_ | refine wk_scope ?_ | refine wk_inBlock ?_ | refine wk_inScope ?_ | refine wk_skip ?_ | refine wk_label ?_ | refine wk_region ?_ | refine wk_draw (by kernel_rfl) (by decide +kernel) ?_ | refine wo_nil ?_ | refine wk_exit ?_ | refine exitK_code ?_ | refine exitK_hit ?_ | refine exitK_miss rfl ?_ | refine exitK_inLoop ?_ | refine exitK_inScope ?_ | refine wk_cond ?_ | refine wk_ret ?_ | refine wk_nil ?_ | refine wo_dst rfl (opR_call ?_) | refine wo_nodst (opR_call ?_) | refine wo_dst rfl (opR_pick ?_) | refine wo_guard rfl rfl ?_ | refine wo_guardn rfl ?_ | refine wo_dst rfl (opR_pure ?_) | refine wo_nodst (opR_pure ?_)
    | refine give_ret ?_ | refine give_end ?_)
    refine (isr_w a b (by omega) (by omega) _).mono ?_
    rintro _ h1 ⟨rfl, g1⟩; have n1 := g1.1; have k1 := g1.2; try simp only [next_new, next_set] at n1 k1
    repeat' (first
    | ((with_reducible refine optP_id ?_); conv => { arg 1; simp (disch := first | assumption | omega) only [push_cast, ↓reduceIte, reduceIte, Nat.reduceEqDiff, Nat.reduceAdd, Nat.reduceSub, Nat.reduceMul, Nat.reduceBEq, Int.reduceNeg, k1] }; refine optP_some ?_)
    | ((with_reducible refine condP_id ?_); conv => { arg 1; simp (disch := first | assumption | omega) only [push_cast, ↓reduceIte, reduceIte, Nat.reduceEqDiff, Nat.reduceAdd, Nat.reduceSub, Nat.reduceMul, Nat.reduceBEq, Int.reduceNeg, k1] }; first | refine condP_yes (by first | assumption | exact fun hn => hn (by assumption) | omega | decide) ?_ | refine condP_non (by assumption) ?_ | refine condP_no (by first | assumption | omega | decide) ?_ | refine condP_decn (fun hc => ?_) (fun hc => ?_) | refine condP_dec (fun hc => ?_) (fun hc => ?_) | refine condP_true (by first | assumption | rfl) ?_ | refine condP_false (by first | assumption | rfl) ?_ | refine condP_bool (fun hc => ?_) (fun hc => ?_))
    | ((with_reducible refine condO_id ?_); conv => { arg 1; simp (disch := first | assumption | omega) only [push_cast, ↓reduceIte, reduceIte, Nat.reduceEqDiff, Nat.reduceAdd, Nat.reduceSub, Nat.reduceMul, Nat.reduceBEq, Int.reduceNeg, k1] }; refine condO_some ?_)
    | ((with_reducible refine callP_id ?_); conv => { arg 2; simp (disch := first | assumption | omega) only [push_cast, ↓reduceIte, reduceIte, Nat.reduceEqDiff, Nat.reduceAdd, Nat.reduceSub, Nat.reduceMul, Nat.reduceBEq, Int.reduceNeg, k1] }; conv => { arg 3; simp (disch := first | assumption | omega) only [push_cast, ↓reduceIte, reduceIte, Nat.reduceEqDiff, Nat.reduceAdd, Nat.reduceSub, Nat.reduceMul, Nat.reduceBEq, Int.reduceNeg, k1] }; first | refine callP_plain ?_ | refine callP_yield ?_ | (refine callP_func ?_; conv => { arg 3; simp only [push_cast] }))
    | ((with_reducible refine resP_id ?_); conv => { arg 1; simp (disch := first | assumption | omega) only [push_cast, ↓reduceIte, reduceIte, Nat.reduceEqDiff, Nat.reduceAdd, Nat.reduceSub, Nat.reduceMul, Nat.reduceBEq, Int.reduceNeg, k1] }; first | refine resP_one ?_ | refine resP_two ?_ | refine resP_three ?_ | refine resP_zero ?_)
    | refine wk_seq ?_ | refine wk_block ?_ | refine wk_scope ?_ | refine wk_inBlock ?_ | refine wk_inScope ?_ | refine wk_skip ?_ | refine wk_label ?_ | refine wk_region ?_ | refine wk_draw (by kernel_rfl) (by decide +kernel) ?_ | refine wo_nil ?_ | refine wk_exit ?_ | refine exitK_code ?_ | refine exitK_hit ?_ | refine exitK_miss rfl ?_ | refine exitK_inLoop ?_ | refine exitK_inScope ?_ | refine wk_cond ?_ | refine wk_ret ?_ | refine wk_nil ?_ | refine wo_dst rfl (opR_call ?_) | refine wo_nodst (opR_call ?_) | refine wo_dst rfl (opR_pick ?_) | refine wo_guard rfl rfl ?_ | refine wo_guardn rfl ?_ | refine wo_dst rfl (opR_pure ?_) | refine wo_nodst (opR_pure ?_)
    | refine give_ret ?_ | refine give_end ?_)
    exact ⟨by rw [floorV, if_neg hab], by (repeat (first | exact Gr.refl _ | assumption | (refine Gr.trans ?_ (by assumption)) | refine Gr.set ?_ (by first | exact Nat.le_refl _ | omega | (simp only [next_new, next_set]; omega)) _ | refine Gr.new ?_ _))⟩

/-- what Ratio makes of a fraction -/
theorem ratF_cases {n d : Int} (hd : 0 < d) : (∃ g n' d', 0 < g ∧ n = g * n' ∧ d = g * d' ∧ IsR n' d' ∧ ratF n d = (n', d', 0)) ∨ ratF n d = (0, 0, 6) := by
  have hg : 0 < n.natAbs.gcd d.natAbs := gcd_pos' (by omega)
  have e1 : n.natAbs.gcd d.natAbs * (n.natAbs / n.natAbs.gcd d.natAbs) = n.natAbs := Nat.mul_div_cancel' (Nat.gcd_dvd_left _ _)
  have e2 : n.natAbs.gcd d.natAbs * (d.natAbs / n.natAbs.gcd d.natAbs) = d.natAbs := Nat.mul_div_cancel' (Nat.gcd_dvd_right _ _)
  have e3 : (n.natAbs / n.natAbs.gcd d.natAbs).gcd (d.natAbs / n.natAbs.gcd d.natAbs) = 1 := Nat.coprime_div_gcd_div_gcd hg
  rw [← ratF_pos hd, mkR]
  generalize n.natAbs / n.natAbs.gcd d.natAbs = n1 at *
  generalize d.natAbs / n.natAbs.gcd d.natAbs = d1 at *
  generalize n.natAbs.gcd d.natAbs = g at *
  by_cases c1 : 1099511627776 < n1
  · exact .inr (by rw [if_pos c1])
  · rw [if_neg c1]
    by_cases c2 : 1048576 < d1
    · exact .inr (by rw [if_pos c2])
    · rw [if_neg c2]
      left
      have hd1 : 0 < d1 := by
        rcases Nat.eq_zero_or_pos d1 with h | h
        · rw [h, Nat.mul_zero] at e2; omega
        · exact h
      have k2 : d = (g : Int) * (d1 : Int) := by
        have : ((g * d1 : Nat) : Int) = (d.natAbs : Int) := by rw [e2]
        rw [Int.natCast_mul] at this; omega
      have k1 : (n.natAbs : Int) = (g : Int) * (n1 : Int) := by
        have : ((g * n1 : Nat) : Int) = (n.natAbs : Int) := by rw [e1]
        rw [Int.natCast_mul] at this; omega
      by_cases hn : n < 0
      · refine ⟨g, -(n1 : Int), d1, by omega, ?_, k2, ⟨by omega, by omega, by omega, by rw [Int.natAbs_neg]; exact e3⟩, ?_⟩
        · rw [Int.mul_neg]; omega
        · rw [decide_eq_true hn]; rfl
      · refine ⟨g, (n1 : Int), d1, by omega, by omega, k2, ⟨by omega, by omega, by omega, e3⟩, ?_⟩
        rw [decide_eq_false hn]; rfl
theorem isr_unique {a b c d : Int} (h : IsR a b) (h' : IsR c d) (e : a * d = c * b) : a = c ∧ b = d := by
  have hb := h.1
  have hd := h'.1
  have n1 : a.natAbs * d.natAbs = c.natAbs * b.natAbs := by rw [← Int.natAbs_mul, ← Int.natAbs_mul, e]
  have c1 : Nat.Coprime a.natAbs b.natAbs := h.2.2.2
  have c2 : Nat.Coprime c.natAbs d.natAbs := h'.2.2.2
  have d1 : b.natAbs ∣ d.natAbs := (Nat.Coprime.dvd_of_dvd_mul_left c1.symm (by rw [n1]; exact Nat.dvd_mul_left _ _))
  have d2 : d.natAbs ∣ b.natAbs := (Nat.Coprime.dvd_of_dvd_mul_left c2.symm (by rw [← n1]; exact Nat.dvd_mul_left _ _))
  have e1 : b.natAbs = d.natAbs := Nat.dvd_antisymm d1 d2
  have e2 : b = d := by omega
  subst e2
  exact ⟨Int.eq_of_mul_eq_mul_right (by omega) e, rfl⟩
theorem ratF_self {n d : Int} (h : IsR n d) : ratF n d = (n, d, 0) := by
  have hd : 0 < d := h.1
  have h1 : n.natAbs.gcd d.natAbs = 1 := h.2.2.2
  rw [← ratF_pos hd, mkR, h1, Nat.div_one, Nat.div_one, if_neg (by have := h.2.2.1; omega), if_neg (by have := h.2.1; omega)]
  by_cases hn : n < 0
  · rw [decide_eq_true hn, if_pos rfl]
    have : -((n.natAbs : Nat) : Int) = n := by omega
    have h2 : ((d.natAbs : Nat) : Int) = d := by omega
    rw [this, h2]
  · rw [decide_eq_false hn, if_neg (by decide)]
    have : ((n.natAbs : Nat) : Int) = n := by omega
    have h2 : ((d.natAbs : Nat) : Int) = d := by omega
    rw [this, h2]
/-- a fraction that is a ratio times a number is made to the ratio -/
theorem ratF_mul {g n d n' d' : Int} (hd : 0 < d) (h : IsR n' d') (e : n * d' = n' * d) : ratF n d = (n', d', 0) := by
  have hd' : 0 < d' := h.1
  have key : n.natAbs.gcd d.natAbs * d'.natAbs = d.natAbs ∧ n.natAbs.gcd d.natAbs * n'.natAbs = n.natAbs := by
    have c1 : Nat.Coprime n'.natAbs d'.natAbs := h.2.2.2
    have e1 : n.natAbs * d'.natAbs = n'.natAbs * d.natAbs := by rw [← Int.natAbs_mul, ← Int.natAbs_mul, e]
    have k1 : d'.natAbs ∣ d.natAbs := c1.symm.dvd_of_dvd_mul_left (by rw [← e1]; exact Nat.dvd_mul_left _ _)
    obtain ⟨k, hk⟩ := k1
    have hn : n.natAbs = n'.natAbs * k := by
      have : n.natAbs * d'.natAbs = (n'.natAbs * k) * d'.natAbs := by rw [e1, hk, Nat.mul_assoc, Nat.mul_comm k]
      exact Nat.eq_of_mul_eq_mul_right (by omega) this
    have hg : n.natAbs.gcd d.natAbs = k := by
      rw [hn, hk, Nat.mul_comm d'.natAbs k, Nat.mul_comm n'.natAbs k, Nat.gcd_mul_left, c1.gcd_eq_one, Nat.mul_one]
    rw [hg, hk, hn]
    exact ⟨Nat.mul_comm _ _, Nat.mul_comm _ _⟩
  have hg : 0 < n.natAbs.gcd d.natAbs := gcd_pos' (by omega)
  have q1 : n.natAbs / n.natAbs.gcd d.natAbs = n'.natAbs := by
    rw [Nat.div_eq_of_eq_mul_right hg key.2.symm]
  have q2 : d.natAbs / n.natAbs.gcd d.natAbs = d'.natAbs := by
    rw [Nat.div_eq_of_eq_mul_right hg key.1.symm]
  have hs : (n < 0 ↔ n' < 0) := by
    constructor
    · intro hn
      have : n * d' < 0 := Int.mul_neg_of_neg_of_pos hn hd'
      rw [e] at this
      rcases Int.lt_or_le n' 0 with h1 | h1
      · exact h1
      · have := Int.mul_nonneg h1 (show 0 ≤ d by omega); omega
    · intro hn
      have : n' * d < 0 := Int.mul_neg_of_neg_of_pos hn hd
      rw [← e] at this
      rcases Int.lt_or_le n 0 with h1 | h1
      · exact h1
      · have := Int.mul_nonneg h1 (show 0 ≤ d' by omega); omega
  rw [← ratF_pos hd, mkR, q1, q2, if_neg (by have := h.2.2.1; omega), if_neg (by have := h.2.1; omega)]
  by_cases hn : n < 0
  · have := hs.1 hn
    rw [decide_eq_true hn, if_pos rfl]
    have h1 : -((n'.natAbs : Nat) : Int) = n' := by omega
    have h2 : ((d'.natAbs : Nat) : Int) = d' := by omega
    rw [h1, h2]
  · have : ¬ n' < 0 := fun h => hn (hs.2 h)
    rw [decide_eq_false hn, if_neg (by decide)]
    have h1 : ((n'.natAbs : Nat) : Int) = n' := by omega
    have h2 : ((d'.natAbs : Nat) : Int) = d' := by omega
    rw [h1, h2]
end Go.Proofs.Ytomamgmefpmnpaa
