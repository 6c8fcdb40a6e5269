/- Contract: (quotient).ratio. -/
import Derived.Test.YtemdclffpnejjaaQ3
set_option linter.unusedSimpArgs false
set_option linter.unusedVariables false
namespace Go.Proofs.Ytemdclffpnejjaa
open Go.Ev
def sgn (n d : Int) : Bool := decide (n < 0) != decide (d < 0)
theorem sgn_cross {N D n d : Int} (hN : N ≠ 0) (hD : D ≠ 0) (hn : n ≠ 0) (hd : d ≠ 0) (e : N * d = n * D) : sgn N D = sgn n d := by
  have p1 : ∀ a b : Int, a < 0 → b < 0 → 0 < a * b := fun a b => Int.mul_pos_of_neg_of_neg
  have p2 : ∀ a b : Int, a < 0 → 0 < b → a * b < 0 := fun a b => Int.mul_neg_of_neg_of_pos
  have p3 : ∀ a b : Int, 0 < a → b < 0 → a * b < 0 := fun a b => Int.mul_neg_of_pos_of_neg
  have p4 : ∀ a b : Int, 0 < a → 0 < b → 0 < a * b := fun a b => Int.mul_pos
  unfold sgn
  by_cases h1 : N < 0 <;> by_cases h2 : D < 0 <;> by_cases h3 : n < 0 <;> by_cases h4 : d < 0 <;> simp [h1, h2, h3, h4]
  all_goals
    have q1 := p1 N d
    have q2 := p2 N d
    have q3 := p3 N d
    have q4 := p4 N d
    have r1 := p1 n D
    have r2 := p2 n D
    have r3 := p3 n D
    have r4 := p4 n D
    omega
theorem cross_div {N D n d : Nat} (hD : D ≠ 0) (hd : d ≠ 0) (hc : Nat.gcd n d = 1) (e : N * d = n * D) : N / N.gcd D = n ∧ D / N.gcd D = d := by
  have hdv : d ∣ D := (Nat.Coprime.symm hc).dvd_of_dvd_mul_left (by rw [← e]; exact Nat.dvd_mul_left _ _)
  obtain ⟨k, hk⟩ := hdv
  have hN : N = n * k := by
    have : N * d = (n * k) * d := by rw [e, hk, Nat.mul_assoc, Nat.mul_comm k]
    exact Nat.eq_of_mul_eq_mul_right (by omega) this
  have hk0 : 0 < k := by
    rcases Nat.eq_zero_or_pos k with h | h
    · rw [h, Nat.mul_zero] at hk; omega
    · exact h
  have hg : N.gcd D = k := by
    rw [hN, hk, Nat.mul_comm d k, Nat.mul_comm n k, Nat.gcd_mul_left, hc, Nat.mul_one]
  rw [hg, hN, hk]
  exact ⟨Nat.mul_div_cancel _ hk0, Nat.mul_div_cancel _ hk0⟩
theorem mkR_cross {N D n d : Int} (hN : N ≠ 0) (hD : D ≠ 0) (hn : n ≠ 0) (hd : d ≠ 0) (hc : Nat.gcd n.natAbs d.natAbs = 1) (e : N * d = n * D) :
    mkR (sgn N D) N.natAbs D.natAbs = if 1099511627776 < n.natAbs then (0, 0, 6) else if 1048576 < d.natAbs then (0, 0, 6) else if sgn n d then (-((n.natAbs : Nat) : Int), ((d.natAbs : Nat) : Int), 0) else (((n.natAbs : Nat) : Int), ((d.natAbs : Nat) : Int), 0) := by
  obtain ⟨k1, k2⟩ := cross_div (N := N.natAbs) (D := D.natAbs) (n := n.natAbs) (d := d.natAbs) (by omega) (by omega) hc (by rw [← Int.natAbs_mul, ← Int.natAbs_mul, e])
  rw [mkR, k1, k2, sgn_cross hN hD hn hd e]
/-- the ratio of a fraction of any size -/
def ratQ (N D : Int) : Int × Int × Int := if N = 0 then (0, 1, 0) else mkR (sgn N D) N.natAbs D.natAbs
theorem prodL_zero {l : List Int} : prodL l = 0 ↔ (0 : Int) ∈ l := by
  constructor
  · intro h
    refine Classical.byContradiction fun hn => ?_
    have := prodL_ne (l := l) (fun x hx h0 => hn (h0 ▸ hx)) l.length l.length rfl (Nat.le_refl _)
    rw [List.take_length] at this
    exact this h
  · intro h
    obtain ⟨k, hk, e⟩ := List.getElem_of_mem h
    rw [prodL_set hk (g := 0) (x := 0) (by rw [e]; rfl), Int.zero_mul]

set_option maxRecDepth 100000 in
set_option maxHeartbeats 8000000 in
theorem qratio_w (U0 D0 : List Int) (hU : ∀ x ∈ U0, x.natAbs ≤ 1099511627776) (hD : ∀ x ∈ D0, x ≠ 0 ∧ x.natAbs ≤ 1099511627776) (neU : U0 ≠ []) (neD : D0 ≠ []) (nU : U0.length ≤ 1000000) (nD : D0.length ≤ 1000000) (vu vd : Value) (h : AHeap) (hvu : IntsIn .i64 h vu U0) (hvd : IntsIn .i64 h vd D0) :
    Wc pr (.func 89) [.agg #[vu, vd]] h fun r h' => r = ratV (ratQ (prodL U0) (prodL D0)) ∧ Gr h h' := by
  have hvu' := hvu
  have hvd' := hvd
  obtain ⟨a, c, rfl, hv⟩ := hvu
  obtain ⟨a', c', rfl, hv'⟩ := hvd
  obtain ⟨pu, ou, au, eu, wu, rfl, pu1, pu2, pu3⟩ := hv neU
  obtain ⟨pd, od, ad, ed, wd, rfl, pd1, pd2, pd3⟩ := hv' neD
  clear hv hv'
  refine wc_func Try.func89 rfl rfl rfl rfl ?_
  repeat' (first
    | ((with_reducible refine optP_id ?_); conv => { arg 1; simp (disch := first | assumption | omega) only [push_cast, ↓reduceIte, reduceIte, Nat.reduceEqDiff, Nat.reduceAdd, Nat.reduceSub, Nat.reduceMul, Nat.reduceBEq, Int.reduceNeg] }; refine optP_some ?_)
    | ((with_reducible refine condP_id ?_); conv => { arg 1; simp (disch := first | assumption | omega) only [push_cast, ↓reduceIte, reduceIte, Nat.reduceEqDiff, Nat.reduceAdd, Nat.reduceSub, Nat.reduceMul, Nat.reduceBEq, Int.reduceNeg] }; first | refine condP_yes (by first | assumption | exact fun hn => hn (by assumption) | omega | decide) ?_ | refine condP_non (by assumption) ?_ | refine condP_no (by first | assumption | omega | decide) ?_ | refine condP_decn (fun hc => ?_) (fun hc => ?_) | refine condP_dec (fun hc => ?_) (fun hc => ?_) | refine condP_true (by first | assumption | rfl) ?_ | refine condP_false (by first | assumption | rfl) ?_ | refine condP_bool (fun hc => ?_) (fun hc => ?_))
    | ((with_reducible refine condO_id ?_); conv => { arg 1; simp (disch := first | assumption | omega) only [push_cast, ↓reduceIte, reduceIte, Nat.reduceEqDiff, Nat.reduceAdd, Nat.reduceSub, Nat.reduceMul, Nat.reduceBEq, Int.reduceNeg] }; refine condO_some ?_)
    | ((with_reducible refine callP_id ?_); conv => { arg 2; simp (disch := first | assumption | omega) only [push_cast, ↓reduceIte, reduceIte, Nat.reduceEqDiff, Nat.reduceAdd, Nat.reduceSub, Nat.reduceMul, Nat.reduceBEq, Int.reduceNeg] }; conv => { arg 3; simp (disch := first | assumption | omega) only [push_cast, ↓reduceIte, reduceIte, Nat.reduceEqDiff, Nat.reduceAdd, Nat.reduceSub, Nat.reduceMul, Nat.reduceBEq, Int.reduceNeg] }; first | refine callP_plain ?_ | refine callP_yield ?_ | (refine callP_func ?_; conv => { arg 3; simp only [push_cast] }))
    | ((with_reducible refine resP_id ?_); conv => { arg 1; simp (disch := first | assumption | omega) only [push_cast, ↓reduceIte, reduceIte, Nat.reduceEqDiff, Nat.reduceAdd, Nat.reduceSub, Nat.reduceMul, Nat.reduceBEq, Int.reduceNeg] }; first | refine resP_one ?_ | refine resP_two ?_ | refine resP_three ?_ | refine resP_zero ?_)
    | refine wk_seq ?_ | refine wk_block ?_ | refine wk_scope ?_ | refine wk_inBlock ?_ | refine wk_inScope ?_ | refine wk_skip ?_ | refine wk_label ?_ | refine wk_region ?_ | refine wk_draw (by kernel_rfl) (by decide +kernel) ?_ | refine wo_nil ?_ | refine wk_exit ?_ | refine exitK_code ?_ | refine exitK_hit ?_ | refine exitK_miss rfl ?_ | refine exitK_inLoop ?_ | refine exitK_inScope ?_ | refine wk_cond ?_ | refine wk_ret ?_ | refine wk_nil ?_ | refine wo_dst rfl (opR_call ?_) | refine wo_nodst (opR_call ?_) | refine wo_dst rfl (opR_pick ?_) | refine wo_guard rfl rfl ?_ | refine wo_guardn rfl ?_ | refine wo_dst rfl (opR_pure ?_) | refine wo_nodst (opR_pure ?_)
    | refine give_ret ?_ | refine give_end ?_)
  refine (contains_w U0 0 _ _ (intsIn_gr hvu' (by (repeat (first | exact Gr.refl _ | assumption | (refine Gr.trans ?_ (by assumption)) | refine Gr.set ?_ (by first | exact Nat.le_refl _ | omega | (simp only [next_new, next_set]; omega)) _ | refine Gr.new ?_ _)))) (by omega)).mono ?_
  rintro _ _ ⟨rfl, rfl⟩
  repeat' (first
    | ((with_reducible refine optP_id ?_); conv => { arg 1; simp (disch := first | assumption | omega) only [push_cast, ↓reduceIte, reduceIte, Nat.reduceEqDiff, Nat.reduceAdd, Nat.reduceSub, Nat.reduceMul, Nat.reduceBEq, Int.reduceNeg] }; refine optP_some ?_)
    | ((with_reducible refine condP_id ?_); conv => { arg 1; simp (disch := first | assumption | omega) only [push_cast, ↓reduceIte, reduceIte, Nat.reduceEqDiff, Nat.reduceAdd, Nat.reduceSub, Nat.reduceMul, Nat.reduceBEq, Int.reduceNeg] }; first | refine condP_yes (by first | assumption | exact fun hn => hn (by assumption) | omega | decide) ?_ | refine condP_non (by assumption) ?_ | refine condP_no (by first | assumption | omega | decide) ?_ | refine condP_decn (fun hc => ?_) (fun hc => ?_) | refine condP_dec (fun hc => ?_) (fun hc => ?_) | refine condP_true (by first | assumption | rfl) ?_ | refine condP_false (by first | assumption | rfl) ?_ | refine condP_bool (fun hc => ?_) (fun hc => ?_))
    | ((with_reducible refine condO_id ?_); conv => { arg 1; simp (disch := first | assumption | omega) only [push_cast, ↓reduceIte, reduceIte, Nat.reduceEqDiff, Nat.reduceAdd, Nat.reduceSub, Nat.reduceMul, Nat.reduceBEq, Int.reduceNeg] }; refine condO_some ?_)
    | ((with_reducible refine callP_id ?_); conv => { arg 2; simp (disch := first | assumption | omega) only [push_cast, ↓reduceIte, reduceIte, Nat.reduceEqDiff, Nat.reduceAdd, Nat.reduceSub, Nat.reduceMul, Nat.reduceBEq, Int.reduceNeg] }; conv => { arg 3; simp (disch := first | assumption | omega) only [push_cast, ↓reduceIte, reduceIte, Nat.reduceEqDiff, Nat.reduceAdd, Nat.reduceSub, Nat.reduceMul, Nat.reduceBEq, Int.reduceNeg] }; first | refine callP_plain ?_ | refine callP_yield ?_ | (refine callP_func ?_; conv => { arg 3; simp only [push_cast] }))
    | ((with_reducible refine resP_id ?_); conv => { arg 1; simp (disch := first | assumption | omega) only [push_cast, ↓reduceIte, reduceIte, Nat.reduceEqDiff, Nat.reduceAdd, Nat.reduceSub, Nat.reduceMul, Nat.reduceBEq, Int.reduceNeg] }; first | refine resP_one ?_ | refine resP_two ?_ | refine resP_three ?_ | refine resP_zero ?_)
    | refine wk_seq ?_ | refine wk_block ?_ | refine wk_scope ?_ | refine wk_inBlock ?_ | refine wk_inScope ?_ | refine wk_skip ?_ | refine wk_label ?_ | refine wk_region ?_ | refine wk_draw (by kernel_rfl) (by decide +kernel) ?_ | refine wo_nil ?_ | refine wk_exit ?_ | refine exitK_code ?_ | refine exitK_hit ?_ | refine exitK_miss rfl ?_ | refine exitK_inLoop ?_ | refine exitK_inScope ?_ | refine wk_cond ?_ | refine wk_ret ?_ | refine wk_nil ?_ | refine wo_dst rfl (opR_call ?_) | refine wo_nodst (opR_call ?_) | refine wo_dst rfl (opR_pick ?_) | refine wo_guard rfl rfl ?_ | refine wo_guardn rfl ?_ | refine wo_dst rfl (opR_pure ?_) | refine wo_nodst (opR_pure ?_)
    | refine give_ret ?_ | refine give_end ?_)
  · refine ⟨?_, by (repeat (first | exact Gr.refl _ | assumption | (refine Gr.trans ?_ (by assumption)) | refine Gr.set ?_ (by first | exact Nat.le_refl _ | omega | (simp only [next_new, next_set]; omega)) _ | refine Gr.new ?_ _))⟩
    rw [ratQ, if_pos (prodL_zero.2 hc)]; rfl
  · have hU2 : ∀ x ∈ U0, x ≠ 0 ∧ x.natAbs ≤ 1099511627776 := fun x hx => ⟨fun h0 => hc (h0 ▸ hx), hU x hx⟩
    refine (canc_w U0 D0 hU2 hD neU neD nU nD _ _ _ (intsIn_gr hvu' (by (repeat (first | exact Gr.refl _ | assumption | (refine Gr.trans ?_ (by assumption)) | refine Gr.set ?_ (by first | exact Nat.le_refl _ | omega | (simp only [next_new, next_set]; omega)) _ | refine Gr.new ?_ _)))) (intsIn_gr hvd' (by (repeat (first | exact Gr.refl _ | assumption | (refine Gr.trans ?_ (by assumption)) | refine Gr.set ?_ (by first | exact Nat.le_refl _ | omega | (simp only [next_new, next_set]; omega)) _ | refine Gr.new ?_ _))))).mono ?_
    rintro _ h1 ⟨⟨U, D, wu, wd, rfl, hwu, hwd, hcan⟩, g1⟩; have n1 := g1.1; have k1 := g1.2; try simp only [next_new, next_set] at n1 k1
    have hcop := cancel_end hcan (Nat.le_refl _)
    have hcross := hcan.eq
    have bU : ∀ x ∈ U, x ≠ 0 ∧ -9223372036854775808 ≤ x ∧ x ≤ 9223372036854775807 := fun x hx => by
      obtain ⟨k, hk, rfl⟩ := List.getElem_of_mem hx
      have hk0 : k < U0.length := by rw [← hcan.lu]; exact hk
      have := Nat.le_trans (hcan.bu k hk hk0) (hU2 _ (List.getElem_mem hk0)).2
      exact ⟨hcan.nu _ hx, by omega, by omega⟩
    have bD : ∀ x ∈ D, x ≠ 0 ∧ -9223372036854775808 ≤ x ∧ x ≤ 9223372036854775807 := fun x hx => by
      obtain ⟨k, hk, rfl⟩ := List.getElem_of_mem hx
      have hk0 : k < D0.length := by rw [← hcan.ld]; exact hk
      have := Nat.le_trans (hcan.bd k hk hk0) (hD _ (List.getElem_mem hk0)).2
      exact ⟨hcan.nd _ hx, by omega, by omega⟩
    have lU := hcan.lu
    have lD := hcan.ld
    obtain ⟨xa, xc, rfl, xv⟩ := hwu
    obtain ⟨ya, yc, rfl, yv⟩ := hwd
    repeat' (first
    | ((with_reducible refine optP_id ?_); conv => { arg 1; simp (disch := first | assumption | omega) only [push_cast, ↓reduceIte, reduceIte, Nat.reduceEqDiff, Nat.reduceAdd, Nat.reduceSub, Nat.reduceMul, Nat.reduceBEq, Int.reduceNeg, k1] }; refine optP_some ?_)
    | ((with_reducible refine condP_id ?_); conv => { arg 1; simp (disch := first | assumption | omega) only [push_cast, ↓reduceIte, reduceIte, Nat.reduceEqDiff, Nat.reduceAdd, Nat.reduceSub, Nat.reduceMul, Nat.reduceBEq, Int.reduceNeg, k1] }; first | refine condP_yes (by first | assumption | exact fun hn => hn (by assumption) | omega | decide) ?_ | refine condP_non (by assumption) ?_ | refine condP_no (by first | assumption | omega | decide) ?_ | refine condP_decn (fun hc => ?_) (fun hc => ?_) | refine condP_dec (fun hc => ?_) (fun hc => ?_) | refine condP_true (by first | assumption | rfl) ?_ | refine condP_false (by first | assumption | rfl) ?_ | refine condP_bool (fun hc => ?_) (fun hc => ?_))
    | ((with_reducible refine condO_id ?_); conv => { arg 1; simp (disch := first | assumption | omega) only [push_cast, ↓reduceIte, reduceIte, Nat.reduceEqDiff, Nat.reduceAdd, Nat.reduceSub, Nat.reduceMul, Nat.reduceBEq, Int.reduceNeg, k1] }; refine condO_some ?_)
    | ((with_reducible refine callP_id ?_); conv => { arg 2; simp (disch := first | assumption | omega) only [push_cast, ↓reduceIte, reduceIte, Nat.reduceEqDiff, Nat.reduceAdd, Nat.reduceSub, Nat.reduceMul, Nat.reduceBEq, Int.reduceNeg, k1] }; conv => { arg 3; simp (disch := first | assumption | omega) only [push_cast, ↓reduceIte, reduceIte, Nat.reduceEqDiff, Nat.reduceAdd, Nat.reduceSub, Nat.reduceMul, Nat.reduceBEq, Int.reduceNeg, k1] }; first | refine callP_plain ?_ | refine callP_yield ?_ | (refine callP_func ?_; conv => { arg 3; simp only [push_cast] }))
    | ((with_reducible refine resP_id ?_); conv => { arg 1; simp (disch := first | assumption | omega) only [push_cast, ↓reduceIte, reduceIte, Nat.reduceEqDiff, Nat.reduceAdd, Nat.reduceSub, Nat.reduceMul, Nat.reduceBEq, Int.reduceNeg, k1] }; first | refine resP_one ?_ | refine resP_two ?_ | refine resP_three ?_ | refine resP_zero ?_)
    | refine wk_seq ?_ | refine wk_block ?_ | refine wk_scope ?_ | refine wk_inBlock ?_ | refine wk_inScope ?_ | refine wk_skip ?_ | refine wk_label ?_ | refine wk_region ?_ | refine wk_draw (by kernel_rfl) (by decide +kernel) ?_ | refine wo_nil ?_ | refine wk_exit ?_ | refine exitK_code ?_ | refine exitK_hit ?_ | refine exitK_miss rfl ?_ | refine exitK_inLoop ?_ | refine exitK_inScope ?_ | refine wk_cond ?_ | refine wk_ret ?_ | refine wk_nil ?_ | refine wo_dst rfl (opR_call ?_) | refine wo_nodst (opR_call ?_) | refine wo_dst rfl (opR_pick ?_) | refine wo_guard rfl rfl ?_ | refine wo_guardn rfl ?_ | refine wo_dst rfl (opR_pure ?_) | refine wo_nodst (opR_pure ?_)
    | refine give_ret ?_ | refine give_end ?_)
    have N0 : prodL U0 ≠ 0 := fun h => hc (prodL_zero.1 h)
    have D0' : prodL D0 ≠ 0 := fun h => (hD _ (prodL_zero.1 h)).1 rfl
    have n0 : prodL U ≠ 0 := fun h => (bU _ (prodL_zero.1 h)).1 rfl
    have d0 : prodL D ≠ 0 := fun h => (bD _ (prodL_zero.1 h)).1 rfl
    have hres := mkR_cross N0 D0' n0 d0 hcop hcross
    have w1 : ∀ H, IntsIn .i64 H (.slice xa U.length xc) U → Wc pr (.func 121) [.slice xa U.length xc, .int .u64 1099511627776] H fun r h' => r = .tuple #[.int .i64 (if (prodL U).natAbs ≤ 1099511627776 then prodL U else 0), .bool (decide ((prodL U).natAbs ≤ 1099511627776))] ∧ h' = H := fun H hH => mult_w U 1099511627776 (by omega) (by omega) bU _ H hH (by omega)
    have w2 : ∀ H, IntsIn .i64 H (.slice ya D.length yc) D → Wc pr (.func 121) [.slice ya D.length yc, .int .u64 1048576] H fun r h' => r = .tuple #[.int .i64 (if (prodL D).natAbs ≤ 1048576 then prodL D else 0), .bool (decide ((prodL D).natAbs ≤ 1048576))] ∧ h' = H := fun H hH => mult_w D 1048576 (by omega) (by omega) bD _ H hH (by omega)
    have hwu : IntsIn .i64 h1 (.slice xa U.length xc) U := ⟨xa, xc, rfl, xv⟩
    have hwd : IntsIn .i64 h1 (.slice ya D.length yc) D := ⟨ya, yc, rfl, yv⟩
    by_cases hfu : (prodL U).natAbs ≤ 1099511627776
    · by_cases hfd : (prodL D).natAbs ≤ 1048576
      · rw [if_neg (by omega), if_neg (by omega)] at hres
        simp only [if_pos hfu, decide_eq_true hfu] at w1
        simp only [if_pos hfd, decide_eq_true hfd] at w2
        refine (w1 _ (intsIn_gr hwu (by (repeat (first | exact Gr.refl _ | assumption | (refine Gr.trans ?_ (by assumption)) | refine Gr.set ?_ (by first | exact Nat.le_refl _ | omega | (simp only [next_new, next_set]; omega)) _ | refine Gr.new ?_ _))))).mono ?_
        rintro _ _ ⟨rfl, rfl⟩
        repeat' (first
    | ((with_reducible refine optP_id ?_); conv => { arg 1; simp (disch := first | assumption | omega) only [push_cast, ↓reduceIte, reduceIte, Nat.reduceEqDiff, Nat.reduceAdd, Nat.reduceSub, Nat.reduceMul, Nat.reduceBEq, Int.reduceNeg, k1] }; refine optP_some ?_)
    | ((with_reducible refine condP_id ?_); conv => { arg 1; simp (disch := first | assumption | omega) only [push_cast, ↓reduceIte, reduceIte, Nat.reduceEqDiff, Nat.reduceAdd, Nat.reduceSub, Nat.reduceMul, Nat.reduceBEq, Int.reduceNeg, k1] }; first | refine condP_yes (by first | assumption | exact fun hn => hn (by assumption) | omega | decide) ?_ | refine condP_non (by assumption) ?_ | refine condP_no (by first | assumption | omega | decide) ?_ | refine condP_decn (fun hc => ?_) (fun hc => ?_) | refine condP_dec (fun hc => ?_) (fun hc => ?_) | refine condP_true (by first | assumption | rfl) ?_ | refine condP_false (by first | assumption | rfl) ?_ | refine condP_bool (fun hc => ?_) (fun hc => ?_))
    | ((with_reducible refine condO_id ?_); conv => { arg 1; simp (disch := first | assumption | omega) only [push_cast, ↓reduceIte, reduceIte, Nat.reduceEqDiff, Nat.reduceAdd, Nat.reduceSub, Nat.reduceMul, Nat.reduceBEq, Int.reduceNeg, k1] }; refine condO_some ?_)
    | ((with_reducible refine callP_id ?_); conv => { arg 2; simp (disch := first | assumption | omega) only [push_cast, ↓reduceIte, reduceIte, Nat.reduceEqDiff, Nat.reduceAdd, Nat.reduceSub, Nat.reduceMul, Nat.reduceBEq, Int.reduceNeg, k1] }; conv => { arg 3; simp (disch := first | assumption | omega) only [push_cast, ↓reduceIte, reduceIte, Nat.reduceEqDiff, Nat.reduceAdd, Nat.reduceSub, Nat.reduceMul, Nat.reduceBEq, Int.reduceNeg, k1] }; first | refine callP_plain ?_ | refine callP_yield ?_ | (refine callP_func ?_; conv => { arg 3; simp only [push_cast] }))
    | ((with_reducible refine resP_id ?_); conv => { arg 1; simp (disch := first | assumption | omega) only [push_cast, ↓reduceIte, reduceIte, Nat.reduceEqDiff, Nat.reduceAdd, Nat.reduceSub, Nat.reduceMul, Nat.reduceBEq, Int.reduceNeg, k1] }; first | refine resP_one ?_ | refine resP_two ?_ | refine resP_three ?_ | refine resP_zero ?_)
    | refine wk_seq ?_ | refine wk_block ?_ | refine wk_scope ?_ | refine wk_inBlock ?_ | refine wk_inScope ?_ | refine wk_skip ?_ | refine wk_label ?_ | refine wk_region ?_ | refine wk_draw (by kernel_rfl) (by decide +kernel) ?_ | refine wo_nil ?_ | refine wk_exit ?_ | refine exitK_code ?_ | refine exitK_hit ?_ | refine exitK_miss rfl ?_ | refine exitK_inLoop ?_ | refine exitK_inScope ?_ | refine wk_cond ?_ | refine wk_ret ?_ | refine wk_nil ?_ | refine wo_dst rfl (opR_call ?_) | refine wo_nodst (opR_call ?_) | refine wo_dst rfl (opR_pick ?_) | refine wo_guard rfl rfl ?_ | refine wo_guardn rfl ?_ | refine wo_dst rfl (opR_pure ?_) | refine wo_nodst (opR_pure ?_)
    | refine give_ret ?_ | refine give_end ?_)
        refine (w2 _ (intsIn_gr hwd (by (repeat (first | exact Gr.refl _ | assumption | (refine Gr.trans ?_ (by assumption)) | refine Gr.set ?_ (by first | exact Nat.le_refl _ | omega | (simp only [next_new, next_set]; omega)) _ | refine Gr.new ?_ _))))).mono ?_
        rintro _ _ ⟨rfl, rfl⟩
        repeat' (first
    | ((with_reducible refine optP_id ?_); conv => { arg 1; simp (disch := first | assumption | omega) only [push_cast, ↓reduceIte, reduceIte, Nat.reduceEqDiff, Nat.reduceAdd, Nat.reduceSub, Nat.reduceMul, Nat.reduceBEq, Int.reduceNeg, k1] }; refine optP_some ?_)
    | ((with_reducible refine condP_id ?_); conv => { arg 1; simp (disch := first | assumption | omega) only [push_cast, ↓reduceIte, reduceIte, Nat.reduceEqDiff, Nat.reduceAdd, Nat.reduceSub, Nat.reduceMul, Nat.reduceBEq, Int.reduceNeg, k1] }; first | refine condP_yes (by first | assumption | exact fun hn => hn (by assumption) | omega | decide) ?_ | refine condP_non (by assumption) ?_ | refine condP_no (by first | assumption | omega | decide) ?_ | refine condP_decn (fun hc => ?_) (fun hc => ?_) | refine condP_dec (fun hc => ?_) (fun hc => ?_) | refine condP_true (by first | assumption | rfl) ?_ | refine condP_false (by first | assumption | rfl) ?_ | refine condP_bool (fun hc => ?_) (fun hc => ?_))
    | ((with_reducible refine condO_id ?_); conv => { arg 1; simp (disch := first | assumption | omega) only [push_cast, ↓reduceIte, reduceIte, Nat.reduceEqDiff, Nat.reduceAdd, Nat.reduceSub, Nat.reduceMul, Nat.reduceBEq, Int.reduceNeg, k1] }; refine condO_some ?_)
    | ((with_reducible refine callP_id ?_); conv => { arg 2; simp (disch := first | assumption | omega) only [push_cast, ↓reduceIte, reduceIte, Nat.reduceEqDiff, Nat.reduceAdd, Nat.reduceSub, Nat.reduceMul, Nat.reduceBEq, Int.reduceNeg, k1] }; conv => { arg 3; simp (disch := first | assumption | omega) only [push_cast, ↓reduceIte, reduceIte, Nat.reduceEqDiff, Nat.reduceAdd, Nat.reduceSub, Nat.reduceMul, Nat.reduceBEq, Int.reduceNeg, k1] }; first | refine callP_plain ?_ | refine callP_yield ?_ | (refine callP_func ?_; conv => { arg 3; simp only [push_cast] }))
    | ((with_reducible refine resP_id ?_); conv => { arg 1; simp (disch := first | assumption | omega) only [push_cast, ↓reduceIte, reduceIte, Nat.reduceEqDiff, Nat.reduceAdd, Nat.reduceSub, Nat.reduceMul, Nat.reduceBEq, Int.reduceNeg, k1] }; first | refine resP_one ?_ | refine resP_two ?_ | refine resP_three ?_ | refine resP_zero ?_)
    | refine wk_seq ?_ | refine wk_block ?_ | refine wk_scope ?_ | refine wk_inBlock ?_ | refine wk_inScope ?_ | refine wk_skip ?_ | refine wk_label ?_ | refine wk_region ?_ | refine wk_draw (by kernel_rfl) (by decide +kernel) ?_ | refine wo_nil ?_ | refine wk_exit ?_ | refine exitK_code ?_ | refine exitK_hit ?_ | refine exitK_miss rfl ?_ | refine exitK_inLoop ?_ | refine exitK_inScope ?_ | refine wk_cond ?_ | refine wk_ret ?_ | refine wk_nil ?_ | refine wo_dst rfl (opR_call ?_) | refine wo_nodst (opR_call ?_) | refine wo_dst rfl (opR_pick ?_) | refine wo_guard rfl rfl ?_ | refine wo_guardn rfl ?_ | refine wo_dst rfl (opR_pure ?_) | refine wo_nodst (opR_pure ?_)
    | refine give_ret ?_ | refine give_end ?_)
        refine (ratio_w (prodL U) (prodL D) (by omega) (by omega) (by omega) (by omega) _).mono ?_
        rintro _ h2 ⟨rfl, g2⟩; have n2 := g2.1; have k2 := g2.2; try simp only [next_new, next_set] at n2 k2
        repeat' (first
    | ((with_reducible refine optP_id ?_); conv => { arg 1; simp (disch := first | assumption | omega) only [push_cast, ↓reduceIte, reduceIte, Nat.reduceEqDiff, Nat.reduceAdd, Nat.reduceSub, Nat.reduceMul, Nat.reduceBEq, Int.reduceNeg, k1, k2] }; refine optP_some ?_)
    | ((with_reducible refine condP_id ?_); conv => { arg 1; simp (disch := first | assumption | omega) only [push_cast, ↓reduceIte, reduceIte, Nat.reduceEqDiff, Nat.reduceAdd, Nat.reduceSub, Nat.reduceMul, Nat.reduceBEq, Int.reduceNeg, k1, k2] }; first | refine condP_yes (by first | assumption | exact fun hn => hn (by assumption) | omega | decide) ?_ | refine condP_non (by assumption) ?_ | refine condP_no (by first | assumption | omega | decide) ?_ | refine condP_decn (fun hc => ?_) (fun hc => ?_) | refine condP_dec (fun hc => ?_) (fun hc => ?_) | refine condP_true (by first | assumption | rfl) ?_ | refine condP_false (by first | assumption | rfl) ?_ | refine condP_bool (fun hc => ?_) (fun hc => ?_))
    | ((with_reducible refine condO_id ?_); conv => { arg 1; simp (disch := first | assumption | omega) only [push_cast, ↓reduceIte, reduceIte, Nat.reduceEqDiff, Nat.reduceAdd, Nat.reduceSub, Nat.reduceMul, Nat.reduceBEq, Int.reduceNeg, k1, k2] }; refine condO_some ?_)
    | ((with_reducible refine callP_id ?_); conv => { arg 2; simp (disch := first | assumption | omega) only [push_cast, ↓reduceIte, reduceIte, Nat.reduceEqDiff, Nat.reduceAdd, Nat.reduceSub, Nat.reduceMul, Nat.reduceBEq, Int.reduceNeg, k1, k2] }; conv => { arg 3; simp (disch := first | assumption | omega) only [push_cast, ↓reduceIte, reduceIte, Nat.reduceEqDiff, Nat.reduceAdd, Nat.reduceSub, Nat.reduceMul, Nat.reduceBEq, Int.reduceNeg, k1, k2] }; first | refine callP_plain ?_ | refine callP_yield ?_ | (refine callP_func ?_; conv => { arg 3; simp only [push_cast] }))
    | ((with_reducible refine resP_id ?_); conv => { arg 1; simp (disch := first | assumption | omega) only [push_cast, ↓reduceIte, reduceIte, Nat.reduceEqDiff, Nat.reduceAdd, Nat.reduceSub, Nat.reduceMul, Nat.reduceBEq, Int.reduceNeg, k1, k2] }; first | refine resP_one ?_ | refine resP_two ?_ | refine resP_three ?_ | refine resP_zero ?_)
    | refine wk_seq ?_ | refine wk_block ?_ | refine wk_scope ?_ | refine wk_inBlock ?_ | refine wk_inScope ?_ | refine wk_skip ?_ | refine wk_label ?_ | refine wk_region ?_ | refine wk_draw (by kernel_rfl) (by decide +kernel) ?_ | refine wo_nil ?_ | refine wk_exit ?_ | refine exitK_code ?_ | refine exitK_hit ?_ | refine exitK_miss rfl ?_ | refine exitK_inLoop ?_ | refine exitK_inScope ?_ | refine wk_cond ?_ | refine wk_ret ?_ | refine wk_nil ?_ | refine wo_dst rfl (opR_call ?_) | refine wo_nodst (opR_call ?_) | refine wo_dst rfl (opR_pick ?_) | refine wo_guard rfl rfl ?_ | refine wo_guardn rfl ?_ | refine wo_dst rfl (opR_pure ?_) | refine wo_nodst (opR_pure ?_)
    | refine give_ret ?_ | refine give_end ?_)
        refine ⟨?_, by (repeat (first | exact Gr.refl _ | assumption | (refine Gr.trans ?_ (by assumption)) | refine Gr.set ?_ (by first | exact Nat.le_refl _ | omega | (simp only [next_new, next_set]; omega)) _ | refine Gr.new ?_ _))⟩
        rw [ratQ, if_neg N0, hres, ratV_eq]
        congr 1
        rw [ratF, if_neg d0, mkR, hcop, Nat.div_one, Nat.div_one, if_neg (by omega), if_neg (by omega)]
        rfl
      · rw [if_neg (by omega), if_pos (by omega)] at hres
        simp only [if_pos hfu, decide_eq_true hfu] at w1
        simp only [if_neg hfd, decide_eq_false hfd] at w2
        refine (w1 _ (intsIn_gr hwu (by (repeat (first | exact Gr.refl _ | assumption | (refine Gr.trans ?_ (by assumption)) | refine Gr.set ?_ (by first | exact Nat.le_refl _ | omega | (simp only [next_new, next_set]; omega)) _ | refine Gr.new ?_ _))))).mono ?_
        rintro _ _ ⟨rfl, rfl⟩
        repeat' (first
    | ((with_reducible refine optP_id ?_); conv => { arg 1; simp (disch := first | assumption | omega) only [push_cast, ↓reduceIte, reduceIte, Nat.reduceEqDiff, Nat.reduceAdd, Nat.reduceSub, Nat.reduceMul, Nat.reduceBEq, Int.reduceNeg, k1] }; refine optP_some ?_)
    | ((with_reducible refine condP_id ?_); conv => { arg 1; simp (disch := first | assumption | omega) only [push_cast, ↓reduceIte, reduceIte, Nat.reduceEqDiff, Nat.reduceAdd, Nat.reduceSub, Nat.reduceMul, Nat.reduceBEq, Int.reduceNeg, k1] }; first | refine condP_yes (by first | assumption | exact fun hn => hn (by assumption) | omega | decide) ?_ | refine condP_non (by assumption) ?_ | refine condP_no (by first | assumption | omega | decide) ?_ | refine condP_decn (fun hc => ?_) (fun hc => ?_) | refine condP_dec (fun hc => ?_) (fun hc => ?_) | refine condP_true (by first | assumption | rfl) ?_ | refine condP_false (by first | assumption | rfl) ?_ | refine condP_bool (fun hc => ?_) (fun hc => ?_))
    | ((with_reducible refine condO_id ?_); conv => { arg 1; simp (disch := first | assumption | omega) only [push_cast, ↓reduceIte, reduceIte, Nat.reduceEqDiff, Nat.reduceAdd, Nat.reduceSub, Nat.reduceMul, Nat.reduceBEq, Int.reduceNeg, k1] }; refine condO_some ?_)
    | ((with_reducible refine callP_id ?_); conv => { arg 2; simp (disch := first | assumption | omega) only [push_cast, ↓reduceIte, reduceIte, Nat.reduceEqDiff, Nat.reduceAdd, Nat.reduceSub, Nat.reduceMul, Nat.reduceBEq, Int.reduceNeg, k1] }; conv => { arg 3; simp (disch := first | assumption | omega) only [push_cast, ↓reduceIte, reduceIte, Nat.reduceEqDiff, Nat.reduceAdd, Nat.reduceSub, Nat.reduceMul, Nat.reduceBEq, Int.reduceNeg, k1] }; first | refine callP_plain ?_ | refine callP_yield ?_ | (refine callP_func ?_; conv => { arg 3; simp only [push_cast] }))
    | ((with_reducible refine resP_id ?_); conv => { arg 1; simp (disch := first | assumption | omega) only [push_cast, ↓reduceIte, reduceIte, Nat.reduceEqDiff, Nat.reduceAdd, Nat.reduceSub, Nat.reduceMul, Nat.reduceBEq, Int.reduceNeg, k1] }; first | refine resP_one ?_ | refine resP_two ?_ | refine resP_three ?_ | refine resP_zero ?_)
    | refine wk_seq ?_ | refine wk_block ?_ | refine wk_scope ?_ | refine wk_inBlock ?_ | refine wk_inScope ?_ | refine wk_skip ?_ | refine wk_label ?_ | refine wk_region ?_ | refine wk_draw (by kernel_rfl) (by decide +kernel) ?_ | refine wo_nil ?_ | refine wk_exit ?_ | refine exitK_code ?_ | refine exitK_hit ?_ | refine exitK_miss rfl ?_ | refine exitK_inLoop ?_ | refine exitK_inScope ?_ | refine wk_cond ?_ | refine wk_ret ?_ | refine wk_nil ?_ | refine wo_dst rfl (opR_call ?_) | refine wo_nodst (opR_call ?_) | refine wo_dst rfl (opR_pick ?_) | refine wo_guard rfl rfl ?_ | refine wo_guardn rfl ?_ | refine wo_dst rfl (opR_pure ?_) | refine wo_nodst (opR_pure ?_)
    | refine give_ret ?_ | refine give_end ?_)
        refine (w2 _ (intsIn_gr hwd (by (repeat (first | exact Gr.refl _ | assumption | (refine Gr.trans ?_ (by assumption)) | refine Gr.set ?_ (by first | exact Nat.le_refl _ | omega | (simp only [next_new, next_set]; omega)) _ | refine Gr.new ?_ _))))).mono ?_
        rintro _ _ ⟨rfl, rfl⟩
        repeat' (first
    | ((with_reducible refine optP_id ?_); conv => { arg 1; simp (disch := first | assumption | omega) only [push_cast, ↓reduceIte, reduceIte, Nat.reduceEqDiff, Nat.reduceAdd, Nat.reduceSub, Nat.reduceMul, Nat.reduceBEq, Int.reduceNeg, k1] }; refine optP_some ?_)
    | ((with_reducible refine condP_id ?_); conv => { arg 1; simp (disch := first | assumption | omega) only [push_cast, ↓reduceIte, reduceIte, Nat.reduceEqDiff, Nat.reduceAdd, Nat.reduceSub, Nat.reduceMul, Nat.reduceBEq, Int.reduceNeg, k1] }; first | refine condP_yes (by first | assumption | exact fun hn => hn (by assumption) | omega | decide) ?_ | refine condP_non (by assumption) ?_ | refine condP_no (by first | assumption | omega | decide) ?_ | refine condP_decn (fun hc => ?_) (fun hc => ?_) | refine condP_dec (fun hc => ?_) (fun hc => ?_) | refine condP_true (by first | assumption | rfl) ?_ | refine condP_false (by first | assumption | rfl) ?_ | refine condP_bool (fun hc => ?_) (fun hc => ?_))
    | ((with_reducible refine condO_id ?_); conv => { arg 1; simp (disch := first | assumption | omega) only [push_cast, ↓reduceIte, reduceIte, Nat.reduceEqDiff, Nat.reduceAdd, Nat.reduceSub, Nat.reduceMul, Nat.reduceBEq, Int.reduceNeg, k1] }; refine condO_some ?_)
    | ((with_reducible refine callP_id ?_); conv => { arg 2; simp (disch := first | assumption | omega) only [push_cast, ↓reduceIte, reduceIte, Nat.reduceEqDiff, Nat.reduceAdd, Nat.reduceSub, Nat.reduceMul, Nat.reduceBEq, Int.reduceNeg, k1] }; conv => { arg 3; simp (disch := first | assumption | omega) only [push_cast, ↓reduceIte, reduceIte, Nat.reduceEqDiff, Nat.reduceAdd, Nat.reduceSub, Nat.reduceMul, Nat.reduceBEq, Int.reduceNeg, k1] }; first | refine callP_plain ?_ | refine callP_yield ?_ | (refine callP_func ?_; conv => { arg 3; simp only [push_cast] }))
    | ((with_reducible refine resP_id ?_); conv => { arg 1; simp (disch := first | assumption | omega) only [push_cast, ↓reduceIte, reduceIte, Nat.reduceEqDiff, Nat.reduceAdd, Nat.reduceSub, Nat.reduceMul, Nat.reduceBEq, Int.reduceNeg, k1] }; first | refine resP_one ?_ | refine resP_two ?_ | refine resP_three ?_ | refine resP_zero ?_)
    | refine wk_seq ?_ | refine wk_block ?_ | refine wk_scope ?_ | refine wk_inBlock ?_ | refine wk_inScope ?_ | refine wk_skip ?_ | refine wk_label ?_ | refine wk_region ?_ | refine wk_draw (by kernel_rfl) (by decide +kernel) ?_ | refine wo_nil ?_ | refine wk_exit ?_ | refine exitK_code ?_ | refine exitK_hit ?_ | refine exitK_miss rfl ?_ | refine exitK_inLoop ?_ | refine exitK_inScope ?_ | refine wk_cond ?_ | refine wk_ret ?_ | refine wk_nil ?_ | refine wo_dst rfl (opR_call ?_) | refine wo_nodst (opR_call ?_) | refine wo_dst rfl (opR_pick ?_) | refine wo_guard rfl rfl ?_ | refine wo_guardn rfl ?_ | refine wo_dst rfl (opR_pure ?_) | refine wo_nodst (opR_pure ?_)
    | refine give_ret ?_ | refine give_end ?_)
        exact ⟨by rw [ratQ, if_neg N0, hres]; rfl, by (repeat (first | exact Gr.refl _ | assumption | (refine Gr.trans ?_ (by assumption)) | refine Gr.set ?_ (by first | exact Nat.le_refl _ | omega | (simp only [next_new, next_set]; omega)) _ | refine Gr.new ?_ _))⟩
    · rw [if_pos (by omega)] at hres
      simp only [if_neg hfu, decide_eq_false hfu] at w1
      refine (w1 _ (intsIn_gr hwu (by (repeat (first | exact Gr.refl _ | assumption | (refine Gr.trans ?_ (by assumption)) | refine Gr.set ?_ (by first | exact Nat.le_refl _ | omega | (simp only [next_new, next_set]; omega)) _ | refine Gr.new ?_ _))))).mono ?_
      rintro _ _ ⟨rfl, rfl⟩
      repeat' (first
    | ((with_reducible refine optP_id ?_); conv => { arg 1; simp (disch := first | assumption | omega) only [push_cast, ↓reduceIte, reduceIte, Nat.reduceEqDiff, Nat.reduceAdd, Nat.reduceSub, Nat.reduceMul, Nat.reduceBEq, Int.reduceNeg, k1] }; refine optP_some ?_)
    | ((with_reducible refine condP_id ?_); conv => { arg 1; simp (disch := first | assumption | omega) only [push_cast, ↓reduceIte, reduceIte, Nat.reduceEqDiff, Nat.reduceAdd, Nat.reduceSub, Nat.reduceMul, Nat.reduceBEq, Int.reduceNeg, k1] }; first | refine condP_yes (by first | assumption | exact fun hn => hn (by assumption) | omega | decide) ?_ | refine condP_non (by assumption) ?_ | refine condP_no (by first | assumption | omega | decide) ?_ | refine condP_decn (fun hc => ?_) (fun hc => ?_) | refine condP_dec (fun hc => ?_) (fun hc => ?_) | refine condP_true (by first | assumption | rfl) ?_ | refine condP_false (by first | assumption | rfl) ?_ | refine condP_bool (fun hc => ?_) (fun hc => ?_))
    | ((with_reducible refine condO_id ?_); conv => { arg 1; simp (disch := first | assumption | omega) only [push_cast, ↓reduceIte, reduceIte, Nat.reduceEqDiff, Nat.reduceAdd, Nat.reduceSub, Nat.reduceMul, Nat.reduceBEq, Int.reduceNeg, k1] }; refine condO_some ?_)
    | ((with_reducible refine callP_id ?_); conv => { arg 2; simp (disch := first | assumption | omega) only [push_cast, ↓reduceIte, reduceIte, Nat.reduceEqDiff, Nat.reduceAdd, Nat.reduceSub, Nat.reduceMul, Nat.reduceBEq, Int.reduceNeg, k1] }; conv => { arg 3; simp (disch := first | assumption | omega) only [push_cast, ↓reduceIte, reduceIte, Nat.reduceEqDiff, Nat.reduceAdd, Nat.reduceSub, Nat.reduceMul, Nat.reduceBEq, Int.reduceNeg, k1] }; first | refine callP_plain ?_ | refine callP_yield ?_ | (refine callP_func ?_; conv => { arg 3; simp only [push_cast] }))
    | ((with_reducible refine resP_id ?_); conv => { arg 1; simp (disch := first | assumption | omega) only [push_cast, ↓reduceIte, reduceIte, Nat.reduceEqDiff, Nat.reduceAdd, Nat.reduceSub, Nat.reduceMul, Nat.reduceBEq, Int.reduceNeg, k1] }; first | refine resP_one ?_ | refine resP_two ?_ | refine resP_three ?_ | refine resP_zero ?_)
    | refine wk_seq ?_ | refine wk_block ?_ | refine wk_scope ?_ | refine wk_inBlock ?_ | refine wk_inScope ?_ | refine wk_skip ?_ | refine wk_label ?_ | refine wk_region ?_ | refine wk_draw (by kernel_rfl) (by decide +kernel) ?_ | refine wo_nil ?_ | refine wk_exit ?_ | refine exitK_code ?_ | refine exitK_hit ?_ | refine exitK_miss rfl ?_ | refine exitK_inLoop ?_ | refine exitK_inScope ?_ | refine wk_cond ?_ | refine wk_ret ?_ | refine wk_nil ?_ | refine wo_dst rfl (opR_call ?_) | refine wo_nodst (opR_call ?_) | refine wo_dst rfl (opR_pick ?_) | refine wo_guard rfl rfl ?_ | refine wo_guardn rfl ?_ | refine wo_dst rfl (opR_pure ?_) | refine wo_nodst (opR_pure ?_)
    | refine give_ret ?_ | refine give_end ?_)
      refine (w2 _ (intsIn_gr hwd (by (repeat (first | exact Gr.refl _ | assumption | (refine Gr.trans ?_ (by assumption)) | refine Gr.set ?_ (by first | exact Nat.le_refl _ | omega | (simp only [next_new, next_set]; omega)) _ | refine Gr.new ?_ _))))).mono ?_
      rintro _ _ ⟨rfl, rfl⟩
      repeat' (first
    | ((with_reducible refine optP_id ?_); conv => { arg 1; simp (disch := first | assumption | omega) only [push_cast, ↓reduceIte, reduceIte, Nat.reduceEqDiff, Nat.reduceAdd, Nat.reduceSub, Nat.reduceMul, Nat.reduceBEq, Int.reduceNeg, k1] }; refine optP_some ?_)
    | ((with_reducible refine condP_id ?_); conv => { arg 1; simp (disch := first | assumption | omega) only [push_cast, ↓reduceIte, reduceIte, Nat.reduceEqDiff, Nat.reduceAdd, Nat.reduceSub, Nat.reduceMul, Nat.reduceBEq, Int.reduceNeg, k1] }; first | refine condP_yes (by first | assumption | exact fun hn => hn (by assumption) | omega | decide) ?_ | refine condP_non (by assumption) ?_ | refine condP_no (by first | assumption | omega | decide) ?_ | refine condP_decn (fun hc => ?_) (fun hc => ?_) | refine condP_dec (fun hc => ?_) (fun hc => ?_) | refine condP_true (by first | assumption | rfl) ?_ | refine condP_false (by first | assumption | rfl) ?_ | refine condP_bool (fun hc => ?_) (fun hc => ?_))
    | ((with_reducible refine condO_id ?_); conv => { arg 1; simp (disch := first | assumption | omega) only [push_cast, ↓reduceIte, reduceIte, Nat.reduceEqDiff, Nat.reduceAdd, Nat.reduceSub, Nat.reduceMul, Nat.reduceBEq, Int.reduceNeg, k1] }; refine condO_some ?_)
    | ((with_reducible refine callP_id ?_); conv => { arg 2; simp (disch := first | assumption | omega) only [push_cast, ↓reduceIte, reduceIte, Nat.reduceEqDiff, Nat.reduceAdd, Nat.reduceSub, Nat.reduceMul, Nat.reduceBEq, Int.reduceNeg, k1] }; conv => { arg 3; simp (disch := first | assumption | omega) only [push_cast, ↓reduceIte, reduceIte, Nat.reduceEqDiff, Nat.reduceAdd, Nat.reduceSub, Nat.reduceMul, Nat.reduceBEq, Int.reduceNeg, k1] }; first | refine callP_plain ?_ | refine callP_yield ?_ | (refine callP_func ?_; conv => { arg 3; simp only [push_cast] }))
    | ((with_reducible refine resP_id ?_); conv => { arg 1; simp (disch := first | assumption | omega) only [push_cast, ↓reduceIte, reduceIte, Nat.reduceEqDiff, Nat.reduceAdd, Nat.reduceSub, Nat.reduceMul, Nat.reduceBEq, Int.reduceNeg, k1] }; first | refine resP_one ?_ | refine resP_two ?_ | refine resP_three ?_ | refine resP_zero ?_)
    | refine wk_seq ?_ | refine wk_block ?_ | refine wk_scope ?_ | refine wk_inBlock ?_ | refine wk_inScope ?_ | refine wk_skip ?_ | refine wk_label ?_ | refine wk_region ?_ | refine wk_draw (by kernel_rfl) (by decide +kernel) ?_ | refine wo_nil ?_ | refine wk_exit ?_ | refine exitK_code ?_ | refine exitK_hit ?_ | refine exitK_miss rfl ?_ | refine exitK_inLoop ?_ | refine exitK_inScope ?_ | refine wk_cond ?_ | refine wk_ret ?_ | refine wk_nil ?_ | refine wo_dst rfl (opR_call ?_) | refine wo_nodst (opR_call ?_) | refine wo_dst rfl (opR_pick ?_) | refine wo_guard rfl rfl ?_ | refine wo_guardn rfl ?_ | refine wo_dst rfl (opR_pure ?_) | refine wo_nodst (opR_pure ?_)
    | refine give_ret ?_ | refine give_end ?_)
      all_goals exact ⟨by rw [ratQ, if_neg N0, hres]; rfl, by (repeat (first | exact Gr.refl _ | assumption | (refine Gr.trans ?_ (by assumption)) | refine Gr.set ?_ (by first | exact Nat.le_refl _ | omega | (simp only [next_new, next_set]; omega)) _ | refine Gr.new ?_ _))⟩
end Go.Proofs.Ytemdclffpnejjaa
