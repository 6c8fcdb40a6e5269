/- Contracts: Ratio. -/
import Derived.Test.YtomamgmefpmnpaaG1
set_option linter.unusedSimpArgs false
set_option linter.unusedVariables false
namespace Go.Proofs.Ytomamgmefpmnpaa
open Go.Ev
theorem u64_div (a b : Nat) (h : a < 18446744073709551616) : IntKind.u64.wrap ((a : Int) / (b : Int)) = (a : Int) / (b : Int) := by
  have h1 : (a : Int) / (b : Int) = ((a / b : Nat) : Int) := by simp
  have h2 : a / b ≤ a := Nat.div_le_self _ _
  rw [h1]
  clear h1
  generalize a / b = q at *
  exact u64_in _ (by omega) (by omega)
def mkR (neg : Bool) (n d : Nat) : Int × Int × Int :=
  if 1099511627776 < n / n.gcd d then (0, 0, 6) else if 1048576 < d / n.gcd d then (0, 0, 6) else if neg then (-((n / n.gcd d : Nat) : Int), ((d / n.gcd d : Nat) : Int), 0) else (((n / n.gcd d : Nat) : Int), ((d / n.gcd d : Nat) : Int), 0)
def ratF (n d : Int) : Int × Int × Int := if d = 0 then (0, 0, 9) else mkR (decide (n < 0) != decide (d < 0)) n.natAbs d.natAbs
/-- a ratio's parts and an error, as a call hands them back -/
def ratV (x : Int × Int × Int) : Value := .tuple #[.agg #[.int .i64 x.1, .int .i64 x.2.1], .int .i64 x.2.2]
theorem ratV_0 (x : Int × Int × Int) : extractV (ratV x) 0 = some (.agg #[.int .i64 x.1, .int .i64 x.2.1]) := rfl
theorem ratV_1 (x : Int × Int × Int) : extractV (ratV x) 1 = some (.int .i64 x.2.2) := rfl
theorem ratV_eq (x : Int × Int × Int) : Value.tuple #[.agg #[.int .i64 x.1, .int .i64 x.2.1], .int .i64 x.2.2] = ratV x := rfl
attribute [push_cast] ratV_0 ratV_1
theorem gcd_pos' {n d : Nat} (hd : d ≠ 0) : 0 < n.gcd d := Nat.gcd_pos_of_pos_right n (Nat.pos_of_ne_zero hd)

theorem lt_of {k a b : Nat} (h : ((k : Nat) : Int) < (a : Int) / (b : Int)) : k < a / b := by
  have : (a : Int) / (b : Int) = ((a / b : Nat) : Int) := by simp
  omega
theorem nlt_of {k a b : Nat} (h : ¬ ((k : Nat) : Int) < (a : Int) / (b : Int)) : ¬ k < a / b := by
  have : (a : Int) / (b : Int) = ((a / b : Nat) : Int) := by simp
  omega
theorem xor_true {p q : Prop} [Decidable p] [Decidable q] (h : ¬ (p ↔ q)) : (decide p != decide q) = true := by
  by_cases hp : p <;> by_cases hq : q <;> simp_all
theorem xor_false {p q : Prop} [Decidable p] [Decidable q] (h : p ↔ q) : (decide p != decide q) = false := by
  by_cases hp : p <;> by_cases hq : q <;> simp_all
set_option maxRecDepth 100000 in
set_option maxHeartbeats 4000000 in
theorem ratio_w (n d : Int) (h1 : -9223372036854775808 ≤ n) (h2 : n ≤ 9223372036854775807) (h3 : -9223372036854775808 ≤ d) (h4 : d ≤ 9223372036854775807) (h : AHeap) : Wc pr (.func 15) [.int .i64 n, .int .i64 d] h fun v h' => v = ratV (ratF n d) ∧ Gr h h' := by
  have q1 : 0 ≤ (n.natAbs : Int) / ((n.natAbs.gcd d.natAbs : Nat) : Int) := Int.ediv_nonneg (by omega) (by omega)
  have q2 : 0 ≤ (d.natAbs : Int) / ((n.natAbs.gcd d.natAbs : Nat) : Int) := Int.ediv_nonneg (by omega) (by omega)
  have hg : d ≠ 0 → 0 < n.natAbs.gcd d.natAbs := fun hd => gcd_pos' (by omega)
  refine wc_func Try.func15 rfl rfl rfl rfl ?_
  repeat' (first
    | ((with_reducible refine optP_id ?_); conv => { arg 1; simp (disch := first | assumption | omega) only [push_cast, ↓reduceIte, reduceIte, Nat.reduceEqDiff, Nat.reduceAdd, Nat.reduceSub, Nat.reduceMul, Nat.reduceBEq, Int.reduceNeg, u64_div] }; refine optP_some ?_)
    | ((with_reducible refine condP_id ?_); conv => { arg 1; simp (disch := first | assumption | omega) only [push_cast, ↓reduceIte, reduceIte, Nat.reduceEqDiff, Nat.reduceAdd, Nat.reduceSub, Nat.reduceMul, Nat.reduceBEq, Int.reduceNeg, u64_div] }; first | refine condP_yes (by first | assumption | exact fun hn => hn (by assumption) | omega | decide) ?_ | refine condP_non (by assumption) ?_ | refine condP_no (by first | assumption | omega | decide) ?_ | refine condP_decn (fun hc => ?_) (fun hc => ?_) | refine condP_dec (fun hc => ?_) (fun hc => ?_) | refine condP_true (by first | assumption | rfl) ?_ | refine condP_false (by first | assumption | rfl) ?_ | refine condP_bool (fun hc => ?_) (fun hc => ?_))
    | ((with_reducible refine condO_id ?_); conv => { arg 1; simp (disch := first | assumption | omega) only [push_cast, ↓reduceIte, reduceIte, Nat.reduceEqDiff, Nat.reduceAdd, Nat.reduceSub, Nat.reduceMul, Nat.reduceBEq, Int.reduceNeg, u64_div] }; refine condO_some ?_)
    | ((with_reducible refine callP_id ?_); conv => { arg 2; simp (disch := first | assumption | omega) only [push_cast, ↓reduceIte, reduceIte, Nat.reduceEqDiff, Nat.reduceAdd, Nat.reduceSub, Nat.reduceMul, Nat.reduceBEq, Int.reduceNeg, u64_div] }; conv => { arg 3; simp (disch := first | assumption | omega) only [push_cast, ↓reduceIte, reduceIte, Nat.reduceEqDiff, Nat.reduceAdd, Nat.reduceSub, Nat.reduceMul, Nat.reduceBEq, Int.reduceNeg, u64_div] }; first | refine callP_plain ?_ | refine callP_yield ?_ | (refine callP_func ?_; conv => { arg 3; simp only [push_cast] }))
    | ((with_reducible refine resP_id ?_); conv => { arg 1; simp (disch := first | assumption | omega) only [push_cast, ↓reduceIte, reduceIte, Nat.reduceEqDiff, Nat.reduceAdd, Nat.reduceSub, Nat.reduceMul, Nat.reduceBEq, Int.reduceNeg, u64_div] }; first | refine resP_one ?_ | refine resP_two ?_ | refine resP_three ?_ | refine resP_zero ?_)
    | refine wk_seq ?_ | refine wk_block ?_ | refine wk_scope ?_ | refine wk_inBlock ?_ | refine wk_inScope ?_ | refine wk_skip ?_ | refine wk_label ?_ | refine wk_region ?_ | refine wk_draw (by kernel_rfl) (by decide +kernel) ?_ | refine wo_nil ?_ | refine wk_exit ?_ | refine exitK_code ?_ | refine exitK_hit ?_ | refine exitK_miss rfl ?_ | refine exitK_inLoop ?_ | refine exitK_inScope ?_ | refine wk_cond ?_ | refine wk_ret ?_ | refine wk_nil ?_ | refine wo_dst rfl (opR_call ?_) | refine wo_nodst (opR_call ?_) | refine wo_dst rfl (opR_pick ?_) | refine wo_guard rfl rfl ?_ | refine wo_guardn rfl ?_ | refine wo_dst rfl (opR_pure ?_) | refine wo_nodst (opR_pure ?_)
    | (refine (mag_w _ (by omega) (by omega) _).mono ?_; rintro _ _ ⟨rfl, rfl⟩)
    | (refine (gcd_w _ _ (by omega) (by omega) _).mono ?_; rintro _ _ ⟨rfl, rfl⟩)
    | refine wd_dst rfl (opR_call ?_) | refine wd_nodst (opR_call ?_) | refine wd_dst rfl (opR_pick ?_) | refine wd_guard rfl rfl ?_ | refine wd_guardn rfl ?_ | refine wd_dst rfl (opR_pure ?_) | refine wd_nodst (opR_pure ?_) | refine opR_call ?_ | refine opR_pick ?_ | refine opR_pure ?_ | (refine wd_nil ?_; refine doneD rfl rfl ?_ ?_) | refine again_nil | refine again_cons ?_ ?_ | refine again_plain rfl rfl rfl ?_ | refine again_guard rfl rfl rfl rfl ?_ | exact same_undef | exact same_of rfl rfl | refine give_ret ?_ | refine give_end ?_)
  · exact ⟨by rw [ratF, if_pos hc]; rfl, by (repeat (first | exact Gr.refl _ | assumption | (refine Gr.trans ?_ (by assumption)) | refine Gr.set ?_ (by first | exact Nat.le_refl _ | omega | (simp only [next_new, next_set]; omega)) _ | refine Gr.new ?_ _))⟩
  · rename_i h0 ha
    have hb := hc
    refine ⟨?_, by (repeat (first | exact Gr.refl _ | assumption | (refine Gr.trans ?_ (by assumption)) | refine Gr.set ?_ (by first | exact Nat.le_refl _ | omega | (simp only [next_new, next_set]; omega)) _ | refine Gr.new ?_ _))⟩
    rw [ratF, if_neg h0, mkR, if_neg (nlt_of ha), if_pos (lt_of hb)]; rfl
  · rename_i h0 ha hb
    have hs := hc
    refine ⟨?_, by (repeat (first | exact Gr.refl _ | assumption | (refine Gr.trans ?_ (by assumption)) | refine Gr.set ?_ (by first | exact Nat.le_refl _ | omega | (simp only [next_new, next_set]; omega)) _ | refine Gr.new ?_ _))⟩
    rw [ratF, if_neg h0, mkR, if_neg (nlt_of ha), if_neg (nlt_of hb), if_pos (xor_true hs)]
    simp [ratV]
  · rename_i h0 ha hb
    have hs := hc
    refine ⟨?_, by (repeat (first | exact Gr.refl _ | assumption | (refine Gr.trans ?_ (by assumption)) | refine Gr.set ?_ (by first | exact Nat.le_refl _ | omega | (simp only [next_new, next_set]; omega)) _ | refine Gr.new ?_ _))⟩
    rw [ratF, if_neg h0, mkR, if_neg (nlt_of ha), if_neg (nlt_of hb), if_neg (by rw [xor_false hs]; exact Bool.false_ne_true)]
    simp [ratV]
  · rename_i h0
    have ha := hc
    refine ⟨?_, by (repeat (first | exact Gr.refl _ | assumption | (refine Gr.trans ?_ (by assumption)) | refine Gr.set ?_ (by first | exact Nat.le_refl _ | omega | (simp only [next_new, next_set]; omega)) _ | refine Gr.new ?_ _))⟩
    rw [ratF, if_neg h0, mkR, if_pos (lt_of (by omega))]; rfl
end Go.Proofs.Ytomamgmefpmnpaa
