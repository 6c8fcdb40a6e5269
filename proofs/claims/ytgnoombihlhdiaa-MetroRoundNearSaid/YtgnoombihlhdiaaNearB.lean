/-
  MetroRoundNear returns true for any factors, number and unit: a rounded number is a multiple of the sign's value, at most half of it away. Conditions: none beyond the form's own.
  How: an evaluator of calls without draws (Ev1 to Ev27, W1 to W11) is right in every world and on every schedule; the functions have contracts in it (L1 to L18, LN).
-/
import Derived.Test.YtgnoombihlhdiaaNearA
import Derived.Test.YtgnoombihlhdiaaW11
import Derived.Test.YtgnoombihlhdiaaB1
set_option linter.unusedSimpArgs false
set_option linter.unusedVariables false
/- Contracts: negative counts; the total's steps; the reference's Total. -/
namespace Go.Proofs.Ytgnoombihlhdiaa
open Go.Ev
set_option maxRecDepth 100000 in
set_option maxHeartbeats 4000000 in
theorem neg_w (x : Int) (h : AHeap) : Wc pr (.func 106) [.int .i64 x] h fun v h' => v = .bool (decide (x < 0)) ∧ h = h' := by
  refine wc_func Try.func106 rfl rfl rfl rfl ?_
  repeat' (first
    | ((with_reducible refine optP_id ?_); conv => { arg 1; simp (disch := first | assumption | omega) only [push_cast, ↓reduceIte, reduceIte, Nat.reduceEqDiff, Nat.reduceAdd, Nat.reduceSub, Nat.reduceMul, Nat.reduceBEq, Int.reduceNeg] }; refine optP_some ?_)
    | ((with_reducible refine condP_id ?_); conv => { arg 1; simp (disch := first | assumption | omega) only [push_cast, ↓reduceIte, reduceIte, Nat.reduceEqDiff, Nat.reduceAdd, Nat.reduceSub, Nat.reduceMul, Nat.reduceBEq, Int.reduceNeg] }; first | refine condP_yes (by first | assumption | exact fun hn => hn (by assumption) | omega | decide) ?_ | refine condP_non (by assumption) ?_ | refine condP_no (by first | assumption | omega | decide) ?_ | refine condP_decn (fun hc => ?_) (fun hc => ?_) | refine condP_dec (fun hc => ?_) (fun hc => ?_) | refine condP_true (by first | assumption | rfl) ?_ | refine condP_false (by first | assumption | rfl) ?_ | refine condP_bool (fun hc => ?_) (fun hc => ?_))
    | ((with_reducible refine condO_id ?_); conv => { arg 1; simp (disch := first | assumption | omega) only [push_cast, ↓reduceIte, reduceIte, Nat.reduceEqDiff, Nat.reduceAdd, Nat.reduceSub, Nat.reduceMul, Nat.reduceBEq, Int.reduceNeg] }; refine condO_some ?_)
    | ((with_reducible refine callP_id ?_); conv => { arg 2; simp (disch := first | assumption | omega) only [push_cast, ↓reduceIte, reduceIte, Nat.reduceEqDiff, Nat.reduceAdd, Nat.reduceSub, Nat.reduceMul, Nat.reduceBEq, Int.reduceNeg] }; conv => { arg 3; simp (disch := first | assumption | omega) only [push_cast, ↓reduceIte, reduceIte, Nat.reduceEqDiff, Nat.reduceAdd, Nat.reduceSub, Nat.reduceMul, Nat.reduceBEq, Int.reduceNeg] }; first | refine callP_plain ?_ | refine callP_yield ?_ | (refine callP_func ?_; conv => { arg 3; simp only [push_cast] }))
    | ((with_reducible refine resP_id ?_); conv => { arg 1; simp (disch := first | assumption | omega) only [push_cast, ↓reduceIte, reduceIte, Nat.reduceEqDiff, Nat.reduceAdd, Nat.reduceSub, Nat.reduceMul, Nat.reduceBEq, Int.reduceNeg] }; first | refine resP_one ?_ | refine resP_two ?_ | refine resP_three ?_ | refine resP_zero ?_)
    | refine wk_seq ?_ | refine wk_block ?_ | refine wk_scope ?_ | refine wk_inBlock ?_ | refine wk_inScope ?_ | refine wk_skip ?_ | refine wk_label ?_ | refine wk_region ?_ | refine wk_draw (by kernel_rfl) (by decide +kernel) ?_ | refine wo_nil ?_ | refine wk_exit ?_ | refine exitK_code ?_ | refine exitK_hit ?_ | refine exitK_miss rfl ?_ | refine exitK_inLoop ?_ | refine exitK_inScope ?_ | refine wk_cond ?_ | refine wk_ret ?_ | refine wk_nil ?_ | refine wo_dst rfl (opR_call ?_) | refine wo_nodst (opR_call ?_) | refine wo_dst rfl (opR_pick ?_) | refine wo_guard rfl rfl ?_ | refine wo_guardn rfl ?_ | refine wo_dst rfl (opR_pure ?_) | refine wo_nodst (opR_pure ?_)
    | refine give_ret ?_ | refine give_end ?_)
  exact ⟨rfl, rfl⟩
/-- is one of them negative? -/
def hasN (cs : List Int) : Prop := ∃ x ∈ cs, x < 0
noncomputable instance (cs : List Int) : Decidable (hasN cs) := Classical.propDecidable _
set_option maxRecDepth 100000 in
set_option maxHeartbeats 4000000 in
theorem indexn_w (cs : List Int) (v : Value) (h : AHeap) (hv : IIn h v cs) (hl : cs.length ≤ 4611686018427387904) :
    Wc pr (.func 130) [v, .func (.func 106) #[] #[]] h fun r h' => (∃ x : Int, r = .int .i64 x ∧ (0 ≤ x ↔ hasN cs)) ∧ h = h' := by
  obtain ⟨a, c, rfl, hc, hv⟩ := hv
  refine wc_func Try.func130 rfl rfl rfl rfl ?_
  repeat' (first
    | ((with_reducible refine optP_id ?_); conv => { arg 1; simp (disch := first | assumption | omega) only [push_cast, ↓reduceIte, reduceIte, Nat.reduceEqDiff, Nat.reduceAdd, Nat.reduceSub, Nat.reduceMul, Nat.reduceBEq, Int.reduceNeg] }; refine optP_some ?_)
    | ((with_reducible refine condP_id ?_); conv => { arg 1; simp (disch := first | assumption | omega) only [push_cast, ↓reduceIte, reduceIte, Nat.reduceEqDiff, Nat.reduceAdd, Nat.reduceSub, Nat.reduceMul, Nat.reduceBEq, Int.reduceNeg] }; first | refine condP_yes (by first | assumption | exact fun hn => hn (by assumption) | omega | decide) ?_ | refine condP_non (by assumption) ?_ | refine condP_no (by first | assumption | omega | decide) ?_ | refine condP_decn (fun hc => ?_) (fun hc => ?_) | refine condP_dec (fun hc => ?_) (fun hc => ?_) | refine condP_true (by first | assumption | rfl) ?_ | refine condP_false (by first | assumption | rfl) ?_ | refine condP_bool (fun hc => ?_) (fun hc => ?_))
    | ((with_reducible refine condO_id ?_); conv => { arg 1; simp (disch := first | assumption | omega) only [push_cast, ↓reduceIte, reduceIte, Nat.reduceEqDiff, Nat.reduceAdd, Nat.reduceSub, Nat.reduceMul, Nat.reduceBEq, Int.reduceNeg] }; refine condO_some ?_)
    | ((with_reducible refine callP_id ?_); conv => { arg 2; simp (disch := first | assumption | omega) only [push_cast, ↓reduceIte, reduceIte, Nat.reduceEqDiff, Nat.reduceAdd, Nat.reduceSub, Nat.reduceMul, Nat.reduceBEq, Int.reduceNeg] }; conv => { arg 3; simp (disch := first | assumption | omega) only [push_cast, ↓reduceIte, reduceIte, Nat.reduceEqDiff, Nat.reduceAdd, Nat.reduceSub, Nat.reduceMul, Nat.reduceBEq, Int.reduceNeg] }; first | refine callP_plain ?_ | refine callP_yield ?_ | (refine callP_func ?_; conv => { arg 3; simp only [push_cast] }))
    | ((with_reducible refine resP_id ?_); conv => { arg 1; simp (disch := first | assumption | omega) only [push_cast, ↓reduceIte, reduceIte, Nat.reduceEqDiff, Nat.reduceAdd, Nat.reduceSub, Nat.reduceMul, Nat.reduceBEq, Int.reduceNeg] }; first | refine resP_one ?_ | refine resP_two ?_ | refine resP_three ?_ | refine resP_zero ?_)
    | refine wk_seq ?_ | refine wk_block ?_ | refine wk_scope ?_ | refine wk_inBlock ?_ | refine wk_inScope ?_ | refine wk_skip ?_ | refine wk_label ?_ | refine wk_region ?_ | refine wk_draw (by kernel_rfl) (by decide +kernel) ?_ | refine wo_nil ?_ | refine wk_exit ?_ | refine exitK_code ?_ | refine exitK_hit ?_ | refine exitK_miss rfl ?_ | refine exitK_inLoop ?_ | refine exitK_inScope ?_ | refine wk_cond ?_ | refine wk_ret ?_ | refine wk_nil ?_ | refine wo_dst rfl (opR_call ?_) | refine wo_nodst (opR_call ?_) | refine wo_dst rfl (opR_pick ?_) | refine wo_guard rfl rfl ?_ | refine wo_guardn rfl ?_ | refine wo_dst rfl (opR_pure ?_) | refine wo_nodst (opR_pure ?_)
    | refine give_ret ?_ | refine give_end ?_)
  refine wk_loop (fun m E H => ∃ k : Nat, m = cs.length - k ∧ k ≤ cs.length ∧ h = H ∧ E.look 0 top = .slice a cs.length c ∧ E.look 1 top = .func (.func 106) #[] #[] ∧ E.look 7 top = .int .i64 (cs.length : Int) ∧ E.look 8 top = .int .i64 (k : Int) ∧ ∀ i (hi : i < cs.length), i < k → ¬ cs[i] < 0) cs.length
    ⟨0, by omega, by omega, rfl, by simp (disch := first | assumption | omega) only [push_cast, ↓reduceIte, reduceIte, Nat.reduceEqDiff, Nat.reduceAdd, Nat.reduceSub, Nat.reduceMul, Nat.reduceBEq, Int.reduceNeg], by simp (disch := first | assumption | omega) only [push_cast, ↓reduceIte, reduceIte, Nat.reduceEqDiff, Nat.reduceAdd, Nat.reduceSub, Nat.reduceMul, Nat.reduceBEq, Int.reduceNeg], by simp (disch := first | assumption | omega) only [push_cast, ↓reduceIte, reduceIte, Nat.reduceEqDiff, Nat.reduceAdd, Nat.reduceSub, Nat.reduceMul, Nat.reduceBEq, Int.reduceNeg], by simp (disch := first | assumption | omega) only [push_cast, ↓reduceIte, reduceIte, Nat.reduceEqDiff, Nat.reduceAdd, Nat.reduceSub, Nat.reduceMul, Nat.reduceBEq, Int.reduceNeg, Int.natCast_zero], fun i _ hi => absurd hi (Nat.not_lt_zero i)⟩ ?_
  rintro m E _ ⟨k, rfl, hk, rfl, e0, e1, e7, e8, all⟩ next
  by_cases hlt : k < cs.length
  · obtain ⟨b, off, cl, rw', rfl, hb, hgb, hat⟩ := hv (by intro h; rw [h] at hlt; exact absurd hlt (Nat.not_lt_zero k))
    have h0 := at_cut1 _ _ _ (hat k hlt)
    rw [Nat.mul_one] at h0
    repeat' (first
    | ((with_reducible refine optP_id ?_); conv => { arg 1; simp (disch := first | assumption | omega) only [push_cast, ↓reduceIte, reduceIte, Nat.reduceEqDiff, Nat.reduceAdd, Nat.reduceSub, Nat.reduceMul, Nat.reduceBEq, Int.reduceNeg, e0, e1, e7, e8, hgb, h0, Nat.mul_one] }; refine optP_some ?_)
    | ((with_reducible refine condP_id ?_); conv => { arg 1; simp (disch := first | assumption | omega) only [push_cast, ↓reduceIte, reduceIte, Nat.reduceEqDiff, Nat.reduceAdd, Nat.reduceSub, Nat.reduceMul, Nat.reduceBEq, Int.reduceNeg, e0, e1, e7, e8, hgb, h0, Nat.mul_one] }; first | refine condP_yes (by first | assumption | exact fun hn => hn (by assumption) | omega | decide) ?_ | refine condP_non (by assumption) ?_ | refine condP_no (by first | assumption | omega | decide) ?_ | refine condP_decn (fun hc => ?_) (fun hc => ?_) | refine condP_dec (fun hc => ?_) (fun hc => ?_) | refine condP_true (by first | assumption | rfl) ?_ | refine condP_false (by first | assumption | rfl) ?_ | refine condP_bool (fun hc => ?_) (fun hc => ?_))
    | ((with_reducible refine condO_id ?_); conv => { arg 1; simp (disch := first | assumption | omega) only [push_cast, ↓reduceIte, reduceIte, Nat.reduceEqDiff, Nat.reduceAdd, Nat.reduceSub, Nat.reduceMul, Nat.reduceBEq, Int.reduceNeg, e0, e1, e7, e8, hgb, h0, Nat.mul_one] }; refine condO_some ?_)
    | ((with_reducible refine callP_id ?_); conv => { arg 2; simp (disch := first | assumption | omega) only [push_cast, ↓reduceIte, reduceIte, Nat.reduceEqDiff, Nat.reduceAdd, Nat.reduceSub, Nat.reduceMul, Nat.reduceBEq, Int.reduceNeg, e0, e1, e7, e8, hgb, h0, Nat.mul_one] }; conv => { arg 3; simp (disch := first | assumption | omega) only [push_cast, ↓reduceIte, reduceIte, Nat.reduceEqDiff, Nat.reduceAdd, Nat.reduceSub, Nat.reduceMul, Nat.reduceBEq, Int.reduceNeg, e0, e1, e7, e8, hgb, h0, Nat.mul_one] }; first | refine callP_plain ?_ | refine callP_yield ?_ | (refine callP_func ?_; conv => { arg 3; simp only [push_cast] }))
    | ((with_reducible refine resP_id ?_); conv => { arg 1; simp (disch := first | assumption | omega) only [push_cast, ↓reduceIte, reduceIte, Nat.reduceEqDiff, Nat.reduceAdd, Nat.reduceSub, Nat.reduceMul, Nat.reduceBEq, Int.reduceNeg, e0, e1, e7, e8, hgb, h0, Nat.mul_one] }; first | refine resP_one ?_ | refine resP_two ?_ | refine resP_three ?_ | refine resP_zero ?_)
    | refine wk_seq ?_ | refine wk_block ?_ | refine wk_scope ?_ | refine wk_inBlock ?_ | refine wk_inScope ?_ | refine wk_skip ?_ | refine wk_label ?_ | refine wk_region ?_ | refine wk_draw (by kernel_rfl) (by decide +kernel) ?_ | refine wo_nil ?_ | refine wk_exit ?_ | refine exitK_code ?_ | refine exitK_hit ?_ | refine exitK_miss rfl ?_ | refine exitK_inLoop ?_ | refine exitK_inScope ?_ | refine wk_cond ?_ | refine wk_ret ?_ | refine wk_nil ?_ | refine wo_dst rfl (opR_call ?_) | refine wo_nodst (opR_call ?_) | refine wo_dst rfl (opR_pick ?_) | refine wo_guard rfl rfl ?_ | refine wo_guardn rfl ?_ | refine wo_dst rfl (opR_pure ?_) | refine wo_nodst (opR_pure ?_)
    | refine give_ret ?_ | refine give_end ?_)
    refine (neg_w _ _).mono ?_
    rintro _ _ ⟨rfl, rfl⟩
    by_cases hs : cs[k] < 0
    · repeat' (first
    | ((with_reducible refine optP_id ?_); conv => { arg 1; simp (disch := first | assumption | omega) only [push_cast, ↓reduceIte, reduceIte, Nat.reduceEqDiff, Nat.reduceAdd, Nat.reduceSub, Nat.reduceMul, Nat.reduceBEq, Int.reduceNeg, e0, e1, e7, e8] }; refine optP_some ?_)
    | ((with_reducible refine condP_id ?_); conv => { arg 1; simp (disch := first | assumption | omega) only [push_cast, ↓reduceIte, reduceIte, Nat.reduceEqDiff, Nat.reduceAdd, Nat.reduceSub, Nat.reduceMul, Nat.reduceBEq, Int.reduceNeg, e0, e1, e7, e8] }; first | refine condP_yes (by first | assumption | exact fun hn => hn (by assumption) | omega | decide) ?_ | refine condP_non (by assumption) ?_ | refine condP_no (by first | assumption | omega | decide) ?_ | refine condP_decn (fun hc => ?_) (fun hc => ?_) | refine condP_dec (fun hc => ?_) (fun hc => ?_) | refine condP_true (by first | assumption | rfl) ?_ | refine condP_false (by first | assumption | rfl) ?_ | refine condP_bool (fun hc => ?_) (fun hc => ?_))
    | ((with_reducible refine condO_id ?_); conv => { arg 1; simp (disch := first | assumption | omega) only [push_cast, ↓reduceIte, reduceIte, Nat.reduceEqDiff, Nat.reduceAdd, Nat.reduceSub, Nat.reduceMul, Nat.reduceBEq, Int.reduceNeg, e0, e1, e7, e8] }; refine condO_some ?_)
    | ((with_reducible refine callP_id ?_); conv => { arg 2; simp (disch := first | assumption | omega) only [push_cast, ↓reduceIte, reduceIte, Nat.reduceEqDiff, Nat.reduceAdd, Nat.reduceSub, Nat.reduceMul, Nat.reduceBEq, Int.reduceNeg, e0, e1, e7, e8] }; conv => { arg 3; simp (disch := first | assumption | omega) only [push_cast, ↓reduceIte, reduceIte, Nat.reduceEqDiff, Nat.reduceAdd, Nat.reduceSub, Nat.reduceMul, Nat.reduceBEq, Int.reduceNeg, e0, e1, e7, e8] }; first | refine callP_plain ?_ | refine callP_yield ?_ | (refine callP_func ?_; conv => { arg 3; simp only [push_cast] }))
    | ((with_reducible refine resP_id ?_); conv => { arg 1; simp (disch := first | assumption | omega) only [push_cast, ↓reduceIte, reduceIte, Nat.reduceEqDiff, Nat.reduceAdd, Nat.reduceSub, Nat.reduceMul, Nat.reduceBEq, Int.reduceNeg, e0, e1, e7, e8] }; first | refine resP_one ?_ | refine resP_two ?_ | refine resP_three ?_ | refine resP_zero ?_)
    | refine wk_seq ?_ | refine wk_block ?_ | refine wk_scope ?_ | refine wk_inBlock ?_ | refine wk_inScope ?_ | refine wk_skip ?_ | refine wk_label ?_ | refine wk_region ?_ | refine wk_draw (by kernel_rfl) (by decide +kernel) ?_ | refine wo_nil ?_ | refine wk_exit ?_ | refine exitK_code ?_ | refine exitK_hit ?_ | refine exitK_miss rfl ?_ | refine exitK_inLoop ?_ | refine exitK_inScope ?_ | refine wk_cond ?_ | refine wk_ret ?_ | refine wk_nil ?_ | refine wo_dst rfl (opR_call ?_) | refine wo_nodst (opR_call ?_) | refine wo_dst rfl (opR_pick ?_) | refine wo_guard rfl rfl ?_ | refine wo_guardn rfl ?_ | refine wo_dst rfl (opR_pure ?_) | refine wo_nodst (opR_pure ?_)
    | refine give_ret ?_ | refine give_end ?_)
      exact ⟨⟨_, rfl, ⟨fun _ => ⟨cs[k], List.getElem_mem hlt, hs⟩, fun _ => by omega⟩⟩, rfl⟩
    · repeat' (first
    | ((with_reducible refine optP_id ?_); conv => { arg 1; simp (disch := first | assumption | omega) only [push_cast, ↓reduceIte, reduceIte, Nat.reduceEqDiff, Nat.reduceAdd, Nat.reduceSub, Nat.reduceMul, Nat.reduceBEq, Int.reduceNeg, e0, e1, e7, e8] }; refine optP_some ?_)
    | ((with_reducible refine condP_id ?_); conv => { arg 1; simp (disch := first | assumption | omega) only [push_cast, ↓reduceIte, reduceIte, Nat.reduceEqDiff, Nat.reduceAdd, Nat.reduceSub, Nat.reduceMul, Nat.reduceBEq, Int.reduceNeg, e0, e1, e7, e8] }; first | refine condP_yes (by first | assumption | exact fun hn => hn (by assumption) | omega | decide) ?_ | refine condP_non (by assumption) ?_ | refine condP_no (by first | assumption | omega | decide) ?_ | refine condP_decn (fun hc => ?_) (fun hc => ?_) | refine condP_dec (fun hc => ?_) (fun hc => ?_) | refine condP_true (by first | assumption | rfl) ?_ | refine condP_false (by first | assumption | rfl) ?_ | refine condP_bool (fun hc => ?_) (fun hc => ?_))
    | ((with_reducible refine condO_id ?_); conv => { arg 1; simp (disch := first | assumption | omega) only [push_cast, ↓reduceIte, reduceIte, Nat.reduceEqDiff, Nat.reduceAdd, Nat.reduceSub, Nat.reduceMul, Nat.reduceBEq, Int.reduceNeg, e0, e1, e7, e8] }; refine condO_some ?_)
    | ((with_reducible refine callP_id ?_); conv => { arg 2; simp (disch := first | assumption | omega) only [push_cast, ↓reduceIte, reduceIte, Nat.reduceEqDiff, Nat.reduceAdd, Nat.reduceSub, Nat.reduceMul, Nat.reduceBEq, Int.reduceNeg, e0, e1, e7, e8] }; conv => { arg 3; simp (disch := first | assumption | omega) only [push_cast, ↓reduceIte, reduceIte, Nat.reduceEqDiff, Nat.reduceAdd, Nat.reduceSub, Nat.reduceMul, Nat.reduceBEq, Int.reduceNeg, e0, e1, e7, e8] }; first | refine callP_plain ?_ | refine callP_yield ?_ | (refine callP_func ?_; conv => { arg 3; simp only [push_cast] }))
    | ((with_reducible refine resP_id ?_); conv => { arg 1; simp (disch := first | assumption | omega) only [push_cast, ↓reduceIte, reduceIte, Nat.reduceEqDiff, Nat.reduceAdd, Nat.reduceSub, Nat.reduceMul, Nat.reduceBEq, Int.reduceNeg, e0, e1, e7, e8] }; first | refine resP_one ?_ | refine resP_two ?_ | refine resP_three ?_ | refine resP_zero ?_)
    | refine wk_seq ?_ | refine wk_block ?_ | refine wk_scope ?_ | refine wk_inBlock ?_ | refine wk_inScope ?_ | refine wk_skip ?_ | refine wk_label ?_ | refine wk_region ?_ | refine wk_draw (by kernel_rfl) (by decide +kernel) ?_ | refine wo_nil ?_ | refine wk_exit ?_ | refine exitK_code ?_ | refine exitK_hit ?_ | refine exitK_miss rfl ?_ | refine exitK_inLoop ?_ | refine exitK_inScope ?_ | refine wk_cond ?_ | refine wk_ret ?_ | refine wk_nil ?_ | refine wo_dst rfl (opR_call ?_) | refine wo_nodst (opR_call ?_) | refine wo_dst rfl (opR_pick ?_) | refine wo_guard rfl rfl ?_ | refine wo_guardn rfl ?_ | refine wo_dst rfl (opR_pure ?_) | refine wo_nodst (opR_pure ?_)
    | refine give_ret ?_ | refine give_end ?_)
      exact next (cs.length - (k + 1)) _ _ (by omega) ⟨k + 1, rfl, by omega, rfl, by simp (disch := first | assumption | omega) only [push_cast, ↓reduceIte, reduceIte, Nat.reduceEqDiff, Nat.reduceAdd, Nat.reduceSub, Nat.reduceMul, Nat.reduceBEq, Int.reduceNeg, e0], by simp (disch := first | assumption | omega) only [push_cast, ↓reduceIte, reduceIte, Nat.reduceEqDiff, Nat.reduceAdd, Nat.reduceSub, Nat.reduceMul, Nat.reduceBEq, Int.reduceNeg, e1], by simp (disch := first | assumption | omega) only [push_cast, ↓reduceIte, reduceIte, Nat.reduceEqDiff, Nat.reduceAdd, Nat.reduceSub, Nat.reduceMul, Nat.reduceBEq, Int.reduceNeg, e7], by simp (disch := first | assumption | omega) only [push_cast, ↓reduceIte, reduceIte, Nat.reduceEqDiff, Nat.reduceAdd, Nat.reduceSub, Nat.reduceMul, Nat.reduceBEq, Int.reduceNeg], fun i hi hi2 => if e : i = k then by subst e; exact hs else all i hi (by omega)⟩
  · repeat' (first
    | ((with_reducible refine optP_id ?_); conv => { arg 1; simp (disch := first | assumption | omega) only [push_cast, ↓reduceIte, reduceIte, Nat.reduceEqDiff, Nat.reduceAdd, Nat.reduceSub, Nat.reduceMul, Nat.reduceBEq, Int.reduceNeg, e0, e1, e7, e8] }; refine optP_some ?_)
    | ((with_reducible refine condP_id ?_); conv => { arg 1; simp (disch := first | assumption | omega) only [push_cast, ↓reduceIte, reduceIte, Nat.reduceEqDiff, Nat.reduceAdd, Nat.reduceSub, Nat.reduceMul, Nat.reduceBEq, Int.reduceNeg, e0, e1, e7, e8] }; first | refine condP_yes (by first | assumption | exact fun hn => hn (by assumption) | omega | decide) ?_ | refine condP_non (by assumption) ?_ | refine condP_no (by first | assumption | omega | decide) ?_ | refine condP_decn (fun hc => ?_) (fun hc => ?_) | refine condP_dec (fun hc => ?_) (fun hc => ?_) | refine condP_true (by first | assumption | rfl) ?_ | refine condP_false (by first | assumption | rfl) ?_ | refine condP_bool (fun hc => ?_) (fun hc => ?_))
    | ((with_reducible refine condO_id ?_); conv => { arg 1; simp (disch := first | assumption | omega) only [push_cast, ↓reduceIte, reduceIte, Nat.reduceEqDiff, Nat.reduceAdd, Nat.reduceSub, Nat.reduceMul, Nat.reduceBEq, Int.reduceNeg, e0, e1, e7, e8] }; refine condO_some ?_)
    | ((with_reducible refine callP_id ?_); conv => { arg 2; simp (disch := first | assumption | omega) only [push_cast, ↓reduceIte, reduceIte, Nat.reduceEqDiff, Nat.reduceAdd, Nat.reduceSub, Nat.reduceMul, Nat.reduceBEq, Int.reduceNeg, e0, e1, e7, e8] }; conv => { arg 3; simp (disch := first | assumption | omega) only [push_cast, ↓reduceIte, reduceIte, Nat.reduceEqDiff, Nat.reduceAdd, Nat.reduceSub, Nat.reduceMul, Nat.reduceBEq, Int.reduceNeg, e0, e1, e7, e8] }; first | refine callP_plain ?_ | refine callP_yield ?_ | (refine callP_func ?_; conv => { arg 3; simp only [push_cast] }))
    | ((with_reducible refine resP_id ?_); conv => { arg 1; simp (disch := first | assumption | omega) only [push_cast, ↓reduceIte, reduceIte, Nat.reduceEqDiff, Nat.reduceAdd, Nat.reduceSub, Nat.reduceMul, Nat.reduceBEq, Int.reduceNeg, e0, e1, e7, e8] }; first | refine resP_one ?_ | refine resP_two ?_ | refine resP_three ?_ | refine resP_zero ?_)
    | refine wk_seq ?_ | refine wk_block ?_ | refine wk_scope ?_ | refine wk_inBlock ?_ | refine wk_inScope ?_ | refine wk_skip ?_ | refine wk_label ?_ | refine wk_region ?_ | refine wk_draw (by kernel_rfl) (by decide +kernel) ?_ | refine wo_nil ?_ | refine wk_exit ?_ | refine exitK_code ?_ | refine exitK_hit ?_ | refine exitK_miss rfl ?_ | refine exitK_inLoop ?_ | refine exitK_inScope ?_ | refine wk_cond ?_ | refine wk_ret ?_ | refine wk_nil ?_ | refine wo_dst rfl (opR_call ?_) | refine wo_nodst (opR_call ?_) | refine wo_dst rfl (opR_pick ?_) | refine wo_guard rfl rfl ?_ | refine wo_guardn rfl ?_ | refine wo_dst rfl (opR_pure ?_) | refine wo_nodst (opR_pure ?_)
    | refine give_ret ?_ | refine give_end ?_)
    refine ⟨⟨_, rfl, ⟨fun h => absurd h (by decide), fun ⟨u, hu, hs⟩ => ?_⟩⟩, rfl⟩
    obtain ⟨i, hi, rfl⟩ := List.getElem_of_mem hu
    exact absurd hs (all i hi (by omega))
set_option maxRecDepth 100000 in
set_option maxHeartbeats 4000000 in
theorem containsn_w (cs : List Int) (v : Value) (h : AHeap) (hv : IIn h v cs) (hl : cs.length ≤ 4611686018427387904) :
    Wc pr (.func 107) [v, .func (.func 106) #[] #[]] h fun r h' => r = .bool (decide (hasN cs)) ∧ h = h' := by
  refine wc_func Try.func107 rfl rfl rfl rfl ?_
  repeat' (first
    | ((with_reducible refine optP_id ?_); conv => { arg 1; simp (disch := first | assumption | omega) only [push_cast, ↓reduceIte, reduceIte, Nat.reduceEqDiff, Nat.reduceAdd, Nat.reduceSub, Nat.reduceMul, Nat.reduceBEq, Int.reduceNeg] }; refine optP_some ?_)
    | ((with_reducible refine condP_id ?_); conv => { arg 1; simp (disch := first | assumption | omega) only [push_cast, ↓reduceIte, reduceIte, Nat.reduceEqDiff, Nat.reduceAdd, Nat.reduceSub, Nat.reduceMul, Nat.reduceBEq, Int.reduceNeg] }; first | refine condP_yes (by first | assumption | exact fun hn => hn (by assumption) | omega | decide) ?_ | refine condP_non (by assumption) ?_ | refine condP_no (by first | assumption | omega | decide) ?_ | refine condP_decn (fun hc => ?_) (fun hc => ?_) | refine condP_dec (fun hc => ?_) (fun hc => ?_) | refine condP_true (by first | assumption | rfl) ?_ | refine condP_false (by first | assumption | rfl) ?_ | refine condP_bool (fun hc => ?_) (fun hc => ?_))
    | ((with_reducible refine condO_id ?_); conv => { arg 1; simp (disch := first | assumption | omega) only [push_cast, ↓reduceIte, reduceIte, Nat.reduceEqDiff, Nat.reduceAdd, Nat.reduceSub, Nat.reduceMul, Nat.reduceBEq, Int.reduceNeg] }; refine condO_some ?_)
    | ((with_reducible refine callP_id ?_); conv => { arg 2; simp (disch := first | assumption | omega) only [push_cast, ↓reduceIte, reduceIte, Nat.reduceEqDiff, Nat.reduceAdd, Nat.reduceSub, Nat.reduceMul, Nat.reduceBEq, Int.reduceNeg] }; conv => { arg 3; simp (disch := first | assumption | omega) only [push_cast, ↓reduceIte, reduceIte, Nat.reduceEqDiff, Nat.reduceAdd, Nat.reduceSub, Nat.reduceMul, Nat.reduceBEq, Int.reduceNeg] }; first | refine callP_plain ?_ | refine callP_yield ?_ | (refine callP_func ?_; conv => { arg 3; simp only [push_cast] }))
    | ((with_reducible refine resP_id ?_); conv => { arg 1; simp (disch := first | assumption | omega) only [push_cast, ↓reduceIte, reduceIte, Nat.reduceEqDiff, Nat.reduceAdd, Nat.reduceSub, Nat.reduceMul, Nat.reduceBEq, Int.reduceNeg] }; first | refine resP_one ?_ | refine resP_two ?_ | refine resP_three ?_ | refine resP_zero ?_)
    | refine wk_seq ?_ | refine wk_block ?_ | refine wk_scope ?_ | refine wk_inBlock ?_ | refine wk_inScope ?_ | refine wk_skip ?_ | refine wk_label ?_ | refine wk_region ?_ | refine wk_draw (by kernel_rfl) (by decide +kernel) ?_ | refine wo_nil ?_ | refine wk_exit ?_ | refine exitK_code ?_ | refine exitK_hit ?_ | refine exitK_miss rfl ?_ | refine exitK_inLoop ?_ | refine exitK_inScope ?_ | refine wk_cond ?_ | refine wk_ret ?_ | refine wk_nil ?_ | refine wo_dst rfl (opR_call ?_) | refine wo_nodst (opR_call ?_) | refine wo_dst rfl (opR_pick ?_) | refine wo_guard rfl rfl ?_ | refine wo_guardn rfl ?_ | refine wo_dst rfl (opR_pure ?_) | refine wo_nodst (opR_pure ?_)
    | refine give_ret ?_ | refine give_end ?_)
  refine (indexn_w cs v _ hv hl).mono ?_
  rintro _ _ ⟨⟨x, rfl, hx⟩, rfl⟩
  repeat' (first
    | ((with_reducible refine optP_id ?_); conv => { arg 1; simp (disch := first | assumption | omega) only [push_cast, ↓reduceIte, reduceIte, Nat.reduceEqDiff, Nat.reduceAdd, Nat.reduceSub, Nat.reduceMul, Nat.reduceBEq, Int.reduceNeg] }; refine optP_some ?_)
    | ((with_reducible refine condP_id ?_); conv => { arg 1; simp (disch := first | assumption | omega) only [push_cast, ↓reduceIte, reduceIte, Nat.reduceEqDiff, Nat.reduceAdd, Nat.reduceSub, Nat.reduceMul, Nat.reduceBEq, Int.reduceNeg] }; first | refine condP_yes (by first | assumption | exact fun hn => hn (by assumption) | omega | decide) ?_ | refine condP_non (by assumption) ?_ | refine condP_no (by first | assumption | omega | decide) ?_ | refine condP_decn (fun hc => ?_) (fun hc => ?_) | refine condP_dec (fun hc => ?_) (fun hc => ?_) | refine condP_true (by first | assumption | rfl) ?_ | refine condP_false (by first | assumption | rfl) ?_ | refine condP_bool (fun hc => ?_) (fun hc => ?_))
    | ((with_reducible refine condO_id ?_); conv => { arg 1; simp (disch := first | assumption | omega) only [push_cast, ↓reduceIte, reduceIte, Nat.reduceEqDiff, Nat.reduceAdd, Nat.reduceSub, Nat.reduceMul, Nat.reduceBEq, Int.reduceNeg] }; refine condO_some ?_)
    | ((with_reducible refine callP_id ?_); conv => { arg 2; simp (disch := first | assumption | omega) only [push_cast, ↓reduceIte, reduceIte, Nat.reduceEqDiff, Nat.reduceAdd, Nat.reduceSub, Nat.reduceMul, Nat.reduceBEq, Int.reduceNeg] }; conv => { arg 3; simp (disch := first | assumption | omega) only [push_cast, ↓reduceIte, reduceIte, Nat.reduceEqDiff, Nat.reduceAdd, Nat.reduceSub, Nat.reduceMul, Nat.reduceBEq, Int.reduceNeg] }; first | refine callP_plain ?_ | refine callP_yield ?_ | (refine callP_func ?_; conv => { arg 3; simp only [push_cast] }))
    | ((with_reducible refine resP_id ?_); conv => { arg 1; simp (disch := first | assumption | omega) only [push_cast, ↓reduceIte, reduceIte, Nat.reduceEqDiff, Nat.reduceAdd, Nat.reduceSub, Nat.reduceMul, Nat.reduceBEq, Int.reduceNeg] }; first | refine resP_one ?_ | refine resP_two ?_ | refine resP_three ?_ | refine resP_zero ?_)
    | refine wk_seq ?_ | refine wk_block ?_ | refine wk_scope ?_ | refine wk_inBlock ?_ | refine wk_inScope ?_ | refine wk_skip ?_ | refine wk_label ?_ | refine wk_region ?_ | refine wk_draw (by kernel_rfl) (by decide +kernel) ?_ | refine wo_nil ?_ | refine wk_exit ?_ | refine exitK_code ?_ | refine exitK_hit ?_ | refine exitK_miss rfl ?_ | refine exitK_inLoop ?_ | refine exitK_inScope ?_ | refine wk_cond ?_ | refine wk_ret ?_ | refine wk_nil ?_ | refine wo_dst rfl (opR_call ?_) | refine wo_nodst (opR_call ?_) | refine wo_dst rfl (opR_pick ?_) | refine wo_guard rfl rfl ?_ | refine wo_guardn rfl ?_ | refine wo_dst rfl (opR_pure ?_) | refine wo_nodst (opR_pure ?_)
    | refine give_ret ?_ | refine give_end ?_)
  exact ⟨congrArg Value.bool (decide_eq_decide.2 hx), rfl⟩

/-- the first error of the counts of a ladder -/
noncomputable def totE (nm : ByteArray) (us : Us) (cs : List Int) : Int := if ladOk nm us then (if cs.length ≤ us.length then (if hasN cs then 8 else 0) else 2) else 10
/-- the total of the first k counts; none: it is too great -/
def totS (us : Us) (cs : List Int) : Nat → Option Int
  | 0 => some 0
  | k + 1 => match totS us cs k with
    | none => none
    | some t => if (1099511627776 - t) / valU (us.take (k + 1)) < cs[k]?.getD 0 then none else some (t + cs[k]?.getD 0 * valU (us.take (k + 1)))
theorem totS_none {us : Us} {cs : List Int} {k m : Nat} (h : totS us cs k = none) (hm : k ≤ m) : totS us cs m = none := by
  induction m with
  | zero => rw [show 0 = k by omega]; exact h
  | succ m ih =>
    rcases Nat.lt_or_ge k (m + 1) with h1 | h1
    · have := ih (by omega)
      unfold totS; rw [this]
    · rw [show m + 1 = k by omega]; exact h
theorem totS_succ {us : Us} {cs : List Int} {k : Nat} {t : Int} (h : totS us cs k = some t) (hk : k < cs.length) : totS us cs (k + 1) = if (1099511627776 - t) / valU (us.take (k + 1)) < cs[k] then none else some (t + cs[k] * valU (us.take (k + 1))) := by
  show (match totS us cs k with
    | none => none
    | some t => if (1099511627776 - t) / valU (us.take (k + 1)) < cs[k]?.getD 0 then none else some (t + cs[k]?.getD 0 * valU (us.take (k + 1)))) = _
  rw [h]
  simp [hk]
/-- what Total returns -/
noncomputable def totF (nm : ByteArray) (us : Us) (cs : List Int) : Int × Int :=
  if totE nm us cs ≠ 0 then (0, totE nm us cs) else match totS us cs cs.length with
    | none => (0, 6)
    | some t => (t, 0)
theorem totE_lad {nm : ByteArray} {us : Us} {cs : List Int} (z : ¬ ladOk nm us) : totE nm us cs = 10 := if_neg z
theorem totE_len {nm : ByteArray} {us : Us} {cs : List Int} (z : ladOk nm us) (h : ¬ cs.length ≤ us.length) : totE nm us cs = 2 := by
  unfold totE; rw [if_pos z, if_neg h]
theorem totE_neg {nm : ByteArray} {us : Us} {cs : List Int} (z : ladOk nm us) (h : cs.length ≤ us.length) (n : hasN cs) : totE nm us cs = 8 := by
  unfold totE; rw [if_pos z, if_pos h, if_pos n]
theorem totE_ok {nm : ByteArray} {us : Us} {cs : List Int} (z : ladOk nm us) (h : cs.length ≤ us.length) (n : ¬ hasN cs) : totE nm us cs = 0 := by
  unfold totE; rw [if_pos z, if_pos h, if_neg n]
theorem totF_err {nm : ByteArray} {us : Us} {cs : List Int} {e : Int} (h : totE nm us cs = e) (h0 : e ≠ 0) : totF nm us cs = (0, e) := by
  unfold totF; rw [h, if_pos h0]
theorem totF_ok {nm : ByteArray} {us : Us} {cs : List Int} (h : totE nm us cs = 0) : totF nm us cs = match totS us cs cs.length with
    | none => (0, 6)
    | some t => (t, 0) := by
  unfold totF; rw [h, if_neg (by simp)]
theorem step_bd {t V c : Int} (h0 : 0 ≤ t) (h1 : t ≤ 1099511627776) (hV : 1 ≤ V) (hc : 0 ≤ c) (hn : ¬ (1099511627776 - t) / V < c) : 0 ≤ c * V ∧ t + c * V ≤ 1099511627776 := by
  have h2 : c ≤ (1099511627776 - t) / V := by omega
  have h3 := (Int.le_ediv_iff_mul_le (show 0 < V by omega)).1 h2
  have h4 := Int.mul_nonneg hc (show 0 ≤ V by omega)
  omega

end Go.Proofs.Ytgnoombihlhdiaa
/- Contracts: Bring; the ladders that are made of factors. -/
namespace Go.Proofs.Ytgnoombihlhdiaa
open Go.Ev
theorem tmod_emod {n m : Int} (hm : 1 ≤ m) : (n.tmod m < 0 → n % m = n.tmod m + m) ∧ (¬ n.tmod m < 0 → n % m = n.tmod m) ∧ -m < n.tmod m ∧ n.tmod m < m := by
  have h1 := Int.mul_tdiv_add_tmod n m
  have h3 : (n.tmod m).natAbs < m.natAbs := by rw [Int.natAbs_tmod]; exact Nat.mod_lt _ (by omega)
  have h4 : n % m = n.tmod m % m := by
    have : n % m = (m * n.tdiv m + n.tmod m) % m := by rw [h1]
    rw [this, Int.add_comm, Int.add_mul_emod_self_left]
  refine ⟨fun h => ?_, fun h => ?_, by omega, by omega⟩
  · rw [h4, ← Int.add_emod_right, Int.emod_eq_of_lt (by omega) (by omega)]
  · rw [h4, Int.emod_eq_of_lt (by omega) (by omega)]
set_option maxRecDepth 100000 in
set_option maxHeartbeats 4000000 in
theorem bring_w (n m : Int) (h1 : 1 ≤ m) (h2 : m ≤ 4398046511104) (h : AHeap) : Wc pr (.func 73) [.int .i64 n, .int .i64 m] h fun v h' => v = .int .i64 (n % m) ∧ h = h' := by
  obtain ⟨t1, t2, t3, t4⟩ := tmod_emod (n := n) h1
  have m0 : m ≠ 0 := by omega
  have m1 : ¬ m < 1 := by omega
  refine wc_func Try.func73 rfl rfl rfl rfl ?_
  by_cases y : n.tmod m < 0
  · repeat' (first
    | ((with_reducible refine optP_id ?_); conv => { arg 1; simp (disch := first | assumption | omega) only [push_cast, ↓reduceIte, reduceIte, Nat.reduceEqDiff, Nat.reduceAdd, Nat.reduceSub, Nat.reduceMul, Nat.reduceBEq, Int.reduceNeg] }; refine optP_some ?_)
    | ((with_reducible refine condP_id ?_); conv => { arg 1; simp (disch := first | assumption | omega) only [push_cast, ↓reduceIte, reduceIte, Nat.reduceEqDiff, Nat.reduceAdd, Nat.reduceSub, Nat.reduceMul, Nat.reduceBEq, Int.reduceNeg] }; first | refine condP_yes (by first | assumption | exact fun hn => hn (by assumption) | omega | decide) ?_ | refine condP_non (by assumption) ?_ | refine condP_no (by first | assumption | omega | decide) ?_ | refine condP_decn (fun hc => ?_) (fun hc => ?_) | refine condP_dec (fun hc => ?_) (fun hc => ?_) | refine condP_true (by first | assumption | rfl) ?_ | refine condP_false (by first | assumption | rfl) ?_ | refine condP_bool (fun hc => ?_) (fun hc => ?_))
    | ((with_reducible refine condO_id ?_); conv => { arg 1; simp (disch := first | assumption | omega) only [push_cast, ↓reduceIte, reduceIte, Nat.reduceEqDiff, Nat.reduceAdd, Nat.reduceSub, Nat.reduceMul, Nat.reduceBEq, Int.reduceNeg] }; refine condO_some ?_)
    | ((with_reducible refine callP_id ?_); conv => { arg 2; simp (disch := first | assumption | omega) only [push_cast, ↓reduceIte, reduceIte, Nat.reduceEqDiff, Nat.reduceAdd, Nat.reduceSub, Nat.reduceMul, Nat.reduceBEq, Int.reduceNeg] }; conv => { arg 3; simp (disch := first | assumption | omega) only [push_cast, ↓reduceIte, reduceIte, Nat.reduceEqDiff, Nat.reduceAdd, Nat.reduceSub, Nat.reduceMul, Nat.reduceBEq, Int.reduceNeg] }; first | refine callP_plain ?_ | refine callP_yield ?_ | (refine callP_func ?_; conv => { arg 3; simp only [push_cast] }))
    | ((with_reducible refine resP_id ?_); conv => { arg 1; simp (disch := first | assumption | omega) only [push_cast, ↓reduceIte, reduceIte, Nat.reduceEqDiff, Nat.reduceAdd, Nat.reduceSub, Nat.reduceMul, Nat.reduceBEq, Int.reduceNeg] }; first | refine resP_one ?_ | refine resP_two ?_ | refine resP_three ?_ | refine resP_zero ?_)
    | refine wk_seq ?_ | refine wk_block ?_ | refine wk_scope ?_ | refine wk_inBlock ?_ | refine wk_inScope ?_ | refine wk_skip ?_ | refine wk_label ?_ | refine wk_region ?_ | refine wk_draw (by kernel_rfl) (by decide +kernel) ?_ | refine wo_nil ?_ | refine wk_exit ?_ | refine exitK_code ?_ | refine exitK_hit ?_ | refine exitK_miss rfl ?_ | refine exitK_inLoop ?_ | refine exitK_inScope ?_ | refine wk_cond ?_ | refine wk_ret ?_ | refine wk_nil ?_ | refine wo_dst rfl (opR_call ?_) | refine wo_nodst (opR_call ?_) | refine wo_dst rfl (opR_pick ?_) | refine wo_guard rfl rfl ?_ | refine wo_guardn rfl ?_ | refine wo_dst rfl (opR_pure ?_) | refine wo_nodst (opR_pure ?_)
    | refine give_ret ?_ | refine give_end ?_)
    exact ⟨by rw [t1 y], rfl⟩
  · repeat' (first
    | ((with_reducible refine optP_id ?_); conv => { arg 1; simp (disch := first | assumption | omega) only [push_cast, ↓reduceIte, reduceIte, Nat.reduceEqDiff, Nat.reduceAdd, Nat.reduceSub, Nat.reduceMul, Nat.reduceBEq, Int.reduceNeg] }; refine optP_some ?_)
    | ((with_reducible refine condP_id ?_); conv => { arg 1; simp (disch := first | assumption | omega) only [push_cast, ↓reduceIte, reduceIte, Nat.reduceEqDiff, Nat.reduceAdd, Nat.reduceSub, Nat.reduceMul, Nat.reduceBEq, Int.reduceNeg] }; first | refine condP_yes (by first | assumption | exact fun hn => hn (by assumption) | omega | decide) ?_ | refine condP_non (by assumption) ?_ | refine condP_no (by first | assumption | omega | decide) ?_ | refine condP_decn (fun hc => ?_) (fun hc => ?_) | refine condP_dec (fun hc => ?_) (fun hc => ?_) | refine condP_true (by first | assumption | rfl) ?_ | refine condP_false (by first | assumption | rfl) ?_ | refine condP_bool (fun hc => ?_) (fun hc => ?_))
    | ((with_reducible refine condO_id ?_); conv => { arg 1; simp (disch := first | assumption | omega) only [push_cast, ↓reduceIte, reduceIte, Nat.reduceEqDiff, Nat.reduceAdd, Nat.reduceSub, Nat.reduceMul, Nat.reduceBEq, Int.reduceNeg] }; refine condO_some ?_)
    | ((with_reducible refine callP_id ?_); conv => { arg 2; simp (disch := first | assumption | omega) only [push_cast, ↓reduceIte, reduceIte, Nat.reduceEqDiff, Nat.reduceAdd, Nat.reduceSub, Nat.reduceMul, Nat.reduceBEq, Int.reduceNeg] }; conv => { arg 3; simp (disch := first | assumption | omega) only [push_cast, ↓reduceIte, reduceIte, Nat.reduceEqDiff, Nat.reduceAdd, Nat.reduceSub, Nat.reduceMul, Nat.reduceBEq, Int.reduceNeg] }; first | refine callP_plain ?_ | refine callP_yield ?_ | (refine callP_func ?_; conv => { arg 3; simp only [push_cast] }))
    | ((with_reducible refine resP_id ?_); conv => { arg 1; simp (disch := first | assumption | omega) only [push_cast, ↓reduceIte, reduceIte, Nat.reduceEqDiff, Nat.reduceAdd, Nat.reduceSub, Nat.reduceMul, Nat.reduceBEq, Int.reduceNeg] }; first | refine resP_one ?_ | refine resP_two ?_ | refine resP_three ?_ | refine resP_zero ?_)
    | refine wk_seq ?_ | refine wk_block ?_ | refine wk_scope ?_ | refine wk_inBlock ?_ | refine wk_inScope ?_ | refine wk_skip ?_ | refine wk_label ?_ | refine wk_region ?_ | refine wk_draw (by kernel_rfl) (by decide +kernel) ?_ | refine wo_nil ?_ | refine wk_exit ?_ | refine exitK_code ?_ | refine exitK_hit ?_ | refine exitK_miss rfl ?_ | refine exitK_inLoop ?_ | refine exitK_inScope ?_ | refine wk_cond ?_ | refine wk_ret ?_ | refine wk_nil ?_ | refine wo_dst rfl (opR_call ?_) | refine wo_nodst (opR_call ?_) | refine wo_dst rfl (opR_pick ?_) | refine wo_guard rfl rfl ?_ | refine wo_guardn rfl ?_ | refine wo_dst rfl (opR_pure ?_) | refine wo_nodst (opR_pure ?_)
    | refine give_ret ?_ | refine give_end ?_)
    exact ⟨by rw [t2 y], rfl⟩

/-- the signs a, b, c .. -/
def sg (i : Nat) : ByteArray := ⟨#[UInt8.ofNat (97 + i)]⟩
def sgs : List Value := [.string ⟨#[97]⟩, .string ⟨#[98]⟩, .string ⟨#[99]⟩, .string ⟨#[100]⟩, .string ⟨#[101]⟩, .string ⟨#[102]⟩, .string ⟨#[103]⟩, .string ⟨#[104]⟩]
theorem sgs_at {i : Nat} (h : i < 8) : at? sgs i = some (.string (sg i)) := by
  match i, h with
  | 0, _ => rfl
  | 1, _ => rfl
  | 2, _ => rfl
  | 3, _ => rfl
  | 4, _ => rfl
  | 5, _ => rfl
  | 6, _ => rfl
  | 7, _ => rfl
theorem bs62 : buildSliceA Try.prog 62 8 [(0, .string ⟨#[97]⟩), (1, .string ⟨#[98]⟩), (2, .string ⟨#[99]⟩), (3, .string ⟨#[100]⟩), (4, .string ⟨#[101]⟩), (5, .string ⟨#[102]⟩), (6, .string ⟨#[103]⟩), (7, .string ⟨#[104]⟩)] = some (.cells sgs 9 true, fun b => .slice (some ⟨b, 0, none⟩) 8 (EX + 8)) := by kernel_rfl
theorem bs40 (s : ByteArray) (n : Int) : buildSliceA Try.prog 40 1 [(0, .agg #[.string s, .int .i64 n])] = some (.cells [.string s, .int .i64 n] 94 true, fun b => .slice (some ⟨b, 0, none⟩) 1 (EX + 1)) := by kernel_rfl
theorem apU' (h : AHeap) (b : Option Addr) (n c : Nat) (x : Value) : appendOp Try.prog h 40 40 (.slice b n c) x = appendS h 94 2 24 b n c x := by kernel_rfl
/-- the units of a ladder that is made of k factors -/
def vaU (fs : List Int) (k : Nat) : Us := (sg 0, 1) :: (List.range k).map fun i => (sg (i + 1), 2 + fs[i]?.getD 0 % 9)
theorem vaU_len (fs : List Int) (k : Nat) : (vaU fs k).length = k + 1 := by simp [vaU]
theorem vaU_succ (fs : List Int) (k : Nat) : vaU fs (k + 1) = vaU fs k ++ [(sg (k + 1), 2 + fs[k]?.getD 0 % 9)] := by simp [vaU, List.range_succ]
theorem vaU_ne (fs : List Int) (k : Nat) : vaU fs k ≠ [] := by simp [vaU]
def own : ByteArray := ⟨#[111, 119, 110]⟩

set_option maxRecDepth 100000 in
set_option maxHeartbeats 8000000 in
theorem valid_w (nm : ByteArray) (fs : List Int) (v : Value) (h : AHeap) (hv : IIn h v fs) (hl : fs.length ≤ 4611686018427387904) :
    Wc pr (.func 74) [.string nm, v] h fun r h' => (∃ v', r = .agg #[.string nm, v'] ∧ UIn h' v' (vaU fs (min fs.length 7)) ∧ okC v' = true) ∧ Gr h h' := by
  obtain ⟨a, c, rfl, hc, hv⟩ := hv
  refine wc_func Try.func74 rfl rfl rfl rfl ?_
  repeat' (first
    | ((with_reducible refine optP_id ?_); conv => { arg 1; simp (disch := first | assumption | omega) only [push_cast, ↓reduceIte, reduceIte, Nat.reduceEqDiff, Nat.reduceAdd, Nat.reduceSub, Nat.reduceMul, Nat.reduceBEq, Int.reduceNeg, bs62, bs40] }; refine optP_some ?_)
    | ((with_reducible refine condP_id ?_); conv => { arg 1; simp (disch := first | assumption | omega) only [push_cast, ↓reduceIte, reduceIte, Nat.reduceEqDiff, Nat.reduceAdd, Nat.reduceSub, Nat.reduceMul, Nat.reduceBEq, Int.reduceNeg, bs62, bs40] }; first | refine condP_yes (by first | assumption | exact fun hn => hn (by assumption) | omega | decide) ?_ | refine condP_non (by assumption) ?_ | refine condP_no (by first | assumption | omega | decide) ?_ | refine condP_decn (fun hc => ?_) (fun hc => ?_) | refine condP_dec (fun hc => ?_) (fun hc => ?_) | refine condP_true (by first | assumption | rfl) ?_ | refine condP_false (by first | assumption | rfl) ?_ | refine condP_bool (fun hc => ?_) (fun hc => ?_))
    | ((with_reducible refine condO_id ?_); conv => { arg 1; simp (disch := first | assumption | omega) only [push_cast, ↓reduceIte, reduceIte, Nat.reduceEqDiff, Nat.reduceAdd, Nat.reduceSub, Nat.reduceMul, Nat.reduceBEq, Int.reduceNeg, bs62, bs40] }; refine condO_some ?_)
    | ((with_reducible refine callP_id ?_); conv => { arg 2; simp (disch := first | assumption | omega) only [push_cast, ↓reduceIte, reduceIte, Nat.reduceEqDiff, Nat.reduceAdd, Nat.reduceSub, Nat.reduceMul, Nat.reduceBEq, Int.reduceNeg, bs62, bs40] }; conv => { arg 3; simp (disch := first | assumption | omega) only [push_cast, ↓reduceIte, reduceIte, Nat.reduceEqDiff, Nat.reduceAdd, Nat.reduceSub, Nat.reduceMul, Nat.reduceBEq, Int.reduceNeg, bs62, bs40] }; first | refine callP_plain ?_ | refine callP_yield ?_ | (refine callP_func ?_; conv => { arg 3; simp only [push_cast] }))
    | ((with_reducible refine resP_id ?_); conv => { arg 1; simp (disch := first | assumption | omega) only [push_cast, ↓reduceIte, reduceIte, Nat.reduceEqDiff, Nat.reduceAdd, Nat.reduceSub, Nat.reduceMul, Nat.reduceBEq, Int.reduceNeg, bs62, bs40] }; first | refine resP_one ?_ | refine resP_two ?_ | refine resP_three ?_ | refine resP_zero ?_)
    | refine wk_seq ?_ | refine wk_block ?_ | refine wk_scope ?_ | refine wk_inBlock ?_ | refine wk_inScope ?_ | refine wk_skip ?_ | refine wk_label ?_ | refine wk_region ?_ | refine wk_draw (by kernel_rfl) (by decide +kernel) ?_ | refine wk_drawn [(1, 15), (6, 15)] (by kernel_rfl) (by decide +kernel) ?_ | refine wo_nil ?_ | refine wk_exit ?_ | refine exitK_code ?_ | refine exitK_hit ?_ | refine exitK_miss rfl ?_ | refine exitK_inLoop ?_ | refine exitK_inScope ?_ | refine wk_cond ?_ | refine wk_ret ?_ | refine wk_nil ?_ | refine wo_dst rfl (opR_call ?_) | refine wo_nodst (opR_call ?_) | refine wo_dst rfl (opR_pick ?_) | refine wo_guard rfl rfl ?_ | refine wo_guardn rfl ?_ | refine wo_dst rfl (opR_pure ?_) | refine wo_nodst (opR_pure ?_)
    | refine wd_dst rfl (opR_call ?_) | refine wd_nodst (opR_call ?_) | refine wd_dst rfl (opR_pick ?_) | refine wd_guard rfl rfl ?_ | refine wd_guardn rfl ?_ | refine wd_dst rfl (opR_pure ?_) | refine wd_nodst (opR_pure ?_) | refine opR_call ?_ | refine opR_pick ?_ | refine opR_pure ?_ | (refine wd_nil ?_; refine doneD rfl rfl ?_ ?_) | refine again_nil | refine again_cons ?_ ?_ | refine again_plain rfl rfl rfl ?_ | refine again_guard rfl rfl rfl rfl ?_ | exact same_undef | exact same_of rfl rfl | refine give_ret ?_ | refine give_end ?_)
  refine wk_loop (fun m E H => ∃ k b c' : Nat, m = 7 - k ∧ k ≤ 7 ∧ k ≤ fs.length ∧ Gr h H ∧ h.next + 1 + 1 + 1 < H.next ∧ H.get h.next = some (.cells [.string ByteArray.empty, .slice none 0 0] 42 true) ∧ H.get (h.next + 1) = some (.cells sgs 9 true) ∧ h.next + 1 < b ∧ b ≠ h.next + 1 + 1 + 1 ∧ b < H.next ∧ capLo c' = k + 1 ∧ H.get (h.next + 1 + 1 + 1) = some (.cells [.string nm, .slice (some ⟨b, 0, none⟩) (k + 1) c'] 42 true) ∧ H.get b = some (.cells (flatE encU (vaU fs k)) 94 true) ∧ E.look 1 top = .slice a fs.length c ∧ E.look 4 top = .pointer (some ⟨h.next, 0, none⟩) ∧ E.look 5 top = .slice (some ⟨h.next + 1, 0, none⟩) 8 (EX + 8) ∧ E.look 6 top = .pointer (some ⟨h.next + 1 + 1 + 1, 0, none⟩) ∧ E.look 7 top = .int .i64 (k : Int)) 7
    ⟨0, h.next + 1 + 1, EX + 1, by omega, by omega, by omega, by (repeat (first | exact Gr.refl _ | assumption | (refine Gr.trans ?_ (by assumption)) | refine Gr.set ?_ (by first | exact Nat.le_refl _ | omega | (simp only [next_new, next_set]; omega)) _ | refine Gr.new ?_ _)), by simp only [next_new, next_set]; omega, by simp (disch := first | assumption | omega) only [push_cast, ↓reduceIte, reduceIte, Nat.reduceEqDiff, Nat.reduceAdd, Nat.reduceSub, Nat.reduceMul, Nat.reduceBEq, Int.reduceNeg], by simp (disch := first | assumption | omega) only [push_cast, ↓reduceIte, reduceIte, Nat.reduceEqDiff, Nat.reduceAdd, Nat.reduceSub, Nat.reduceMul, Nat.reduceBEq, Int.reduceNeg], by omega, by omega, by simp only [next_new, next_set]; omega, by rw [capLo_ex], by simp (disch := first | assumption | omega) only [push_cast, ↓reduceIte, reduceIte, Nat.reduceEqDiff, Nat.reduceAdd, Nat.reduceSub, Nat.reduceMul, Nat.reduceBEq, Int.reduceNeg], by simp (disch := first | assumption | omega) only [push_cast, ↓reduceIte, reduceIte, Nat.reduceEqDiff, Nat.reduceAdd, Nat.reduceSub, Nat.reduceMul, Nat.reduceBEq, Int.reduceNeg]; rfl, by simp (disch := first | assumption | omega) only [push_cast, ↓reduceIte, reduceIte, Nat.reduceEqDiff, Nat.reduceAdd, Nat.reduceSub, Nat.reduceMul, Nat.reduceBEq, Int.reduceNeg], by simp (disch := first | assumption | omega) only [push_cast, ↓reduceIte, reduceIte, Nat.reduceEqDiff, Nat.reduceAdd, Nat.reduceSub, Nat.reduceMul, Nat.reduceBEq, Int.reduceNeg], by simp (disch := first | assumption | omega) only [push_cast, ↓reduceIte, reduceIte, Nat.reduceEqDiff, Nat.reduceAdd, Nat.reduceSub, Nat.reduceMul, Nat.reduceBEq, Int.reduceNeg], by simp (disch := first | assumption | omega) only [push_cast, ↓reduceIte, reduceIte, Nat.reduceEqDiff, Nat.reduceAdd, Nat.reduceSub, Nat.reduceMul, Nat.reduceBEq, Int.reduceNeg], by simp (disch := first | assumption | omega) only [push_cast, ↓reduceIte, reduceIte, Nat.reduceEqDiff, Nat.reduceAdd, Nat.reduceSub, Nat.reduceMul, Nat.reduceBEq, Int.reduceNeg, Int.natCast_zero]⟩ ?_
  rintro m E H ⟨k, b, c', rfl, hk7, hkl, gr, gn, d4, d5, hb1, hb3, hbH, hcap, d6, hgb, e1, e4, e5, e6, e7⟩ next
  have g0 := gr.1
  by_cases y1 : (k : Int) < (fs.length : Int)
  · by_cases y2 : (k : Int) < 7
    · have hkf : k < fs.length := by omega
      obtain ⟨b2, off2, cl2, rw2, rfl, hb2, hgb2, hat2⟩ := hv (by intro h; rw [h] at hkf; exact absurd hkf (Nat.not_lt_zero k))
      have hgb2' : H.get b2 = some (.cells cl2 3 rw2) := by rw [gr.2 b2 hb2]; exact hgb2
      have h0 := at_cut1 _ _ _ (hat2 k hkf)
      rw [Nat.mul_one] at h0
      have hs := sgs_at (i := k + 1) (by omega)
      have hvl := vaU_len fs k
      have hvs := vaU_succ fs k
      rw [List.getElem?_eq_getElem hkf] at hvs
      simp only [Option.getD_some] at hvs
      generalize hX : fs[k] = X at *
      have r1 := Int.emod_nonneg X (show (9 : Int) ≠ 0 by omega)
      have r2 := Int.emod_lt_of_pos X (show (0 : Int) < 9 by omega)
      repeat' (first
    | ((with_reducible refine optP_id ?_); conv => { arg 1; simp (disch := first | assumption | omega) only [push_cast, ↓reduceIte, reduceIte, Nat.reduceEqDiff, Nat.reduceAdd, Nat.reduceSub, Nat.reduceMul, Nat.reduceBEq, Int.reduceNeg, d4, d5, d6, hgb, e1, e4, e5, e6, e7, hs, hgb2', h0, Nat.mul_one, Nat.zero_add, bs40] }; refine optP_some ?_)
    | ((with_reducible refine condP_id ?_); conv => { arg 1; simp (disch := first | assumption | omega) only [push_cast, ↓reduceIte, reduceIte, Nat.reduceEqDiff, Nat.reduceAdd, Nat.reduceSub, Nat.reduceMul, Nat.reduceBEq, Int.reduceNeg, d4, d5, d6, hgb, e1, e4, e5, e6, e7, hs, hgb2', h0, Nat.mul_one, Nat.zero_add, bs40] }; first | refine condP_yes (by first | assumption | exact fun hn => hn (by assumption) | omega | decide) ?_ | refine condP_non (by assumption) ?_ | refine condP_no (by first | assumption | omega | decide) ?_ | refine condP_decn (fun hc => ?_) (fun hc => ?_) | refine condP_dec (fun hc => ?_) (fun hc => ?_) | refine condP_true (by first | assumption | rfl) ?_ | refine condP_false (by first | assumption | rfl) ?_ | refine condP_bool (fun hc => ?_) (fun hc => ?_))
    | ((with_reducible refine condO_id ?_); conv => { arg 1; simp (disch := first | assumption | omega) only [push_cast, ↓reduceIte, reduceIte, Nat.reduceEqDiff, Nat.reduceAdd, Nat.reduceSub, Nat.reduceMul, Nat.reduceBEq, Int.reduceNeg, d4, d5, d6, hgb, e1, e4, e5, e6, e7, hs, hgb2', h0, Nat.mul_one, Nat.zero_add, bs40] }; refine condO_some ?_)
    | ((with_reducible refine callP_id ?_); conv => { arg 2; simp (disch := first | assumption | omega) only [push_cast, ↓reduceIte, reduceIte, Nat.reduceEqDiff, Nat.reduceAdd, Nat.reduceSub, Nat.reduceMul, Nat.reduceBEq, Int.reduceNeg, d4, d5, d6, hgb, e1, e4, e5, e6, e7, hs, hgb2', h0, Nat.mul_one, Nat.zero_add, bs40] }; conv => { arg 3; simp (disch := first | assumption | omega) only [push_cast, ↓reduceIte, reduceIte, Nat.reduceEqDiff, Nat.reduceAdd, Nat.reduceSub, Nat.reduceMul, Nat.reduceBEq, Int.reduceNeg, d4, d5, d6, hgb, e1, e4, e5, e6, e7, hs, hgb2', h0, Nat.mul_one, Nat.zero_add, bs40] }; first | refine callP_plain ?_ | refine callP_yield ?_ | (refine callP_func ?_; conv => { arg 3; simp only [push_cast] }))
    | ((with_reducible refine resP_id ?_); conv => { arg 1; simp (disch := first | assumption | omega) only [push_cast, ↓reduceIte, reduceIte, Nat.reduceEqDiff, Nat.reduceAdd, Nat.reduceSub, Nat.reduceMul, Nat.reduceBEq, Int.reduceNeg, d4, d5, d6, hgb, e1, e4, e5, e6, e7, hs, hgb2', h0, Nat.mul_one, Nat.zero_add, bs40] }; first | refine resP_one ?_ | refine resP_two ?_ | refine resP_three ?_ | refine resP_zero ?_)
    | refine wk_seq ?_ | refine wk_block ?_ | refine wk_scope ?_ | refine wk_inBlock ?_ | refine wk_inScope ?_ | refine wk_skip ?_ | refine wk_label ?_ | refine wk_region ?_ | refine wk_draw (by kernel_rfl) (by decide +kernel) ?_ | refine wk_drawn [(1, 15), (6, 15)] (by kernel_rfl) (by decide +kernel) ?_ | refine wo_nil ?_ | refine wk_exit ?_ | refine exitK_code ?_ | refine exitK_hit ?_ | refine exitK_miss rfl ?_ | refine exitK_inLoop ?_ | refine exitK_inScope ?_ | refine wk_cond ?_ | refine wk_ret ?_ | refine wk_nil ?_ | refine wo_dst rfl (opR_call ?_) | refine wo_nodst (opR_call ?_) | refine wo_dst rfl (opR_pick ?_) | refine wo_guard rfl rfl ?_ | refine wo_guardn rfl ?_ | refine wo_dst rfl (opR_pure ?_) | refine wo_nodst (opR_pure ?_)
    | refine wd_dst rfl (opR_call ?_) | refine wd_nodst (opR_call ?_) | refine wd_dst rfl (opR_pick ?_) | refine wd_guard rfl rfl ?_ | refine wd_guardn rfl ?_ | refine wd_dst rfl (opR_pure ?_) | refine wd_nodst (opR_pure ?_) | refine opR_call ?_ | refine opR_pick ?_ | refine opR_pure ?_ | (refine wd_nil ?_; refine doneD rfl rfl ?_ ?_) | refine again_nil | refine again_cons ?_ ?_ | refine again_plain rfl rfl rfl ?_ | refine again_guard rfl rfl rfl rfl ?_ | exact same_undef | exact same_of rfl rfl | refine give_ret ?_ | refine give_end ?_)
      refine (bring_w _ 9 (by omega) (by omega) _).mono ?_
      rintro _ _ ⟨rfl, rfl⟩
      repeat' (first
    | ((with_reducible refine optP_id ?_); conv => { arg 1; simp (disch := first | assumption | omega) only [push_cast, ↓reduceIte, reduceIte, Nat.reduceEqDiff, Nat.reduceAdd, Nat.reduceSub, Nat.reduceMul, Nat.reduceBEq, Int.reduceNeg, d4, d5, d6, hgb, e1, e4, e5, e6, e7, hs, hgb2', h0, Nat.mul_one, Nat.zero_add, bs40] }; refine optP_some ?_)
    | ((with_reducible refine condP_id ?_); conv => { arg 1; simp (disch := first | assumption | omega) only [push_cast, ↓reduceIte, reduceIte, Nat.reduceEqDiff, Nat.reduceAdd, Nat.reduceSub, Nat.reduceMul, Nat.reduceBEq, Int.reduceNeg, d4, d5, d6, hgb, e1, e4, e5, e6, e7, hs, hgb2', h0, Nat.mul_one, Nat.zero_add, bs40] }; first | refine condP_yes (by first | assumption | exact fun hn => hn (by assumption) | omega | decide) ?_ | refine condP_non (by assumption) ?_ | refine condP_no (by first | assumption | omega | decide) ?_ | refine condP_decn (fun hc => ?_) (fun hc => ?_) | refine condP_dec (fun hc => ?_) (fun hc => ?_) | refine condP_true (by first | assumption | rfl) ?_ | refine condP_false (by first | assumption | rfl) ?_ | refine condP_bool (fun hc => ?_) (fun hc => ?_))
    | ((with_reducible refine condO_id ?_); conv => { arg 1; simp (disch := first | assumption | omega) only [push_cast, ↓reduceIte, reduceIte, Nat.reduceEqDiff, Nat.reduceAdd, Nat.reduceSub, Nat.reduceMul, Nat.reduceBEq, Int.reduceNeg, d4, d5, d6, hgb, e1, e4, e5, e6, e7, hs, hgb2', h0, Nat.mul_one, Nat.zero_add, bs40] }; refine condO_some ?_)
    | ((with_reducible refine callP_id ?_); conv => { arg 2; simp (disch := first | assumption | omega) only [push_cast, ↓reduceIte, reduceIte, Nat.reduceEqDiff, Nat.reduceAdd, Nat.reduceSub, Nat.reduceMul, Nat.reduceBEq, Int.reduceNeg, d4, d5, d6, hgb, e1, e4, e5, e6, e7, hs, hgb2', h0, Nat.mul_one, Nat.zero_add, bs40] }; conv => { arg 3; simp (disch := first | assumption | omega) only [push_cast, ↓reduceIte, reduceIte, Nat.reduceEqDiff, Nat.reduceAdd, Nat.reduceSub, Nat.reduceMul, Nat.reduceBEq, Int.reduceNeg, d4, d5, d6, hgb, e1, e4, e5, e6, e7, hs, hgb2', h0, Nat.mul_one, Nat.zero_add, bs40] }; first | refine callP_plain ?_ | refine callP_yield ?_ | (refine callP_func ?_; conv => { arg 3; simp only [push_cast] }))
    | ((with_reducible refine resP_id ?_); conv => { arg 1; simp (disch := first | assumption | omega) only [push_cast, ↓reduceIte, reduceIte, Nat.reduceEqDiff, Nat.reduceAdd, Nat.reduceSub, Nat.reduceMul, Nat.reduceBEq, Int.reduceNeg, d4, d5, d6, hgb, e1, e4, e5, e6, e7, hs, hgb2', h0, Nat.mul_one, Nat.zero_add, bs40] }; first | refine resP_one ?_ | refine resP_two ?_ | refine resP_three ?_ | refine resP_zero ?_)
    | refine wk_seq ?_ | refine wk_block ?_ | refine wk_scope ?_ | refine wk_inBlock ?_ | refine wk_inScope ?_ | refine wk_skip ?_ | refine wk_label ?_ | refine wk_region ?_ | refine wk_draw (by kernel_rfl) (by decide +kernel) ?_ | refine wk_drawn [(1, 15), (6, 15)] (by kernel_rfl) (by decide +kernel) ?_ | refine wo_nil ?_ | refine wk_exit ?_ | refine exitK_code ?_ | refine exitK_hit ?_ | refine exitK_miss rfl ?_ | refine exitK_inLoop ?_ | refine exitK_inScope ?_ | refine wk_cond ?_ | refine wk_ret ?_ | refine wk_nil ?_ | refine wo_dst rfl (opR_call ?_) | refine wo_nodst (opR_call ?_) | refine wo_dst rfl (opR_pick ?_) | refine wo_guard rfl rfl ?_ | refine wo_guardn rfl ?_ | refine wo_dst rfl (opR_pure ?_) | refine wo_nodst (opR_pure ?_)
    | refine wd_dst rfl (opR_call ?_) | refine wd_nodst (opR_call ?_) | refine wd_dst rfl (opR_pick ?_) | refine wd_guard rfl rfl ?_ | refine wd_guardn rfl ?_ | refine wd_dst rfl (opR_pure ?_) | refine wd_nodst (opR_pure ?_) | refine opR_call ?_ | refine opR_pick ?_ | refine opR_pure ?_ | (refine wd_nil ?_; refine doneD rfl rfl ?_ ?_) | refine again_nil | refine again_cons ?_ ?_ | refine again_plain rfl rfl rfl ?_ | refine again_guard rfl rfl rfl rfl ?_ | exact same_undef | exact same_of rfl rfl | refine give_ret ?_ | refine give_end ?_)
      conv => { arg 1; simp (disch := first | assumption | omega) only [push_cast, ↓reduceIte, reduceIte, Nat.reduceEqDiff, Nat.reduceAdd, Nat.reduceSub, Nat.reduceMul, Nat.reduceBEq, Int.reduceNeg, apU'] }
      have op := fun (Q : Value → AHeap → Prop) (HH : AHeap) q1 q2 q => optP_more (enc := encU) (e := 94) (k := 2) (bytes := 24) (l := vaU fs k) (b := b) (bn := H.next) (e' := 94) (rw' := true) (c := c') (c' := EX + 1) (x := (sg (k + 1), 2 + X % 9)) (Q := Q) (h := HH) encU_len encU_flat (vaU_ne fs k) (by rw [hvl]; omega) (by decide) (by rw [hvl]; exact hcap) q1 q2 q
      rw [hvl] at op
      refine op _ _ (by simp (disch := first | assumption | omega) only [push_cast, ↓reduceIte, reduceIte, Nat.reduceEqDiff, Nat.reduceAdd, Nat.reduceSub, Nat.reduceMul, Nat.reduceBEq, Int.reduceNeg, hgb]) (by simp (disch := first | assumption | omega) only [push_cast, ↓reduceIte, reduceIte, Nat.reduceEqDiff, Nat.reduceAdd, Nat.reduceSub, Nat.reduceMul, Nat.reduceBEq, Int.reduceNeg]; rfl) ?_
      intro H2 n2 g2 f2
      simp only [next_new, next_set] at n2 g2 f2
      have d6' : H2.get (h.next + 1 + 1 + 1) = some (.cells [.string nm, .slice (some ⟨b, 0, none⟩) (k + 1) c'] 42 true) := by rw [f2 _ (by omega) (by omega)]; simp (disch := first | assumption | omega) only [push_cast, ↓reduceIte, reduceIte, Nat.reduceEqDiff, Nat.reduceAdd, Nat.reduceSub, Nat.reduceMul, Nat.reduceBEq, Int.reduceNeg, d6]
      have d4' : H2.get h.next = some (.cells [.string ByteArray.empty, .slice none 0 0] 42 true) := by rw [f2 _ (by omega) (by omega)]; simp (disch := first | assumption | omega) only [push_cast, ↓reduceIte, reduceIte, Nat.reduceEqDiff, Nat.reduceAdd, Nat.reduceSub, Nat.reduceMul, Nat.reduceBEq, Int.reduceNeg, d4]
      have d5' : H2.get (h.next + 1) = some (.cells sgs 9 true) := by rw [f2 _ (by omega) (by omega)]; simp (disch := first | assumption | omega) only [push_cast, ↓reduceIte, reduceIte, Nat.reduceEqDiff, Nat.reduceAdd, Nat.reduceSub, Nat.reduceMul, Nat.reduceBEq, Int.reduceNeg, d5]
      have gr2 : Gr h H2 := ⟨by omega, fun q hq => by rw [f2 _ (by omega) (by omega)]; simp (disch := first | assumption | omega) only [push_cast, ↓reduceIte, reduceIte, Nat.reduceEqDiff, Nat.reduceAdd, Nat.reduceSub, Nat.reduceMul, Nat.reduceBEq, Int.reduceNeg]; exact gr.2 q hq⟩
      repeat' (first
    | ((with_reducible refine optP_id ?_); conv => { arg 1; simp (disch := first | assumption | omega) only [push_cast, ↓reduceIte, reduceIte, Nat.reduceEqDiff, Nat.reduceAdd, Nat.reduceSub, Nat.reduceMul, Nat.reduceBEq, Int.reduceNeg, d4, d5, d6, d6', hs, hgb, e1, e4, e5, e6, e7] }; refine optP_some ?_)
    | ((with_reducible refine condP_id ?_); conv => { arg 1; simp (disch := first | assumption | omega) only [push_cast, ↓reduceIte, reduceIte, Nat.reduceEqDiff, Nat.reduceAdd, Nat.reduceSub, Nat.reduceMul, Nat.reduceBEq, Int.reduceNeg, d4, d5, d6, d6', hs, hgb, e1, e4, e5, e6, e7] }; first | refine condP_yes (by first | assumption | exact fun hn => hn (by assumption) | omega | decide) ?_ | refine condP_non (by assumption) ?_ | refine condP_no (by first | assumption | omega | decide) ?_ | refine condP_decn (fun hc => ?_) (fun hc => ?_) | refine condP_dec (fun hc => ?_) (fun hc => ?_) | refine condP_true (by first | assumption | rfl) ?_ | refine condP_false (by first | assumption | rfl) ?_ | refine condP_bool (fun hc => ?_) (fun hc => ?_))
    | ((with_reducible refine condO_id ?_); conv => { arg 1; simp (disch := first | assumption | omega) only [push_cast, ↓reduceIte, reduceIte, Nat.reduceEqDiff, Nat.reduceAdd, Nat.reduceSub, Nat.reduceMul, Nat.reduceBEq, Int.reduceNeg, d4, d5, d6, d6', hs, hgb, e1, e4, e5, e6, e7] }; refine condO_some ?_)
    | ((with_reducible refine callP_id ?_); conv => { arg 2; simp (disch := first | assumption | omega) only [push_cast, ↓reduceIte, reduceIte, Nat.reduceEqDiff, Nat.reduceAdd, Nat.reduceSub, Nat.reduceMul, Nat.reduceBEq, Int.reduceNeg, d4, d5, d6, d6', hs, hgb, e1, e4, e5, e6, e7] }; conv => { arg 3; simp (disch := first | assumption | omega) only [push_cast, ↓reduceIte, reduceIte, Nat.reduceEqDiff, Nat.reduceAdd, Nat.reduceSub, Nat.reduceMul, Nat.reduceBEq, Int.reduceNeg, d4, d5, d6, d6', hs, hgb, e1, e4, e5, e6, e7] }; first | refine callP_plain ?_ | refine callP_yield ?_ | (refine callP_func ?_; conv => { arg 3; simp only [push_cast] }))
    | ((with_reducible refine resP_id ?_); conv => { arg 1; simp (disch := first | assumption | omega) only [push_cast, ↓reduceIte, reduceIte, Nat.reduceEqDiff, Nat.reduceAdd, Nat.reduceSub, Nat.reduceMul, Nat.reduceBEq, Int.reduceNeg, d4, d5, d6, d6', hs, hgb, e1, e4, e5, e6, e7] }; first | refine resP_one ?_ | refine resP_two ?_ | refine resP_three ?_ | refine resP_zero ?_)
    | refine wk_seq ?_ | refine wk_block ?_ | refine wk_scope ?_ | refine wk_inBlock ?_ | refine wk_inScope ?_ | refine wk_skip ?_ | refine wk_label ?_ | refine wk_region ?_ | refine wk_draw (by kernel_rfl) (by decide +kernel) ?_ | refine wk_drawn [(1, 15), (6, 15)] (by kernel_rfl) (by decide +kernel) ?_ | refine wo_nil ?_ | refine wk_exit ?_ | refine exitK_code ?_ | refine exitK_hit ?_ | refine exitK_miss rfl ?_ | refine exitK_inLoop ?_ | refine exitK_inScope ?_ | refine wk_cond ?_ | refine wk_ret ?_ | refine wk_nil ?_ | refine wo_dst rfl (opR_call ?_) | refine wo_nodst (opR_call ?_) | refine wo_dst rfl (opR_pick ?_) | refine wo_guard rfl rfl ?_ | refine wo_guardn rfl ?_ | refine wo_dst rfl (opR_pure ?_) | refine wo_nodst (opR_pure ?_)
    | refine wd_dst rfl (opR_call ?_) | refine wd_nodst (opR_call ?_) | refine wd_dst rfl (opR_pick ?_) | refine wd_guard rfl rfl ?_ | refine wd_guardn rfl ?_ | refine wd_dst rfl (opR_pure ?_) | refine wd_nodst (opR_pure ?_) | refine opR_call ?_ | refine opR_pick ?_ | refine opR_pure ?_ | (refine wd_nil ?_; refine doneD rfl rfl ?_ ?_) | refine again_nil | refine again_cons ?_ ?_ | refine again_plain rfl rfl rfl ?_ | refine again_guard rfl rfl rfl rfl ?_ | exact same_undef | exact same_of rfl rfl | refine give_ret ?_ | refine give_end ?_)
      refine next (7 - (k + 1)) _ _ (by omega) ⟨k + 1, H.next + 1, (vaU fs k ++ [(sg (k + 1), 2 + X % 9)]).length, rfl, by omega, by omega, by (repeat (first | exact Gr.refl _ | assumption | (refine Gr.trans ?_ (by assumption)) | refine Gr.set ?_ (by first | exact Nat.le_refl _ | omega | (simp only [next_new, next_set]; omega)) _ | refine Gr.new ?_ _)), by simp only [next_set]; omega, by simp (disch := first | assumption | omega) only [push_cast, ↓reduceIte, reduceIte, Nat.reduceEqDiff, Nat.reduceAdd, Nat.reduceSub, Nat.reduceMul, Nat.reduceBEq, Int.reduceNeg, d4'], by simp (disch := first | assumption | omega) only [push_cast, ↓reduceIte, reduceIte, Nat.reduceEqDiff, Nat.reduceAdd, Nat.reduceSub, Nat.reduceMul, Nat.reduceBEq, Int.reduceNeg, d5'], by omega, by omega, by simp only [next_set]; omega, ?_, ?_, ?_, by simp (disch := first | assumption | omega) only [push_cast, ↓reduceIte, reduceIte, Nat.reduceEqDiff, Nat.reduceAdd, Nat.reduceSub, Nat.reduceMul, Nat.reduceBEq, Int.reduceNeg, e1], by simp (disch := first | assumption | omega) only [push_cast, ↓reduceIte, reduceIte, Nat.reduceEqDiff, Nat.reduceAdd, Nat.reduceSub, Nat.reduceMul, Nat.reduceBEq, Int.reduceNeg, e4], by simp (disch := first | assumption | omega) only [push_cast, ↓reduceIte, reduceIte, Nat.reduceEqDiff, Nat.reduceAdd, Nat.reduceSub, Nat.reduceMul, Nat.reduceBEq, Int.reduceNeg, e5], by simp (disch := first | assumption | omega) only [push_cast, ↓reduceIte, reduceIte, Nat.reduceEqDiff, Nat.reduceAdd, Nat.reduceSub, Nat.reduceMul, Nat.reduceBEq, Int.reduceNeg, e6], by simp (disch := first | assumption | omega) only [push_cast, ↓reduceIte, reduceIte, Nat.reduceEqDiff, Nat.reduceAdd, Nat.reduceSub, Nat.reduceMul, Nat.reduceBEq, Int.reduceNeg]⟩
      · rw [List.length_append, hvl]
        exact (capLo_small (len_ex (by simp; omega))).1
      · simp (disch := first | assumption | omega) only [push_cast, ↓reduceIte, reduceIte, Nat.reduceEqDiff, Nat.reduceAdd, Nat.reduceSub, Nat.reduceMul, Nat.reduceBEq, Int.reduceNeg]
        rw [List.length_append, hvl]
        rfl
      · rw [hvs]
        simp (disch := first | assumption | omega) only [push_cast, ↓reduceIte, reduceIte, Nat.reduceEqDiff, Nat.reduceAdd, Nat.reduceSub, Nat.reduceMul, Nat.reduceBEq, Int.reduceNeg, g2]
    · have hk : k = 7 := by omega
      subst hk
      have hm : min fs.length 7 = 7 := by omega
      repeat' (first
    | ((with_reducible refine optP_id ?_); conv => { arg 1; simp (disch := first | assumption | omega) only [push_cast, ↓reduceIte, reduceIte, Nat.reduceEqDiff, Nat.reduceAdd, Nat.reduceSub, Nat.reduceMul, Nat.reduceBEq, Int.reduceNeg, d4, d5, d6, hgb, e1, e4, e5, e6, e7] }; refine optP_some ?_)
    | ((with_reducible refine condP_id ?_); conv => { arg 1; simp (disch := first | assumption | omega) only [push_cast, ↓reduceIte, reduceIte, Nat.reduceEqDiff, Nat.reduceAdd, Nat.reduceSub, Nat.reduceMul, Nat.reduceBEq, Int.reduceNeg, d4, d5, d6, hgb, e1, e4, e5, e6, e7] }; first | refine condP_yes (by first | assumption | exact fun hn => hn (by assumption) | omega | decide) ?_ | refine condP_non (by assumption) ?_ | refine condP_no (by first | assumption | omega | decide) ?_ | refine condP_decn (fun hc => ?_) (fun hc => ?_) | refine condP_dec (fun hc => ?_) (fun hc => ?_) | refine condP_true (by first | assumption | rfl) ?_ | refine condP_false (by first | assumption | rfl) ?_ | refine condP_bool (fun hc => ?_) (fun hc => ?_))
    | ((with_reducible refine condO_id ?_); conv => { arg 1; simp (disch := first | assumption | omega) only [push_cast, ↓reduceIte, reduceIte, Nat.reduceEqDiff, Nat.reduceAdd, Nat.reduceSub, Nat.reduceMul, Nat.reduceBEq, Int.reduceNeg, d4, d5, d6, hgb, e1, e4, e5, e6, e7] }; refine condO_some ?_)
    | ((with_reducible refine callP_id ?_); conv => { arg 2; simp (disch := first | assumption | omega) only [push_cast, ↓reduceIte, reduceIte, Nat.reduceEqDiff, Nat.reduceAdd, Nat.reduceSub, Nat.reduceMul, Nat.reduceBEq, Int.reduceNeg, d4, d5, d6, hgb, e1, e4, e5, e6, e7] }; conv => { arg 3; simp (disch := first | assumption | omega) only [push_cast, ↓reduceIte, reduceIte, Nat.reduceEqDiff, Nat.reduceAdd, Nat.reduceSub, Nat.reduceMul, Nat.reduceBEq, Int.reduceNeg, d4, d5, d6, hgb, e1, e4, e5, e6, e7] }; first | refine callP_plain ?_ | refine callP_yield ?_ | (refine callP_func ?_; conv => { arg 3; simp only [push_cast] }))
    | ((with_reducible refine resP_id ?_); conv => { arg 1; simp (disch := first | assumption | omega) only [push_cast, ↓reduceIte, reduceIte, Nat.reduceEqDiff, Nat.reduceAdd, Nat.reduceSub, Nat.reduceMul, Nat.reduceBEq, Int.reduceNeg, d4, d5, d6, hgb, e1, e4, e5, e6, e7] }; first | refine resP_one ?_ | refine resP_two ?_ | refine resP_three ?_ | refine resP_zero ?_)
    | refine wk_seq ?_ | refine wk_block ?_ | refine wk_scope ?_ | refine wk_inBlock ?_ | refine wk_inScope ?_ | refine wk_skip ?_ | refine wk_label ?_ | refine wk_region ?_ | refine wk_draw (by kernel_rfl) (by decide +kernel) ?_ | refine wk_drawn [(1, 15), (6, 15)] (by kernel_rfl) (by decide +kernel) ?_ | refine wo_nil ?_ | refine wk_exit ?_ | refine exitK_code ?_ | refine exitK_hit ?_ | refine exitK_miss rfl ?_ | refine exitK_inLoop ?_ | refine exitK_inScope ?_ | refine wk_cond ?_ | refine wk_ret ?_ | refine wk_nil ?_ | refine wo_dst rfl (opR_call ?_) | refine wo_nodst (opR_call ?_) | refine wo_dst rfl (opR_pick ?_) | refine wo_guard rfl rfl ?_ | refine wo_guardn rfl ?_ | refine wo_dst rfl (opR_pure ?_) | refine wo_nodst (opR_pure ?_)
    | refine wd_dst rfl (opR_call ?_) | refine wd_nodst (opR_call ?_) | refine wd_dst rfl (opR_pick ?_) | refine wd_guard rfl rfl ?_ | refine wd_guardn rfl ?_ | refine wd_dst rfl (opR_pure ?_) | refine wd_nodst (opR_pure ?_) | refine opR_call ?_ | refine opR_pick ?_ | refine opR_pure ?_ | (refine wd_nil ?_; refine doneD rfl rfl ?_ ?_) | refine again_nil | refine again_cons ?_ ?_ | refine again_plain rfl rfl rfl ?_ | refine again_guard rfl rfl rfl rfl ?_ | exact same_undef | exact same_of rfl rfl | refine give_ret ?_ | refine give_end ?_)
      rw [hm]
      exact ⟨⟨_, rfl, ⟨_, c', rfl, by rw [hcap]; exact Nat.le_refl _, fun _ => ⟨b, 0, flatE encU (vaU fs 7), true, rfl, by simp only [next_set]; omega, by simp (disch := first | assumption | omega) only [push_cast, ↓reduceIte, reduceIte, Nat.reduceEqDiff, Nat.reduceAdd, Nat.reduceSub, Nat.reduceMul, Nat.reduceBEq, Int.reduceNeg, hgb], fun i hi => by rw [Nat.zero_add]; exact flatE_cut encU_len _ hi⟩⟩, rfl⟩, by (repeat (first | exact Gr.refl _ | assumption | (refine Gr.trans ?_ (by assumption)) | refine Gr.set ?_ (by first | exact Nat.le_refl _ | omega | (simp only [next_new, next_set]; omega)) _ | refine Gr.new ?_ _))⟩
  · have hk : k = fs.length := by omega
    have hm : min fs.length 7 = k := by omega
    have hvl := vaU_len fs k
    repeat' (first
    | ((with_reducible refine optP_id ?_); conv => { arg 1; simp (disch := first | assumption | omega) only [push_cast, ↓reduceIte, reduceIte, Nat.reduceEqDiff, Nat.reduceAdd, Nat.reduceSub, Nat.reduceMul, Nat.reduceBEq, Int.reduceNeg, d4, d5, d6, hgb, e1, e4, e5, e6, e7] }; refine optP_some ?_)
    | ((with_reducible refine condP_id ?_); conv => { arg 1; simp (disch := first | assumption | omega) only [push_cast, ↓reduceIte, reduceIte, Nat.reduceEqDiff, Nat.reduceAdd, Nat.reduceSub, Nat.reduceMul, Nat.reduceBEq, Int.reduceNeg, d4, d5, d6, hgb, e1, e4, e5, e6, e7] }; first | refine condP_yes (by first | assumption | exact fun hn => hn (by assumption) | omega | decide) ?_ | refine condP_non (by assumption) ?_ | refine condP_no (by first | assumption | omega | decide) ?_ | refine condP_decn (fun hc => ?_) (fun hc => ?_) | refine condP_dec (fun hc => ?_) (fun hc => ?_) | refine condP_true (by first | assumption | rfl) ?_ | refine condP_false (by first | assumption | rfl) ?_ | refine condP_bool (fun hc => ?_) (fun hc => ?_))
    | ((with_reducible refine condO_id ?_); conv => { arg 1; simp (disch := first | assumption | omega) only [push_cast, ↓reduceIte, reduceIte, Nat.reduceEqDiff, Nat.reduceAdd, Nat.reduceSub, Nat.reduceMul, Nat.reduceBEq, Int.reduceNeg, d4, d5, d6, hgb, e1, e4, e5, e6, e7] }; refine condO_some ?_)
    | ((with_reducible refine callP_id ?_); conv => { arg 2; simp (disch := first | assumption | omega) only [push_cast, ↓reduceIte, reduceIte, Nat.reduceEqDiff, Nat.reduceAdd, Nat.reduceSub, Nat.reduceMul, Nat.reduceBEq, Int.reduceNeg, d4, d5, d6, hgb, e1, e4, e5, e6, e7] }; conv => { arg 3; simp (disch := first | assumption | omega) only [push_cast, ↓reduceIte, reduceIte, Nat.reduceEqDiff, Nat.reduceAdd, Nat.reduceSub, Nat.reduceMul, Nat.reduceBEq, Int.reduceNeg, d4, d5, d6, hgb, e1, e4, e5, e6, e7] }; first | refine callP_plain ?_ | refine callP_yield ?_ | (refine callP_func ?_; conv => { arg 3; simp only [push_cast] }))
    | ((with_reducible refine resP_id ?_); conv => { arg 1; simp (disch := first | assumption | omega) only [push_cast, ↓reduceIte, reduceIte, Nat.reduceEqDiff, Nat.reduceAdd, Nat.reduceSub, Nat.reduceMul, Nat.reduceBEq, Int.reduceNeg, d4, d5, d6, hgb, e1, e4, e5, e6, e7] }; first | refine resP_one ?_ | refine resP_two ?_ | refine resP_three ?_ | refine resP_zero ?_)
    | refine wk_seq ?_ | refine wk_block ?_ | refine wk_scope ?_ | refine wk_inBlock ?_ | refine wk_inScope ?_ | refine wk_skip ?_ | refine wk_label ?_ | refine wk_region ?_ | refine wk_draw (by kernel_rfl) (by decide +kernel) ?_ | refine wk_drawn [(1, 15), (6, 15)] (by kernel_rfl) (by decide +kernel) ?_ | refine wo_nil ?_ | refine wk_exit ?_ | refine exitK_code ?_ | refine exitK_hit ?_ | refine exitK_miss rfl ?_ | refine exitK_inLoop ?_ | refine exitK_inScope ?_ | refine wk_cond ?_ | refine wk_ret ?_ | refine wk_nil ?_ | refine wo_dst rfl (opR_call ?_) | refine wo_nodst (opR_call ?_) | refine wo_dst rfl (opR_pick ?_) | refine wo_guard rfl rfl ?_ | refine wo_guardn rfl ?_ | refine wo_dst rfl (opR_pure ?_) | refine wo_nodst (opR_pure ?_)
    | refine wd_dst rfl (opR_call ?_) | refine wd_nodst (opR_call ?_) | refine wd_dst rfl (opR_pick ?_) | refine wd_guard rfl rfl ?_ | refine wd_guardn rfl ?_ | refine wd_dst rfl (opR_pure ?_) | refine wd_nodst (opR_pure ?_) | refine opR_call ?_ | refine opR_pick ?_ | refine opR_pure ?_ | (refine wd_nil ?_; refine doneD rfl rfl ?_ ?_) | refine again_nil | refine again_cons ?_ ?_ | refine again_plain rfl rfl rfl ?_ | refine again_guard rfl rfl rfl rfl ?_ | exact same_undef | exact same_of rfl rfl | refine give_ret ?_ | refine give_end ?_)
    rw [hm]
    exact ⟨⟨_, rfl, ⟨_, c', by rw [hvl], by rw [hvl, hcap]; exact Nat.le_refl _, fun _ => ⟨b, 0, flatE encU (vaU fs k), true, rfl, by simp only [next_set]; omega, by simp (disch := first | assumption | omega) only [push_cast, ↓reduceIte, reduceIte, Nat.reduceEqDiff, Nat.reduceAdd, Nat.reduceSub, Nat.reduceMul, Nat.reduceBEq, Int.reduceNeg, hgb], fun i hi => by rw [Nat.zero_add]; exact flatE_cut encU_len _ hi⟩⟩, rfl⟩, by (repeat (first | exact Gr.refl _ | assumption | (refine Gr.trans ?_ (by assumption)) | refine Gr.set ?_ (by first | exact Nat.le_refl _ | omega | (simp only [next_new, next_set]; omega)) _ | refine Gr.new ?_ _))⟩
end Go.Proofs.Ytgnoombihlhdiaa
/- Ladders that are made are valid; the total of canonical counts. -/
namespace Go.Proofs.Ytgnoombihlhdiaa
open Go.Ev
theorem vaU_get {fs : List Int} {k i : Nat} (hi : i < (vaU fs k).length) : (vaU fs k)[i] = (sg i, if i = 0 then 1 else 2 + fs[i - 1]?.getD 0 % 9) := by
  match i with
  | 0 => rfl
  | i + 1 => simp [vaU]
theorem sg_name : ∀ i, i < 8 → isNm (sg i) := by decide +kernel
theorem sg_ne : ∀ i, i < 8 → ∀ j, j < i → sg j ≠ sg i := by decide +kernel
theorem own_name : isNm own := by decide +kernel
theorem vaU_fac {fs : List Int} {k i : Nat} (hi : i < (vaU fs k).length) : facAt i (vaU fs k)[i].2 ∧ (vaU fs k)[i].2 ≤ 10 ∧ 1 ≤ (vaU fs k)[i].2 := by
  rw [vaU_get hi]
  have r1 := Int.emod_nonneg (fs[i - 1]?.getD 0) (show (9 : Int) ≠ 0 by omega)
  have r2 := Int.emod_lt_of_pos (fs[i - 1]?.getD 0) (show (0 : Int) < 9 by omega)
  by_cases h0 : i = 0
  · simp only [h0, if_true]
    exact ⟨⟨fun _ => rfl, fun h => absurd h (Nat.lt_irrefl 0)⟩, by decide, by decide⟩
  · simp only [h0, if_false]
    exact ⟨⟨fun h => absurd h h0, fun _ => ⟨by omega, by omega⟩⟩, by omega, by omega⟩
theorem vaU_val {fs : List Int} {k : Nat} : ∀ i, i ≤ (vaU fs k).length → 1 ≤ valU ((vaU fs k).take i) ∧ valU ((vaU fs k).take i) ≤ 10 ^ i
  | 0, _ => ⟨by show (1 : Int) ≤ 1; omega, by show (1 : Int) ≤ 10 ^ 0; decide⟩
  | i + 1, hi => by
    obtain ⟨a1, a2⟩ := vaU_val (fs := fs) (k := k) i (by omega)
    obtain ⟨_, b1, b2⟩ := vaU_fac (fs := fs) (k := k) (show i < (vaU fs k).length by omega)
    rw [valU_take (show i < (vaU fs k).length by omega)]
    have c1 := Int.mul_le_mul a1 b2 (by omega) (by omega)
    have c2 := Int.mul_le_mul a2 b1 (by omega) (by omega)
    rw [Int.pow_succ]
    omega
theorem vaU_ok (fs : List Int) {k : Nat} (hk : k ≤ 7) : ladOk own (vaU fs k) := by
  have hl := vaU_len fs k
  refine ⟨own_name, by omega, by omega, fun i hi => ?_, fun i hi => ⟨(vaU_fac hi).1, ?_⟩⟩
  · rw [vaU_get hi]
    refine ⟨sg_name i (by omega), fun ⟨u, hu, h1⟩ => ?_⟩
    obtain ⟨j, hj, rfl⟩ := List.mem_take_iff_getElem.1 hu
    rw [vaU_get (by omega)] at h1
    exact sg_ne i (by omega) j (by omega) h1
  · have h1 := (vaU_val (fs := fs) (k := k) (i + 1) (by omega)).2
    have h2 : (10 : Int) ^ (i + 1) ≤ 10 ^ 8 := by
      have : (10 : Nat) ^ (i + 1) ≤ 10 ^ 8 := Nat.pow_le_pow_right (by omega) (by omega)
      exact_mod_cast this
    have h3 : (10 : Int) ^ 8 = 100000000 := by decide
    omega

theorem emod_mul' {n a f : Int} (hn : 0 ≤ n) (ha : 0 ≤ a) (hf : 0 ≤ f) : n % (a * f) = n % a + n / a % f * a := by
  obtain ⟨N, rfl⟩ := Int.eq_ofNat_of_zero_le hn
  obtain ⟨A, rfl⟩ := Int.eq_ofNat_of_zero_le ha
  obtain ⟨F, rfl⟩ := Int.eq_ofNat_of_zero_le hf
  have := Nat.mod_mul (x := N) (a := A) (b := F)
  rw [← Int.natCast_mul, ← Int.natCast_emod, ← Int.natCast_ediv, ← Int.natCast_emod, ← Int.natCast_emod, ← Int.natCast_mul, ← Int.natCast_add, this, Nat.mul_comm A]
theorem emod_le' {n m : Int} (h0 : 0 ≤ n) (hm : 0 < m) : n % m ≤ n := by
  have h1 := Int.mul_ediv_add_emod n m
  have h2 := Int.mul_nonneg (show 0 ≤ m by omega) (Int.ediv_nonneg h0 (show 0 ≤ m by omega))
  omega
/-- the total of canonical counts is the number -/
theorem tot_split {us : Us} {n : Int} (h0 : 0 ≤ n) (h1 : n ≤ 1099511627776) (hv : ∀ k, k < us.length → 1 ≤ valU (us.take (k + 1))) (hf : ∀ i (hi : i < us.length), 1 ≤ us[i].2) (h1st : ∀ h : 0 < us.length, us[0].2 = 1) (hne : 0 < us.length) :
    totS us (splitL us n) us.length = some n := by
  have key : ∀ k, k < us.length → totS us (splitL us n) k = some (n % valU (us.take (k + 1))) := by
    intro k
    induction k with
    | zero =>
      intro hk
      have : valU (us.take (0 + 1)) = 1 := by
        rw [valU_take hk, h1st hk]; rfl
      rw [this, Int.emod_one]; rfl
    | succ k ih =>
      intro hk
      have ht := ih (by omega)
      have hlen := splitL_len us n
      rw [totS_succ ht (by omega), splitL_get]
      have hV := hv k (by omega)
      have hc : cntAt us n k = n / valU (us.take (k + 1)) % us[k + 1].2 := by
        unfold cntAt; rw [if_pos hk, facU_at hk]
      have hvt := valU_take hk
      have hf1 := hf (k + 1) hk
      rw [hc, hvt, emod_mul' h0 (by omega) (by omega)]
      generalize valU (us.take (k + 1)) = V at *
      have m1 := Int.emod_nonneg n (show V ≠ 0 by omega)
      have hle : n % V + n / V % us[k + 1].2 * V ≤ n := by
        rw [← emod_mul' h0 (by omega) (by omega)]
        exact emod_le' h0 (by have := Int.mul_le_mul hV hf1 (by omega) (by omega); omega)
      have hle2 : n / V % us[k + 1].2 ≤ (1099511627776 - n % V) / V := (Int.le_ediv_iff_mul_le (show 0 < V by omega)).2 (by omega)
      rw [if_neg (by omega)]
  obtain ⟨k, hk⟩ : ∃ k, us.length = k + 1 := ⟨us.length - 1, by omega⟩
  have ht := key k (by omega)
  have hlen := splitL_len us n
  rw [hk, totS_succ ht (by omega), splitL_get]
  have hV := hv k (by omega)
  have hc : cntAt us n k = n / valU (us.take (k + 1)) := by
    unfold cntAt; rw [if_neg (by omega)]
  rw [hc]
  generalize valU (us.take (k + 1)) = V at *
  have m1 := Int.emod_nonneg n (show V ≠ 0 by omega)
  have hs := Int.mul_ediv_add_emod n V
  have hcm := Int.mul_comm V (n / V)
  have hle2 : n / V ≤ (1099511627776 - n % V) / V := (Int.le_ediv_iff_mul_le (show 0 < V by omega)).2 (by omega)
  rw [if_neg (by omega)]
  congr 1
  omega
end Go.Proofs.Ytgnoombihlhdiaa
/- The walk of the law MetroRoundNear. -/
namespace Go.Proofs.Ytgnoombihlhdiaa
open Go.Ev
theorem round_nr {n x : Int} (hx : 1 ≤ x) (h0 : 0 ≤ n) : (n + x / 2) / x * x ≤ n + x / 2 ∧ n + x / 2 < (n + x / 2) / x * x + x ∧ 0 ≤ (n + x / 2) / x * x ∧ (n + x / 2) / x * x % x = 0 := by
  have h1 := Int.mul_ediv_add_emod (n + x / 2) x
  have h2 := Int.emod_nonneg (n + x / 2) (show x ≠ 0 by omega)
  have h3 := Int.emod_lt_of_pos (n + x / 2) (show 0 < x by omega)
  have h4 : (n + x / 2) / x * x = x * ((n + x / 2) / x) := Int.mul_comm _ _
  have h5 := Int.ediv_nonneg (show 0 ≤ n + x / 2 by omega) (show 0 ≤ x by omega)
  have h6 := Int.mul_nonneg (show 0 ≤ x by omega) h5
  exact ⟨by omega, by omega, by omega, Int.mul_emod_left _ _⟩
theorem val_last {us : Us} {nm : ByteArray} {x e : Int} {i : Nat} (hi : i < us.length) (z : ladOk nm us) (h : valueR nm us us[i].1 x e) : x = valU (us.take (i + 1)) ∧ e = 0 := by
  rcases h with ⟨h1, _⟩ | ⟨_, h1, _⟩ | ⟨_, j, hj, h1, h2, h3, h4⟩
  · exact absurd z h1
  · exact absurd ⟨us[i], List.getElem_mem hi, rfl⟩ h1
  · have := first_one hj hi h1 h2 rfl (z.2.2.2.1 i hi).2
    subst this
    exact ⟨h3, h4⟩
set_option maxRecDepth 100000 in
set_option maxHeartbeats 16000000 in
theorem near_w (fs : List Int) (n un : Int) (v : Value) (h : AHeap) (hv : IIn h v fs) (hl : fs.length ≤ 4611686018427387904) :
    Wc pr (.func 16) [v, .int .i64 n, .int .i64 un] h fun r h' => r = .bool true := by
  have hv0 := hv
  refine wc_func Try.func16 rfl rfl rfl rfl ?_
  repeat' (first
    | ((with_reducible refine optP_id ?_); conv => { arg 1; simp (disch := first | assumption | omega) only [push_cast, ↓reduceIte, reduceIte, Nat.reduceEqDiff, Nat.reduceAdd, Nat.reduceSub, Nat.reduceMul, Nat.reduceBEq, Int.reduceNeg] }; refine optP_some ?_)
    | ((with_reducible refine condP_id ?_); conv => { arg 1; simp (disch := first | assumption | omega) only [push_cast, ↓reduceIte, reduceIte, Nat.reduceEqDiff, Nat.reduceAdd, Nat.reduceSub, Nat.reduceMul, Nat.reduceBEq, Int.reduceNeg] }; first | refine condP_yes (by first | assumption | exact fun hn => hn (by assumption) | omega | decide) ?_ | refine condP_non (by assumption) ?_ | refine condP_no (by first | assumption | omega | decide) ?_ | refine condP_decn (fun hc => ?_) (fun hc => ?_) | refine condP_dec (fun hc => ?_) (fun hc => ?_) | refine condP_true (by first | assumption | rfl) ?_ | refine condP_false (by first | assumption | rfl) ?_ | refine condP_bool (fun hc => ?_) (fun hc => ?_))
    | ((with_reducible refine condO_id ?_); conv => { arg 1; simp (disch := first | assumption | omega) only [push_cast, ↓reduceIte, reduceIte, Nat.reduceEqDiff, Nat.reduceAdd, Nat.reduceSub, Nat.reduceMul, Nat.reduceBEq, Int.reduceNeg] }; refine condO_some ?_)
    | ((with_reducible refine callP_id ?_); conv => { arg 2; simp (disch := first | assumption | omega) only [push_cast, ↓reduceIte, reduceIte, Nat.reduceEqDiff, Nat.reduceAdd, Nat.reduceSub, Nat.reduceMul, Nat.reduceBEq, Int.reduceNeg] }; conv => { arg 3; simp (disch := first | assumption | omega) only [push_cast, ↓reduceIte, reduceIte, Nat.reduceEqDiff, Nat.reduceAdd, Nat.reduceSub, Nat.reduceMul, Nat.reduceBEq, Int.reduceNeg] }; first | refine callP_plain ?_ | refine callP_yield ?_ | (refine callP_func ?_; conv => { arg 3; simp only [push_cast] }))
    | ((with_reducible refine resP_id ?_); conv => { arg 1; simp (disch := first | assumption | omega) only [push_cast, ↓reduceIte, reduceIte, Nat.reduceEqDiff, Nat.reduceAdd, Nat.reduceSub, Nat.reduceMul, Nat.reduceBEq, Int.reduceNeg] }; first | refine resP_one ?_ | refine resP_two ?_ | refine resP_three ?_ | refine resP_zero ?_)
    | refine wk_seq ?_ | refine wk_block ?_ | refine wk_scope ?_ | refine wk_inBlock ?_ | refine wk_inScope ?_ | refine wk_skip ?_ | refine wk_label ?_ | refine wk_region ?_ | refine wk_draw (by kernel_rfl) (by decide +kernel) ?_ | refine wk_drawn [(1, 11)] (by kernel_rfl) (by decide +kernel) ?_ | refine wo_nil ?_ | refine wk_exit ?_ | refine exitK_code ?_ | refine exitK_hit ?_ | refine exitK_miss rfl ?_ | refine exitK_inLoop ?_ | refine exitK_inScope ?_ | refine wk_cond ?_ | refine wk_ret ?_ | refine wk_nil ?_ | refine wo_dst rfl (opR_call ?_) | refine wo_nodst (opR_call ?_) | refine wo_dst rfl (opR_pick ?_) | refine wo_guard rfl rfl ?_ | refine wo_guardn rfl ?_ | refine wo_dst rfl (opR_pure ?_) | refine wo_nodst (opR_pure ?_)
    | refine wd_dst rfl (opR_call ?_) | refine wd_nodst (opR_call ?_) | refine wd_dst rfl (opR_pick ?_) | refine wd_guard rfl rfl ?_ | refine wd_guardn rfl ?_ | refine wd_dst rfl (opR_pure ?_) | refine wd_nodst (opR_pure ?_) | refine opR_call ?_ | refine opR_pick ?_ | refine opR_pure ?_ | (refine wd_nil ?_; refine doneD rfl rfl ?_ ?_) | refine again_nil | refine again_cons ?_ ?_ | refine again_plain rfl rfl rfl ?_ | refine again_guard rfl rfl rfl rfl ?_ | exact same_undef | exact same_of rfl rfl | refine give_ret ?_ | refine give_end ?_)
  refine (valid_w own fs v _ (SlIn.gr hv0 (by (repeat (first | exact Gr.refl _ | assumption | (refine Gr.trans ?_ (by assumption)) | refine Gr.set ?_ (by first | exact Nat.le_refl _ | omega | (simp only [next_new, next_set]; omega)) _ | refine Gr.new ?_ _)))) hl).mono ?_
  rintro _ h1 ⟨⟨u, rfl, hu, hou⟩, g1⟩; have n1 := g1.1; have k1 := g1.2; try simp only [next_new, next_set] at n1 k1
  have zl := vaU_ok fs (k := min fs.length 7) (by omega)
  have hlen := vaU_len fs (min fs.length 7)
  generalize vaU fs (min fs.length 7) = us at *
  have l12 := zl.2.2.1
  have l1 := zl.2.1
  have fc := ladOk_fac zl
  have vl := ladOk_val zl
  have hu0 := hu
  obtain ⟨a, c, rfl, hc, hu⟩ := hu
  obtain ⟨bu, ou, cu, rwu, rfl, hbu, hgu, hatu⟩ := hu (by intro h0; rw [h0] at l1; exact absurd l1 (by decide))
  have hl' : us.length ≤ 9223372036854775807 := by omega
  repeat' (first
    | ((with_reducible refine optP_id ?_); conv => { arg 1; simp (disch := first | assumption | omega) only [push_cast, ↓reduceIte, reduceIte, Nat.reduceEqDiff, Nat.reduceAdd, Nat.reduceSub, Nat.reduceMul, Nat.reduceBEq, Int.reduceNeg, k1] }; refine optP_some ?_)
    | ((with_reducible refine condP_id ?_); conv => { arg 1; simp (disch := first | assumption | omega) only [push_cast, ↓reduceIte, reduceIte, Nat.reduceEqDiff, Nat.reduceAdd, Nat.reduceSub, Nat.reduceMul, Nat.reduceBEq, Int.reduceNeg, k1] }; first | refine condP_yes (by first | assumption | exact fun hn => hn (by assumption) | omega | decide) ?_ | refine condP_non (by assumption) ?_ | refine condP_no (by first | assumption | omega | decide) ?_ | refine condP_decn (fun hc => ?_) (fun hc => ?_) | refine condP_dec (fun hc => ?_) (fun hc => ?_) | refine condP_true (by first | assumption | rfl) ?_ | refine condP_false (by first | assumption | rfl) ?_ | refine condP_bool (fun hc => ?_) (fun hc => ?_))
    | ((with_reducible refine condO_id ?_); conv => { arg 1; simp (disch := first | assumption | omega) only [push_cast, ↓reduceIte, reduceIte, Nat.reduceEqDiff, Nat.reduceAdd, Nat.reduceSub, Nat.reduceMul, Nat.reduceBEq, Int.reduceNeg, k1] }; refine condO_some ?_)
    | ((with_reducible refine callP_id ?_); conv => { arg 2; simp (disch := first | assumption | omega) only [push_cast, ↓reduceIte, reduceIte, Nat.reduceEqDiff, Nat.reduceAdd, Nat.reduceSub, Nat.reduceMul, Nat.reduceBEq, Int.reduceNeg, k1] }; conv => { arg 3; simp (disch := first | assumption | omega) only [push_cast, ↓reduceIte, reduceIte, Nat.reduceEqDiff, Nat.reduceAdd, Nat.reduceSub, Nat.reduceMul, Nat.reduceBEq, Int.reduceNeg, k1] }; first | refine callP_plain ?_ | refine callP_yield ?_ | (refine callP_func ?_; conv => { arg 3; simp only [push_cast] }))
    | ((with_reducible refine resP_id ?_); conv => { arg 1; simp (disch := first | assumption | omega) only [push_cast, ↓reduceIte, reduceIte, Nat.reduceEqDiff, Nat.reduceAdd, Nat.reduceSub, Nat.reduceMul, Nat.reduceBEq, Int.reduceNeg, k1] }; first | refine resP_one ?_ | refine resP_two ?_ | refine resP_three ?_ | refine resP_zero ?_)
    | refine wk_seq ?_ | refine wk_block ?_ | refine wk_scope ?_ | refine wk_inBlock ?_ | refine wk_inScope ?_ | refine wk_skip ?_ | refine wk_label ?_ | refine wk_region ?_ | refine wk_draw (by kernel_rfl) (by decide +kernel) ?_ | refine wk_drawn [(1, 11)] (by kernel_rfl) (by decide +kernel) ?_ | refine wo_nil ?_ | refine wk_exit ?_ | refine exitK_code ?_ | refine exitK_hit ?_ | refine exitK_miss rfl ?_ | refine exitK_inLoop ?_ | refine exitK_inScope ?_ | refine wk_cond ?_ | refine wk_ret ?_ | refine wk_nil ?_ | refine wo_dst rfl (opR_call ?_) | refine wo_nodst (opR_call ?_) | refine wo_dst rfl (opR_pick ?_) | refine wo_guard rfl rfl ?_ | refine wo_guardn rfl ?_ | refine wo_dst rfl (opR_pure ?_) | refine wo_nodst (opR_pure ?_)
    | refine wd_dst rfl (opR_call ?_) | refine wd_nodst (opR_call ?_) | refine wd_dst rfl (opR_pick ?_) | refine wd_guard rfl rfl ?_ | refine wd_guardn rfl ?_ | refine wd_dst rfl (opR_pure ?_) | refine wd_nodst (opR_pure ?_) | refine opR_call ?_ | refine opR_pick ?_ | refine opR_pure ?_ | (refine wd_nil ?_; refine doneD rfl rfl ?_ ?_) | refine again_nil | refine again_cons ?_ ?_ | refine again_plain rfl rfl rfl ?_ | refine again_guard rfl rfl rfl rfl ?_ | exact same_undef | exact same_of rfl rfl | refine give_ret ?_ | refine give_end ?_)
  refine (bring_w n 1099511627777 (by omega) (by omega) _).mono ?_
  rintro _ _ ⟨rfl, rfl⟩
  have n0 := Int.emod_nonneg n (show (1099511627777 : Int) ≠ 0 by omega)
  have n1' := Int.emod_lt_of_pos n (show (0 : Int) < 1099511627777 by omega)
  generalize n % 1099511627777 = N at *
  repeat' (first
    | ((with_reducible refine optP_id ?_); conv => { arg 1; simp (disch := first | assumption | omega) only [push_cast, ↓reduceIte, reduceIte, Nat.reduceEqDiff, Nat.reduceAdd, Nat.reduceSub, Nat.reduceMul, Nat.reduceBEq, Int.reduceNeg, k1] }; refine optP_some ?_)
    | ((with_reducible refine condP_id ?_); conv => { arg 1; simp (disch := first | assumption | omega) only [push_cast, ↓reduceIte, reduceIte, Nat.reduceEqDiff, Nat.reduceAdd, Nat.reduceSub, Nat.reduceMul, Nat.reduceBEq, Int.reduceNeg, k1] }; first | refine condP_yes (by first | assumption | exact fun hn => hn (by assumption) | omega | decide) ?_ | refine condP_non (by assumption) ?_ | refine condP_no (by first | assumption | omega | decide) ?_ | refine condP_decn (fun hc => ?_) (fun hc => ?_) | refine condP_dec (fun hc => ?_) (fun hc => ?_) | refine condP_true (by first | assumption | rfl) ?_ | refine condP_false (by first | assumption | rfl) ?_ | refine condP_bool (fun hc => ?_) (fun hc => ?_))
    | ((with_reducible refine condO_id ?_); conv => { arg 1; simp (disch := first | assumption | omega) only [push_cast, ↓reduceIte, reduceIte, Nat.reduceEqDiff, Nat.reduceAdd, Nat.reduceSub, Nat.reduceMul, Nat.reduceBEq, Int.reduceNeg, k1] }; refine condO_some ?_)
    | ((with_reducible refine callP_id ?_); conv => { arg 2; simp (disch := first | assumption | omega) only [push_cast, ↓reduceIte, reduceIte, Nat.reduceEqDiff, Nat.reduceAdd, Nat.reduceSub, Nat.reduceMul, Nat.reduceBEq, Int.reduceNeg, k1] }; conv => { arg 3; simp (disch := first | assumption | omega) only [push_cast, ↓reduceIte, reduceIte, Nat.reduceEqDiff, Nat.reduceAdd, Nat.reduceSub, Nat.reduceMul, Nat.reduceBEq, Int.reduceNeg, k1] }; first | refine callP_plain ?_ | refine callP_yield ?_ | (refine callP_func ?_; conv => { arg 3; simp only [push_cast] }))
    | ((with_reducible refine resP_id ?_); conv => { arg 1; simp (disch := first | assumption | omega) only [push_cast, ↓reduceIte, reduceIte, Nat.reduceEqDiff, Nat.reduceAdd, Nat.reduceSub, Nat.reduceMul, Nat.reduceBEq, Int.reduceNeg, k1] }; first | refine resP_one ?_ | refine resP_two ?_ | refine resP_three ?_ | refine resP_zero ?_)
    | refine wk_seq ?_ | refine wk_block ?_ | refine wk_scope ?_ | refine wk_inBlock ?_ | refine wk_inScope ?_ | refine wk_skip ?_ | refine wk_label ?_ | refine wk_region ?_ | refine wk_draw (by kernel_rfl) (by decide +kernel) ?_ | refine wk_drawn [(1, 11)] (by kernel_rfl) (by decide +kernel) ?_ | refine wo_nil ?_ | refine wk_exit ?_ | refine exitK_code ?_ | refine exitK_hit ?_ | refine exitK_miss rfl ?_ | refine exitK_inLoop ?_ | refine exitK_inScope ?_ | refine wk_cond ?_ | refine wk_ret ?_ | refine wk_nil ?_ | refine wo_dst rfl (opR_call ?_) | refine wo_nodst (opR_call ?_) | refine wo_dst rfl (opR_pick ?_) | refine wo_guard rfl rfl ?_ | refine wo_guardn rfl ?_ | refine wo_dst rfl (opR_pure ?_) | refine wo_nodst (opR_pure ?_)
    | refine wd_dst rfl (opR_call ?_) | refine wd_nodst (opR_call ?_) | refine wd_dst rfl (opR_pick ?_) | refine wd_guard rfl rfl ?_ | refine wd_guardn rfl ?_ | refine wd_dst rfl (opR_pure ?_) | refine wd_nodst (opR_pure ?_) | refine opR_call ?_ | refine opR_pick ?_ | refine opR_pure ?_ | (refine wd_nil ?_; refine doneD rfl rfl ?_ ?_) | refine again_nil | refine again_cons ?_ ?_ | refine again_plain rfl rfl rfl ?_ | refine again_guard rfl rfl rfl rfl ?_ | exact same_undef | exact same_of rfl rfl | refine give_ret ?_ | refine give_end ?_)
  refine (bring_w un us.length (by omega) (by omega) _).mono ?_
  rintro _ _ ⟨rfl, rfl⟩
  have j0 := Int.emod_nonneg un (show (us.length : Int) ≠ 0 by omega)
  have j1 := Int.emod_lt_of_pos un (show (0 : Int) < (us.length : Int) by omega)
  obtain ⟨j, hj⟩ := Int.eq_ofNat_of_zero_le j0
  rw [hj] at j1 ⊢
  have hjl : j < us.length := by omega
  have hsg : at? cu (ou + j * 2) = some (.string us[j].1) := by
    have := hatu j hjl
    rw [encU_eq] at this
    exact at_cut2 _ _ _ _ this
  have hgu1 : h1.get bu = some (.cells cu 94 rwu) := hgu
  repeat' (first
    | ((with_reducible refine optP_id ?_); conv => { arg 1; simp (disch := first | assumption | omega) only [push_cast, ↓reduceIte, reduceIte, Nat.reduceEqDiff, Nat.reduceAdd, Nat.reduceSub, Nat.reduceMul, Nat.reduceBEq, Int.reduceNeg, k1, hgu1, hsg] }; refine optP_some ?_)
    | ((with_reducible refine condP_id ?_); conv => { arg 1; simp (disch := first | assumption | omega) only [push_cast, ↓reduceIte, reduceIte, Nat.reduceEqDiff, Nat.reduceAdd, Nat.reduceSub, Nat.reduceMul, Nat.reduceBEq, Int.reduceNeg, k1, hgu1, hsg] }; first | refine condP_yes (by first | assumption | exact fun hn => hn (by assumption) | omega | decide) ?_ | refine condP_non (by assumption) ?_ | refine condP_no (by first | assumption | omega | decide) ?_ | refine condP_decn (fun hc => ?_) (fun hc => ?_) | refine condP_dec (fun hc => ?_) (fun hc => ?_) | refine condP_true (by first | assumption | rfl) ?_ | refine condP_false (by first | assumption | rfl) ?_ | refine condP_bool (fun hc => ?_) (fun hc => ?_))
    | ((with_reducible refine condO_id ?_); conv => { arg 1; simp (disch := first | assumption | omega) only [push_cast, ↓reduceIte, reduceIte, Nat.reduceEqDiff, Nat.reduceAdd, Nat.reduceSub, Nat.reduceMul, Nat.reduceBEq, Int.reduceNeg, k1, hgu1, hsg] }; refine condO_some ?_)
    | ((with_reducible refine callP_id ?_); conv => { arg 2; simp (disch := first | assumption | omega) only [push_cast, ↓reduceIte, reduceIte, Nat.reduceEqDiff, Nat.reduceAdd, Nat.reduceSub, Nat.reduceMul, Nat.reduceBEq, Int.reduceNeg, k1, hgu1, hsg] }; conv => { arg 3; simp (disch := first | assumption | omega) only [push_cast, ↓reduceIte, reduceIte, Nat.reduceEqDiff, Nat.reduceAdd, Nat.reduceSub, Nat.reduceMul, Nat.reduceBEq, Int.reduceNeg, k1, hgu1, hsg] }; first | refine callP_plain ?_ | refine callP_yield ?_ | (refine callP_func ?_; conv => { arg 3; simp only [push_cast] }))
    | ((with_reducible refine resP_id ?_); conv => { arg 1; simp (disch := first | assumption | omega) only [push_cast, ↓reduceIte, reduceIte, Nat.reduceEqDiff, Nat.reduceAdd, Nat.reduceSub, Nat.reduceMul, Nat.reduceBEq, Int.reduceNeg, k1, hgu1, hsg] }; first | refine resP_one ?_ | refine resP_two ?_ | refine resP_three ?_ | refine resP_zero ?_)
    | refine wk_seq ?_ | refine wk_block ?_ | refine wk_scope ?_ | refine wk_inBlock ?_ | refine wk_inScope ?_ | refine wk_skip ?_ | refine wk_label ?_ | refine wk_region ?_ | refine wk_draw (by kernel_rfl) (by decide +kernel) ?_ | refine wk_drawn [(1, 11)] (by kernel_rfl) (by decide +kernel) ?_ | refine wo_nil ?_ | refine wk_exit ?_ | refine exitK_code ?_ | refine exitK_hit ?_ | refine exitK_miss rfl ?_ | refine exitK_inLoop ?_ | refine exitK_inScope ?_ | refine wk_cond ?_ | refine wk_ret ?_ | refine wk_nil ?_ | refine wo_dst rfl (opR_call ?_) | refine wo_nodst (opR_call ?_) | refine wo_dst rfl (opR_pick ?_) | refine wo_guard rfl rfl ?_ | refine wo_guardn rfl ?_ | refine wo_dst rfl (opR_pure ?_) | refine wo_nodst (opR_pure ?_)
    | refine wd_dst rfl (opR_call ?_) | refine wd_nodst (opR_call ?_) | refine wd_dst rfl (opR_pick ?_) | refine wd_guard rfl rfl ?_ | refine wd_guardn rfl ?_ | refine wd_dst rfl (opR_pure ?_) | refine wd_nodst (opR_pure ?_) | refine opR_call ?_ | refine opR_pick ?_ | refine opR_pure ?_ | (refine wd_nil ?_; refine doneD rfl rfl ?_ ?_) | refine again_nil | refine again_cons ?_ ?_ | refine again_plain rfl rfl rfl ?_ | refine again_guard rfl rfl rfl rfl ?_ | exact same_undef | exact same_of rfl rfl | refine give_ret ?_ | refine give_end ?_)
  refine (value_lad own us us[j].1 _ _ (SlIn.gr hu0 (by (repeat (first | exact Gr.refl _ | assumption | (refine Gr.trans ?_ (by assumption)) | refine Gr.set ?_ (by first | exact Nat.le_refl _ | omega | (simp only [next_new, next_set]; omega)) _ | refine Gr.new ?_ _)))) hl').mono ?_
  rintro _ h2 ⟨⟨x, e, rfl, hx⟩, g2⟩; have n2 := g2.1; have k2 := g2.2; try simp only [next_new, next_set] at n2 k2
  obtain ⟨rfl, rfl⟩ := val_last hjl zl hx
  repeat' (first
    | ((with_reducible refine optP_id ?_); conv => { arg 1; simp (disch := first | assumption | omega) only [push_cast, ↓reduceIte, reduceIte, Nat.reduceEqDiff, Nat.reduceAdd, Nat.reduceSub, Nat.reduceMul, Nat.reduceBEq, Int.reduceNeg, k1, k2] }; refine optP_some ?_)
    | ((with_reducible refine condP_id ?_); conv => { arg 1; simp (disch := first | assumption | omega) only [push_cast, ↓reduceIte, reduceIte, Nat.reduceEqDiff, Nat.reduceAdd, Nat.reduceSub, Nat.reduceMul, Nat.reduceBEq, Int.reduceNeg, k1, k2] }; first | refine condP_yes (by first | assumption | exact fun hn => hn (by assumption) | omega | decide) ?_ | refine condP_non (by assumption) ?_ | refine condP_no (by first | assumption | omega | decide) ?_ | refine condP_decn (fun hc => ?_) (fun hc => ?_) | refine condP_dec (fun hc => ?_) (fun hc => ?_) | refine condP_true (by first | assumption | rfl) ?_ | refine condP_false (by first | assumption | rfl) ?_ | refine condP_bool (fun hc => ?_) (fun hc => ?_))
    | ((with_reducible refine condO_id ?_); conv => { arg 1; simp (disch := first | assumption | omega) only [push_cast, ↓reduceIte, reduceIte, Nat.reduceEqDiff, Nat.reduceAdd, Nat.reduceSub, Nat.reduceMul, Nat.reduceBEq, Int.reduceNeg, k1, k2] }; refine condO_some ?_)
    | ((with_reducible refine callP_id ?_); conv => { arg 2; simp (disch := first | assumption | omega) only [push_cast, ↓reduceIte, reduceIte, Nat.reduceEqDiff, Nat.reduceAdd, Nat.reduceSub, Nat.reduceMul, Nat.reduceBEq, Int.reduceNeg, k1, k2] }; conv => { arg 3; simp (disch := first | assumption | omega) only [push_cast, ↓reduceIte, reduceIte, Nat.reduceEqDiff, Nat.reduceAdd, Nat.reduceSub, Nat.reduceMul, Nat.reduceBEq, Int.reduceNeg, k1, k2] }; first | refine callP_plain ?_ | refine callP_yield ?_ | (refine callP_func ?_; conv => { arg 3; simp only [push_cast] }))
    | ((with_reducible refine resP_id ?_); conv => { arg 1; simp (disch := first | assumption | omega) only [push_cast, ↓reduceIte, reduceIte, Nat.reduceEqDiff, Nat.reduceAdd, Nat.reduceSub, Nat.reduceMul, Nat.reduceBEq, Int.reduceNeg, k1, k2] }; first | refine resP_one ?_ | refine resP_two ?_ | refine resP_three ?_ | refine resP_zero ?_)
    | refine wk_seq ?_ | refine wk_block ?_ | refine wk_scope ?_ | refine wk_inBlock ?_ | refine wk_inScope ?_ | refine wk_skip ?_ | refine wk_label ?_ | refine wk_region ?_ | refine wk_draw (by kernel_rfl) (by decide +kernel) ?_ | refine wk_drawn [(1, 11)] (by kernel_rfl) (by decide +kernel) ?_ | refine wo_nil ?_ | refine wk_exit ?_ | refine exitK_code ?_ | refine exitK_hit ?_ | refine exitK_miss rfl ?_ | refine exitK_inLoop ?_ | refine exitK_inScope ?_ | refine wk_cond ?_ | refine wk_ret ?_ | refine wk_nil ?_ | refine wo_dst rfl (opR_call ?_) | refine wo_nodst (opR_call ?_) | refine wo_dst rfl (opR_pick ?_) | refine wo_guard rfl rfl ?_ | refine wo_guardn rfl ?_ | refine wo_dst rfl (opR_pure ?_) | refine wo_nodst (opR_pure ?_)
    | refine wd_dst rfl (opR_call ?_) | refine wd_nodst (opR_call ?_) | refine wd_dst rfl (opR_pick ?_) | refine wd_guard rfl rfl ?_ | refine wd_guardn rfl ?_ | refine wd_dst rfl (opR_pure ?_) | refine wd_nodst (opR_pure ?_) | refine opR_call ?_ | refine opR_pick ?_ | refine opR_pure ?_ | (refine wd_nil ?_; refine doneD rfl rfl ?_ ?_) | refine again_nil | refine again_cons ?_ ?_ | refine again_plain rfl rfl rfl ?_ | refine again_guard rfl rfl rfl rfl ?_ | exact same_undef | exact same_of rfl rfl | refine give_ret ?_ | refine give_end ?_)
  refine (round_w own us N us[j].1 _ _ (SlIn.gr hu0 (by (repeat (first | exact Gr.refl _ | assumption | (refine Gr.trans ?_ (by assumption)) | refine Gr.set ?_ (by first | exact Nat.le_refl _ | omega | (simp only [next_new, next_set]; omega)) _ | refine Gr.new ?_ _)))) hl').mono ?_
  rintro _ h3 ⟨⟨x', e', hx', rfl⟩, g3⟩; have n3 := g3.1; have k3 := g3.2; try simp only [next_new, next_set] at n3 k3
  obtain ⟨rfl, rfl⟩ := val_last hjl zl hx'
  have vp := valU_pos (us := us) (k := j + 1) (by omega) (fun i hi _ => (facAt_bd (fc i hi)).1)
  have vb := vl j hjl
  generalize valU (us.take (j + 1)) = V at *
  obtain ⟨r1, r2, r3, r4⟩ := round_nr (n := N) vp n0
  have hr : rndF N V 0 = if 1099511627776 < (N + V / 2) / V * V then (0, 6) else ((N + V / 2) / V * V, 0) := by
    rw [rndF, if_neg (by decide), if_neg (by rw [show rngE N = 0 from if_pos ⟨n0, by omega⟩]; decide)]
  rw [hr]
  generalize (N + V / 2) / V * V = q at *
  have v1 : ¬ V < 1 := by omega
  have v0 : V ≠ 0 := by omega
  by_cases y : 1099511627776 < q
  · rw [if_pos y]
    have y2 : 1099511627776 - V < N := by omega
    repeat' (first
    | ((with_reducible refine optP_id ?_); conv => { arg 1; simp (disch := first | assumption | omega) only [push_cast, ↓reduceIte, reduceIte, Nat.reduceEqDiff, Nat.reduceAdd, Nat.reduceSub, Nat.reduceMul, Nat.reduceBEq, Int.reduceNeg, k1, k2, k3] }; refine optP_some ?_)
    | ((with_reducible refine condP_id ?_); conv => { arg 1; simp (disch := first | assumption | omega) only [push_cast, ↓reduceIte, reduceIte, Nat.reduceEqDiff, Nat.reduceAdd, Nat.reduceSub, Nat.reduceMul, Nat.reduceBEq, Int.reduceNeg, k1, k2, k3] }; first | refine condP_yes (by first | assumption | exact fun hn => hn (by assumption) | omega | decide) ?_ | refine condP_non (by assumption) ?_ | refine condP_no (by first | assumption | omega | decide) ?_ | refine condP_decn (fun hc => ?_) (fun hc => ?_) | refine condP_dec (fun hc => ?_) (fun hc => ?_) | refine condP_true (by first | assumption | rfl) ?_ | refine condP_false (by first | assumption | rfl) ?_ | refine condP_bool (fun hc => ?_) (fun hc => ?_))
    | ((with_reducible refine condO_id ?_); conv => { arg 1; simp (disch := first | assumption | omega) only [push_cast, ↓reduceIte, reduceIte, Nat.reduceEqDiff, Nat.reduceAdd, Nat.reduceSub, Nat.reduceMul, Nat.reduceBEq, Int.reduceNeg, k1, k2, k3] }; refine condO_some ?_)
    | ((with_reducible refine callP_id ?_); conv => { arg 2; simp (disch := first | assumption | omega) only [push_cast, ↓reduceIte, reduceIte, Nat.reduceEqDiff, Nat.reduceAdd, Nat.reduceSub, Nat.reduceMul, Nat.reduceBEq, Int.reduceNeg, k1, k2, k3] }; conv => { arg 3; simp (disch := first | assumption | omega) only [push_cast, ↓reduceIte, reduceIte, Nat.reduceEqDiff, Nat.reduceAdd, Nat.reduceSub, Nat.reduceMul, Nat.reduceBEq, Int.reduceNeg, k1, k2, k3] }; first | refine callP_plain ?_ | refine callP_yield ?_ | (refine callP_func ?_; conv => { arg 3; simp only [push_cast] }))
    | ((with_reducible refine resP_id ?_); conv => { arg 1; simp (disch := first | assumption | omega) only [push_cast, ↓reduceIte, reduceIte, Nat.reduceEqDiff, Nat.reduceAdd, Nat.reduceSub, Nat.reduceMul, Nat.reduceBEq, Int.reduceNeg, k1, k2, k3] }; first | refine resP_one ?_ | refine resP_two ?_ | refine resP_three ?_ | refine resP_zero ?_)
    | refine wk_seq ?_ | refine wk_block ?_ | refine wk_scope ?_ | refine wk_inBlock ?_ | refine wk_inScope ?_ | refine wk_skip ?_ | refine wk_label ?_ | refine wk_region ?_ | refine wk_draw (by kernel_rfl) (by decide +kernel) ?_ | refine wk_drawn [(1, 11)] (by kernel_rfl) (by decide +kernel) ?_ | refine wo_nil ?_ | refine wk_exit ?_ | refine exitK_code ?_ | refine exitK_hit ?_ | refine exitK_miss rfl ?_ | refine exitK_inLoop ?_ | refine exitK_inScope ?_ | refine wk_cond ?_ | refine wk_ret ?_ | refine wk_nil ?_ | refine wo_dst rfl (opR_call ?_) | refine wo_nodst (opR_call ?_) | refine wo_dst rfl (opR_pick ?_) | refine wo_guard rfl rfl ?_ | refine wo_guardn rfl ?_ | refine wo_dst rfl (opR_pure ?_) | refine wo_nodst (opR_pure ?_)
    | (refine wc_known rfl ?_)
    | refine wd_dst rfl (opR_call ?_) | refine wd_nodst (opR_call ?_) | refine wd_dst rfl (opR_pick ?_) | refine wd_guard rfl rfl ?_ | refine wd_guardn rfl ?_ | refine wd_dst rfl (opR_pure ?_) | refine wd_nodst (opR_pure ?_) | refine opR_call ?_ | refine opR_pick ?_ | refine opR_pure ?_ | (refine wd_nil ?_; refine doneD rfl rfl ?_ ?_) | refine again_nil | refine again_cons ?_ ?_ | refine again_plain rfl rfl rfl ?_ | refine again_guard rfl rfl rfl rfl ?_ | exact same_undef | exact same_of rfl rfl | refine give_ret ?_ | refine give_end ?_)
    rfl
  · rw [if_neg y]
    have y2 : 2 * (q - N) ≤ V := by omega
    have y3 : 2 * (N - q) < V := by omega
    repeat' (first
    | ((with_reducible refine optP_id ?_); conv => { arg 1; simp (disch := first | assumption | omega) only [push_cast, ↓reduceIte, reduceIte, Nat.reduceEqDiff, Nat.reduceAdd, Nat.reduceSub, Nat.reduceMul, Nat.reduceBEq, Int.reduceNeg, k1, k2, k3, r4] }; refine optP_some ?_)
    | ((with_reducible refine condP_id ?_); conv => { arg 1; simp (disch := first | assumption | omega) only [push_cast, ↓reduceIte, reduceIte, Nat.reduceEqDiff, Nat.reduceAdd, Nat.reduceSub, Nat.reduceMul, Nat.reduceBEq, Int.reduceNeg, k1, k2, k3, r4] }; first | refine condP_yes (by first | assumption | exact fun hn => hn (by assumption) | omega | decide) ?_ | refine condP_non (by assumption) ?_ | refine condP_no (by first | assumption | omega | decide) ?_ | refine condP_decn (fun hc => ?_) (fun hc => ?_) | refine condP_dec (fun hc => ?_) (fun hc => ?_) | refine condP_true (by first | assumption | rfl) ?_ | refine condP_false (by first | assumption | rfl) ?_ | refine condP_bool (fun hc => ?_) (fun hc => ?_))
    | ((with_reducible refine condO_id ?_); conv => { arg 1; simp (disch := first | assumption | omega) only [push_cast, ↓reduceIte, reduceIte, Nat.reduceEqDiff, Nat.reduceAdd, Nat.reduceSub, Nat.reduceMul, Nat.reduceBEq, Int.reduceNeg, k1, k2, k3, r4] }; refine condO_some ?_)
    | ((with_reducible refine callP_id ?_); conv => { arg 2; simp (disch := first | assumption | omega) only [push_cast, ↓reduceIte, reduceIte, Nat.reduceEqDiff, Nat.reduceAdd, Nat.reduceSub, Nat.reduceMul, Nat.reduceBEq, Int.reduceNeg, k1, k2, k3, r4] }; conv => { arg 3; simp (disch := first | assumption | omega) only [push_cast, ↓reduceIte, reduceIte, Nat.reduceEqDiff, Nat.reduceAdd, Nat.reduceSub, Nat.reduceMul, Nat.reduceBEq, Int.reduceNeg, k1, k2, k3, r4] }; first | refine callP_plain ?_ | refine callP_yield ?_ | (refine callP_func ?_; conv => { arg 3; simp only [push_cast] }))
    | ((with_reducible refine resP_id ?_); conv => { arg 1; simp (disch := first | assumption | omega) only [push_cast, ↓reduceIte, reduceIte, Nat.reduceEqDiff, Nat.reduceAdd, Nat.reduceSub, Nat.reduceMul, Nat.reduceBEq, Int.reduceNeg, k1, k2, k3, r4] }; first | refine resP_one ?_ | refine resP_two ?_ | refine resP_three ?_ | refine resP_zero ?_)
    | refine wk_seq ?_ | refine wk_block ?_ | refine wk_scope ?_ | refine wk_inBlock ?_ | refine wk_inScope ?_ | refine wk_skip ?_ | refine wk_label ?_ | refine wk_region ?_ | refine wk_draw (by kernel_rfl) (by decide +kernel) ?_ | refine wk_drawn [(1, 11)] (by kernel_rfl) (by decide +kernel) ?_ | refine wo_nil ?_ | refine wk_exit ?_ | refine exitK_code ?_ | refine exitK_hit ?_ | refine exitK_miss rfl ?_ | refine exitK_inLoop ?_ | refine exitK_inScope ?_ | refine wk_cond ?_ | refine wk_ret ?_ | refine wk_nil ?_ | refine wo_dst rfl (opR_call ?_) | refine wo_nodst (opR_call ?_) | refine wo_dst rfl (opR_pick ?_) | refine wo_guard rfl rfl ?_ | refine wo_guardn rfl ?_ | refine wo_dst rfl (opR_pure ?_) | refine wo_nodst (opR_pure ?_)
    | (refine wc_known rfl ?_)
    | refine wd_dst rfl (opR_call ?_) | refine wd_nodst (opR_call ?_) | refine wd_dst rfl (opR_pick ?_) | refine wd_guard rfl rfl ?_ | refine wd_guardn rfl ?_ | refine wd_dst rfl (opR_pure ?_) | refine wd_nodst (opR_pure ?_) | refine opR_call ?_ | refine opR_pick ?_ | refine opR_pure ?_ | (refine wd_nil ?_; refine doneD rfl rfl ?_ ?_) | refine again_nil | refine again_cons ?_ ?_ | refine again_plain rfl rfl rfl ?_ | refine again_guard rfl rfl rfl rfl ?_ | exact same_undef | exact same_of rfl rfl | refine give_ret ?_ | refine give_end ?_)
    rfl
end Go.Proofs.Ytgnoombihlhdiaa
namespace Go.Proofs.Ytgnoombihlhdiaa.metroRoundNear
open Go.ChangeShapes Go.WideShapes Go.ChangeAt Go.RowKit
open Go.Ev

theorem own : ownKnob Try.prog.godebug = none := by kernel_rfl
theorem laid : laidOutB Try.prog = true := by kernel_rfl

set_option maxRecDepth 100000 in
theorem lifted (os : Os) (started : os.Started) (H : Type) (enc : TypeId × Value → H) :
    ReturnsInHanded {} Try.checked os 16 .any (Rows.metroRoundNearSpec.pre6 enc Try.prog Try.f16 Rows.metroRoundNearRow.domain false) (Rows.metroRoundNearSpec.post enc Try.prog Try.f16 false true false false) := by
  refine returnsInHanded_of_change_sized (C := Try.checked) own started (by kernel_rfl) Try.func16
    (ChangeSpec.witness6 (enc := enc) (C := Try.checked) false ⟨#[], #[.slice none 0 0, .int .i64 0, .int .i64 0], []⟩ 8 (by kernel_rfl) (by kernel_rfl) (by kernel_rfl) (by kernel_rfl)) ?_
  intro W base args ds gs before hval0 hW hcnd hsize _
  have hval : ∀ (j : Nat) t v, Try.f16.params[j]? = some t → args[j]? = some v → Value.okWide Try.prog W .any base t v := hval0
  have hW' := hW
  obtain ⟨p, q, hA0, hV, rfl, hfz, hnd⟩ := hW
  have hA : DataW.TrodAll enc Try.prog W 0 (fun _ => true) true Try.f16.params.toList args.toList ds p := hA0
  rw [Try.params16] at hA hval
  obtain ⟨v0, vs0, d0, ds0, p0, q0, hargs, rfl, rfl, h0, r0⟩ := trodAll_cons hA
  obtain ⟨v1, vs1, d1, ds1, p1, q1, rfl, rfl, rfl, h1, r1⟩ := trodAll_cons r0
  obtain ⟨v2, vs2, d2, ds2, p2, q2, rfl, rfl, rfl, h2, r2⟩ := trodAll_cons r1
  obtain ⟨rfl, rfl, rfl⟩ := trodAll_nil r2
  obtain rfl : args = #[v0, v1, v2] := by cases args; simp_all
  obtain ⟨rfl, rfl⟩ := trodVars_none hV
  have hlt : ∀ x ∈ p0 ++ (p1 ++ (p2 ++ [])) ++ [], x.block < W.heap.size := fun x hx => by simpa using hW'.lt x hx
  have hval_0 := hval 0 48 v0 rfl rfl
  have hval_1 := hval 1 3 v1 rfl rfl
  have hhas : ∀ a n c, v0 = .slice (some a) n c → a.spot = none ∧ a.block < W.heap.size := by
    have hc := hval_0
    simp only [Value.okWide, Try.underlying48] at hc
    exact slice_has Try.underlying48 hc
  obtain ⟨ax, nx, cx, rfl⟩ := okWide_slice Try.underlying48 hval_0
  obtain ⟨fx, hfx⟩ := id h0
  obtain ⟨n, rfl⟩ := okWide_int Try.underlying3 hval_1
  obtain ⟨un, rfl⟩ := okWide_int Try.underlying3 (hval 2 3 v2 rfl rfl)
  have c3 : Try.prog.cellsOf 3 = 1 := by kernel_rfl
  obtain ⟨ρ2, u2, h'', cs, st, le2, hrel2, hin2, _, gr2, _, _, hbulk⟩ := take_slice (e := 3) (ev := encI) (Good := fun _ => True) (sim_empty Try.prog W) encI_len (by decide) Try.underlying48 c3 (fun x v hv => by rw [encI_eq] at hv; rw [List.mem_singleton.1 hv]; rfl) hfx hhas
    (fun n cs y hy => by
      have hlc : ∃ z, cs = [z] := by
        cases n with
        | zero => cases hy
        | succ n =>
          unfold DataW.trod at hy
          rw [Try.underlying3] at hy
          split at hy <;> simp_all
      obtain ⟨z, rfl⟩ := hlc
      obtain ⟨i, hi, _⟩ := DataW.trod_int Try.underlying3 hy
      exact ⟨i, hi, trivial⟩)
  have hlen : cs.length ≤ 4611686018427387904 := by
    rcases hbulk with h | ⟨elems, rest, he, hle⟩
    · rw [h]; decide
    · have b3 : Try.checked.prog.bytesOf 3 = 8 := by kernel_rfl
      have he' : d0 = .slice elems rest := he
      subst he'
      have h2 := sized_slice (j := 0) (t := 48) (e := 3) hsize (by rw [Try.params16]; rfl) rfl Try.underlying48
      rw [b3] at h2
      have h3 : reachBytes = 140737488351232 := rfl
      omega
  have walk : Calls Try.prog 16 #[.slice ax nx cx, .int .i64 n, .int .i64 un] W fun e w' => e = .returned (.bool true) ∧ Below W.heap.size W w' :=
    ev_calls (args := [u2, .int .i64 n, .int .i64 un]) (args' := [.slice ax nx cx, .int .i64 n, .int .i64 un]) Try.func16 rfl rfl st (.cons hrel2 (.cons (.int _ _) (.cons (.int _ _) .nil))) (near_w cs n un u2 h'' hin2 hlen)
  clear hA0 hval0
  refine walk.mono fun e W' ⟨he, bel⟩ => ?_
  subst he
  exact ⟨_, rfl, _, _, _, [], _, [], hW', trodAll_mk1 (shut_bool Try.underlying4 _),
    (trodAll_cons_mk (Below.trod laid (by kernel_rfl) (of_decide_eq_true (by kernel_rfl)) h0 bel (fun x hx => hlt x (by simp [hx]))) (trodAll_cons_mk (Below.trod laid (by kernel_rfl) (of_decide_eq_true (by kernel_rfl)) h1 bel (fun x hx => hlt x (by simp [hx]))) (trodAll_cons_mk (Below.trod laid (by kernel_rfl) (of_decide_eq_true (by kernel_rfl)) h2 bel (fun x hx => hlt x (by simp [hx]))) trodAll_mk0))), rfl, bel.frame _, fun h => by cases h⟩

theorem over : Rows.metroRoundNearRow.holds Try.pinned (OpenSpec.ofChange Rows.metroRoundNearSpec) :=
  OpenClaim.holds_of_wide 16 Try.f16 rfl rfl rfl rfl rfl rfl rfl ⟨rfl, rfl, rfl, rfl, rfl⟩ rfl rfl rfl rfl rfl (by kernel_rfl) Try.func16 (by kernel_rfl)
    (of_decide_eq_true (by kernel_rfl)) (by unfold Func.isWrapper; first | (rw [if_pos (by decide +kernel)]; kernel_rfl) | (rw [if_neg (by decide +kernel)]; exact ⟨rfl, rfl⟩))
    (fun os started H enc _ => lifted os started H enc)

/-- ████ THE STATEMENT ████ -/
theorem proved : Rows.MetroRoundNearSaid :=
  over
#print axioms proved
end Go.Proofs.Ytgnoombihlhdiaa.metroRoundNear
