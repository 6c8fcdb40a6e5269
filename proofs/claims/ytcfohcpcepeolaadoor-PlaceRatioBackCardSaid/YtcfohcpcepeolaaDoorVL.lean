/- Divisions by 2, 2, 3 and 5 in rounds; fractions that are equal. -/
import Derived.Test.YtcfohcpcepeolaaDoorVA
set_option linter.unusedSimpArgs false
set_option linter.unusedVariables false
/- Contracts: metro: magnitude, gcd, Ratio, IsRatio. -/
namespace Go.Proofs.YtcfohcpcepeolaaDoor
open Go.Ev
theorem gcd_step' (a b : Nat) : Nat.gcd b (a % b) = Nat.gcd a b := by
  rw [Nat.gcd_comm a b, Nat.gcd_rec b a, Nat.gcd_comm]
theorem wrap_u64' (x : Int) : IntKind.u64.wrap x = x % 18446744073709551616 := by
  simp [IntKind.wrap, IntKind.signed, IntKind.bits]
theorem int_ext {k : IntKind} {a b : Int} (h : a = b) : Value.int k a = .int k b := by rw [h]

set_option maxRecDepth 100000 in
set_option maxHeartbeats 4000000 in
theorem mgcd_w (a0 b0 : Nat) (ha : a0 < 18446744073709551616) (hb : b0 < 18446744073709551616) (h : AHeap) : Wc pr (.func 113) [.int .u64 a0, .int .u64 b0] h fun v h' => v = .int .u64 (Nat.gcd a0 b0 : Nat) ∧ h' = h := by
  refine wc_func Tryd.func113 rfl rfl rfl rfl ?_
  repeat' (first
    | ((with_reducible first | refine optP_id ?_ | refine condP_id ?_ | refine condO_id ?_ | refine resP_id ?_ | refine callT_of ?_); conv => { arg 1; simp (disch := first | assumption | omega) only [push_cast, ↓reduceIte, reduceIte, Nat.reduceEqDiff, Nat.reduceAdd, Nat.reduceSub, Nat.reduceMul, Nat.reduceBEq, Int.reduceNeg] }; first | ((with_reducible refine optP_id ?_); refine optP_some ?_) | ((with_reducible refine condP_id ?_); first | refine condP_yes (by first | assumption | exact fun hn => hn (by assumption) | omega | decide) ?_ | refine condP_non (by assumption) ?_ | refine condP_no (by first | assumption | omega | decide) ?_ | refine condP_decn (fun hc => ?_) (fun hc => ?_) | refine condP_dec (fun hc => ?_) (fun hc => ?_) | refine condP_true (by first | with_reducible rfl | assumption | rfl) ?_ | refine condP_false (by first | with_reducible rfl | assumption | rfl) ?_ | refine condP_bool (fun hc => ?_) (fun hc => ?_)) | ((with_reducible refine condO_id ?_); refine condO_some ?_) | ((with_reducible refine resP_id ?_); first | refine resP_one ?_ | refine resP_two ?_ | refine resP_three ?_ | refine resP_four ?_ | refine resP_zero ?_) | ((with_reducible refine callT_to ?_); first | refine callP_plain ?_ | refine callP_yield ?_ | (refine callP_func ?_; conv => { arg 3; simp only [push_cast] })))
    | refine wk_seq ?_ | refine wk_region ?_ | refine wk_block ?_ | refine wk_inBlock ?_ | refine wk_scope ?_ | refine wk_inScope ?_ | refine wk_skip ?_ | refine wk_label ?_ | refine wk_draw (by kernel_rfl) (by decide +kernel) ?_ | refine wo_nil ?_ | refine wk_exit ?_ | refine exitK_code ?_ | refine exitK_hit ?_ | refine exitK_miss rfl ?_ | refine exitK_inLoop ?_ | refine exitK_inScope ?_ | refine wk_cond ?_ | refine wk_ret ?_ | refine wk_nil ?_ | refine wo_dst rfl (opR_call ?_) | refine wo_nodst (opR_call ?_) | refine wo_dst rfl (opR_pick ?_) | refine wo_guard rfl rfl ?_ | refine wo_guardn rfl ?_ | refine wo_dst rfl (opR_pure ?_) | refine wo_nodst (opR_pure ?_)
    | refine wd_dst rfl (opR_call ?_) | refine wd_nodst (opR_call ?_) | refine wd_dst rfl (opR_pick ?_) | refine wd_guard rfl rfl ?_ | refine wd_guardn rfl ?_ | refine wd_dst rfl (opR_pure ?_) | refine wd_nodst (opR_pure ?_) | refine opR_call ?_ | refine opR_pick ?_ | refine opR_pure ?_ | (refine wd_nil ?_; refine doneD rfl rfl ?_ ?_) | refine again_nil | refine again_cons ?_ ?_ | refine again_plain rfl rfl rfl ?_ | refine again_guard rfl rfl rfl rfl ?_ | exact same_undef | exact same_of rfl rfl | refine give_ret ?_ | refine give_end ?_)
  refine wk_loop (fun n E h' => ∃ a b : Nat, E.look 0 top = .int .u64 a ∧ E.look 1 top = .int .u64 b ∧ a < 18446744073709551616 ∧ b < 18446744073709551616 ∧ Nat.gcd a b = Nat.gcd a0 b0 ∧ n = b ∧ h' = h) b0 ⟨a0, b0, by simp (disch := first | assumption | omega) only [push_cast, ↓reduceIte, reduceIte, Nat.reduceEqDiff, Nat.reduceAdd, Nat.reduceSub, Nat.reduceMul, Nat.reduceBEq, Int.reduceNeg], by simp (disch := first | assumption | omega) only [push_cast, ↓reduceIte, reduceIte, Nat.reduceEqDiff, Nat.reduceAdd, Nat.reduceSub, Nat.reduceMul, Nat.reduceBEq, Int.reduceNeg], ha, hb, rfl, rfl, rfl⟩ ?_
  rintro n E h' ⟨a, b, e0, e1, l0, l1, hg, rfl, rfl⟩ next
  repeat' (first
    | ((with_reducible first | refine optP_id ?_ | refine condP_id ?_ | refine condO_id ?_ | refine resP_id ?_ | refine callT_of ?_); conv => { arg 1; simp (disch := first | assumption | omega) only [push_cast, ↓reduceIte, reduceIte, Nat.reduceEqDiff, Nat.reduceAdd, Nat.reduceSub, Nat.reduceMul, Nat.reduceBEq, Int.reduceNeg, e0, e1] }; first | ((with_reducible refine optP_id ?_); refine optP_some ?_) | ((with_reducible refine condP_id ?_); first | refine condP_yes (by first | assumption | exact fun hn => hn (by assumption) | omega | decide) ?_ | refine condP_non (by assumption) ?_ | refine condP_no (by first | assumption | omega | decide) ?_ | refine condP_decn (fun hc => ?_) (fun hc => ?_) | refine condP_dec (fun hc => ?_) (fun hc => ?_) | refine condP_true (by first | with_reducible rfl | assumption | rfl) ?_ | refine condP_false (by first | with_reducible rfl | assumption | rfl) ?_ | refine condP_bool (fun hc => ?_) (fun hc => ?_)) | ((with_reducible refine condO_id ?_); refine condO_some ?_) | ((with_reducible refine resP_id ?_); first | refine resP_one ?_ | refine resP_two ?_ | refine resP_three ?_ | refine resP_four ?_ | refine resP_zero ?_) | ((with_reducible refine callT_to ?_); first | refine callP_plain ?_ | refine callP_yield ?_ | (refine callP_func ?_; conv => { arg 3; simp only [push_cast] })))
    | refine wk_seq ?_ | refine wk_region ?_ | refine wk_block ?_ | refine wk_inBlock ?_ | refine wk_scope ?_ | refine wk_inScope ?_ | refine wk_skip ?_ | refine wk_label ?_ | refine wk_draw (by kernel_rfl) (by decide +kernel) ?_ | refine wo_nil ?_ | refine wk_exit ?_ | refine exitK_code ?_ | refine exitK_hit ?_ | refine exitK_miss rfl ?_ | refine exitK_inLoop ?_ | refine exitK_inScope ?_ | refine wk_cond ?_ | refine wk_ret ?_ | refine wk_nil ?_ | refine wo_dst rfl (opR_call ?_) | refine wo_nodst (opR_call ?_) | refine wo_dst rfl (opR_pick ?_) | refine wo_guard rfl rfl ?_ | refine wo_guardn rfl ?_ | refine wo_dst rfl (opR_pure ?_) | refine wo_nodst (opR_pure ?_)
    | refine wd_dst rfl (opR_call ?_) | refine wd_nodst (opR_call ?_) | refine wd_dst rfl (opR_pick ?_) | refine wd_guard rfl rfl ?_ | refine wd_guardn rfl ?_ | refine wd_dst rfl (opR_pure ?_) | refine wd_nodst (opR_pure ?_) | refine opR_call ?_ | refine opR_pick ?_ | refine opR_pure ?_ | (refine wd_nil ?_; refine doneD rfl rfl ?_ ?_) | refine again_nil | refine again_cons ?_ ?_ | refine again_plain rfl rfl rfl ?_ | refine again_guard rfl rfl rfl rfl ?_ | exact same_undef | exact same_of rfl rfl | refine give_ret ?_ | refine give_end ?_)
  · exact next _ _ _ (Nat.mod_lt a (by omega)) ⟨n, a % n, by simp (disch := first | assumption | omega) only [push_cast, ↓reduceIte, reduceIte, Nat.reduceEqDiff, Nat.reduceAdd, Nat.reduceSub, Nat.reduceMul, Nat.reduceBEq, Int.reduceNeg], by simp (disch := first | assumption | omega) only [push_cast, ↓reduceIte, reduceIte, Nat.reduceEqDiff, Nat.reduceAdd, Nat.reduceSub, Nat.reduceMul, Nat.reduceBEq, Int.reduceNeg, Int.natCast_emod], l1, by have := Nat.mod_lt a (show 0 < n by omega); omega, by rw [gcd_step', hg], rfl, rfl⟩
  · have hn : n = 0 := by omega
    subst hn
    exact ⟨by rw [← hg, Nat.gcd_zero_right], rfl⟩


set_option maxRecDepth 100000 in
set_option maxHeartbeats 4000000 in
theorem mag_w (n : Int) (h1 : -9223372036854775808 ≤ n) (h2 : n ≤ 9223372036854775807) (h : AHeap) : Wc pr (.func 112) [.int .i64 n] h fun v h' => v = .int .u64 (n.natAbs : Nat) ∧ h' = h := by
  refine wc_func Tryd.func112 rfl rfl rfl rfl ?_
  repeat' (first
    | ((with_reducible first | refine optP_id ?_ | refine condP_id ?_ | refine condO_id ?_ | refine resP_id ?_ | refine callT_of ?_); conv => { arg 1; simp (disch := first | assumption | omega) only [push_cast, ↓reduceIte, reduceIte, Nat.reduceEqDiff, Nat.reduceAdd, Nat.reduceSub, Nat.reduceMul, Nat.reduceBEq, Int.reduceNeg] }; first | ((with_reducible refine optP_id ?_); refine optP_some ?_) | ((with_reducible refine condP_id ?_); first | refine condP_yes (by first | assumption | exact fun hn => hn (by assumption) | omega | decide) ?_ | refine condP_non (by assumption) ?_ | refine condP_no (by first | assumption | omega | decide) ?_ | refine condP_decn (fun hc => ?_) (fun hc => ?_) | refine condP_dec (fun hc => ?_) (fun hc => ?_) | refine condP_true (by first | with_reducible rfl | assumption | rfl) ?_ | refine condP_false (by first | with_reducible rfl | assumption | rfl) ?_ | refine condP_bool (fun hc => ?_) (fun hc => ?_)) | ((with_reducible refine condO_id ?_); refine condO_some ?_) | ((with_reducible refine resP_id ?_); first | refine resP_one ?_ | refine resP_two ?_ | refine resP_three ?_ | refine resP_four ?_ | refine resP_zero ?_) | ((with_reducible refine callT_to ?_); first | refine callP_plain ?_ | refine callP_yield ?_ | (refine callP_func ?_; conv => { arg 3; simp only [push_cast] })))
    | refine wk_seq ?_ | refine wk_region ?_ | refine wk_block ?_ | refine wk_inBlock ?_ | refine wk_scope ?_ | refine wk_inScope ?_ | refine wk_skip ?_ | refine wk_label ?_ | refine wk_draw (by kernel_rfl) (by decide +kernel) ?_ | refine wo_nil ?_ | refine wk_exit ?_ | refine exitK_code ?_ | refine exitK_hit ?_ | refine exitK_miss rfl ?_ | refine exitK_inLoop ?_ | refine exitK_inScope ?_ | refine wk_cond ?_ | refine wk_ret ?_ | refine wk_nil ?_ | refine wo_dst rfl (opR_call ?_) | refine wo_nodst (opR_call ?_) | refine wo_dst rfl (opR_pick ?_) | refine wo_guard rfl rfl ?_ | refine wo_guardn rfl ?_ | refine wo_dst rfl (opR_pure ?_) | refine wo_nodst (opR_pure ?_)
    | refine wd_dst rfl (opR_call ?_) | refine wd_nodst (opR_call ?_) | refine wd_dst rfl (opR_pick ?_) | refine wd_guard rfl rfl ?_ | refine wd_guardn rfl ?_ | refine wd_dst rfl (opR_pure ?_) | refine wd_nodst (opR_pure ?_) | refine opR_call ?_ | refine opR_pick ?_ | refine opR_pure ?_ | (refine wd_nil ?_; refine doneD rfl rfl ?_ ?_) | refine again_nil | refine again_cons ?_ ?_ | refine again_plain rfl rfl rfl ?_ | refine again_guard rfl rfl rfl rfl ?_ | exact same_undef | exact same_of rfl rfl | refine give_ret ?_ | refine give_end ?_)
  · refine ⟨int_ext ?_, rfl⟩
    rw [wrap_u64', wrap_u64']; omega
  · exact ⟨int_ext (by omega), rfl⟩

theorem u64_div (a b : Nat) (h : a < 18446744073709551616) : IntKind.u64.wrap ((a : Int) / (b : Int)) = (a : Int) / (b : Int) := by
  have h1 : (a : Int) / (b : Int) = ((a / b : Nat) : Int) := by simp
  have h2 : a / b ≤ a := Nat.div_le_self _ _
  rw [h1]
  clear h1
  generalize a / b = q at *
  exact u64_in _ (by omega) (by omega)
def mkR (neg : Bool) (n d : Nat) : Int × Int × Int :=
  if 1099511627776 < n / n.gcd d then (0, 0, 6) else if 1048576 < d / n.gcd d then (0, 0, 6) else if neg then (-((n / n.gcd d : Nat) : Int), ((d / n.gcd d : Nat) : Int), 0) else (((n / n.gcd d : Nat) : Int), ((d / n.gcd d : Nat) : Int), 0)
def ratF (n d : Int) : Int × Int × Int := if d = 0 then (0, 0, 9) else mkR (decide (n < 0) != decide (d < 0)) n.natAbs d.natAbs
/-- a ratio's parts and an error, as a call hands them back -/
def ratV (x : Int × Int × Int) : Value := .tuple #[.agg #[.int .i64 x.1, .int .i64 x.2.1], .int .i64 x.2.2]
theorem ratV_0 (x : Int × Int × Int) : extractV (ratV x) 0 = some (.agg #[.int .i64 x.1, .int .i64 x.2.1]) := rfl
theorem ratV_1 (x : Int × Int × Int) : extractV (ratV x) 1 = some (.int .i64 x.2.2) := rfl
attribute [push_cast] ratV_0 ratV_1
theorem gcd_pos' {n d : Nat} (hd : d ≠ 0) : 0 < n.gcd d := Nat.gcd_pos_of_pos_right n (Nat.pos_of_ne_zero hd)

theorem lt_of {k a b : Nat} (h : ((k : Nat) : Int) < (a : Int) / (b : Int)) : k < a / b := by
  have : (a : Int) / (b : Int) = ((a / b : Nat) : Int) := by simp
  omega
theorem nlt_of {k a b : Nat} (h : ¬ ((k : Nat) : Int) < (a : Int) / (b : Int)) : ¬ k < a / b := by
  have : (a : Int) / (b : Int) = ((a / b : Nat) : Int) := by simp
  omega
theorem xor_true {p q : Prop} [Decidable p] [Decidable q] (h : ¬ (p ↔ q)) : (decide p != decide q) = true := by
  by_cases hp : p <;> by_cases hq : q <;> simp_all
theorem xor_false {p q : Prop} [Decidable p] [Decidable q] (h : p ↔ q) : (decide p != decide q) = false := by
  by_cases hp : p <;> by_cases hq : q <;> simp_all
set_option maxRecDepth 100000 in
set_option maxHeartbeats 4000000 in
theorem mratio_w (n d : Int) (h1 : -9223372036854775808 ≤ n) (h2 : n ≤ 9223372036854775807) (h3 : -9223372036854775808 ≤ d) (h4 : d ≤ 9223372036854775807) (h : AHeap) : Wc pr (.func 85) [.int .i64 n, .int .i64 d] h fun v h' => v = ratV (ratF n d) ∧ Gr h h' := by
  have q1 : 0 ≤ (n.natAbs : Int) / ((n.natAbs.gcd d.natAbs : Nat) : Int) := Int.ediv_nonneg (by omega) (by omega)
  have q2 : 0 ≤ (d.natAbs : Int) / ((n.natAbs.gcd d.natAbs : Nat) : Int) := Int.ediv_nonneg (by omega) (by omega)
  have hg : d ≠ 0 → 0 < n.natAbs.gcd d.natAbs := fun hd => gcd_pos' (by omega)
  refine wc_func Tryd.func85 rfl rfl rfl rfl ?_
  repeat' (first
    | ((with_reducible first | refine optP_id ?_ | refine condP_id ?_ | refine condO_id ?_ | refine resP_id ?_ | refine callT_of ?_); conv => { arg 1; simp (disch := first | assumption | omega) only [push_cast, ↓reduceIte, reduceIte, Nat.reduceEqDiff, Nat.reduceAdd, Nat.reduceSub, Nat.reduceMul, Nat.reduceBEq, Int.reduceNeg, u64_div] }; first | ((with_reducible refine optP_id ?_); refine optP_some ?_) | ((with_reducible refine condP_id ?_); first | refine condP_yes (by first | assumption | exact fun hn => hn (by assumption) | omega | decide) ?_ | refine condP_non (by assumption) ?_ | refine condP_no (by first | assumption | omega | decide) ?_ | refine condP_decn (fun hc => ?_) (fun hc => ?_) | refine condP_dec (fun hc => ?_) (fun hc => ?_) | refine condP_true (by first | with_reducible rfl | assumption | rfl) ?_ | refine condP_false (by first | with_reducible rfl | assumption | rfl) ?_ | refine condP_bool (fun hc => ?_) (fun hc => ?_)) | ((with_reducible refine condO_id ?_); refine condO_some ?_) | ((with_reducible refine resP_id ?_); first | refine resP_one ?_ | refine resP_two ?_ | refine resP_three ?_ | refine resP_four ?_ | refine resP_zero ?_) | ((with_reducible refine callT_to ?_); first | refine callP_plain ?_ | refine callP_yield ?_ | (refine callP_func ?_; conv => { arg 3; simp only [push_cast] })))
    | refine wk_seq ?_ | refine wk_region ?_ | refine wk_block ?_ | refine wk_inBlock ?_ | refine wk_scope ?_ | refine wk_inScope ?_ | refine wk_skip ?_ | refine wk_label ?_ | refine wk_draw (by kernel_rfl) (by decide +kernel) ?_ | refine wo_nil ?_ | refine wk_exit ?_ | refine exitK_code ?_ | refine exitK_hit ?_ | refine exitK_miss rfl ?_ | refine exitK_inLoop ?_ | refine exitK_inScope ?_ | refine wk_cond ?_ | refine wk_ret ?_ | refine wk_nil ?_ | refine wo_dst rfl (opR_call ?_) | refine wo_nodst (opR_call ?_) | refine wo_dst rfl (opR_pick ?_) | refine wo_guard rfl rfl ?_ | refine wo_guardn rfl ?_ | refine wo_dst rfl (opR_pure ?_) | refine wo_nodst (opR_pure ?_)
    | (refine (mag_w _ (by omega) (by omega) _).mono ?_; rintro _ _ ⟨rfl, rfl⟩)
    | (refine (mgcd_w _ _ (by omega) (by omega) _).mono ?_; rintro _ _ ⟨rfl, rfl⟩)
    | refine wd_dst rfl (opR_call ?_) | refine wd_nodst (opR_call ?_) | refine wd_dst rfl (opR_pick ?_) | refine wd_guard rfl rfl ?_ | refine wd_guardn rfl ?_ | refine wd_dst rfl (opR_pure ?_) | refine wd_nodst (opR_pure ?_) | refine opR_call ?_ | refine opR_pick ?_ | refine opR_pure ?_ | (refine wd_nil ?_; refine doneD rfl rfl ?_ ?_) | refine again_nil | refine again_cons ?_ ?_ | refine again_plain rfl rfl rfl ?_ | refine again_guard rfl rfl rfl rfl ?_ | exact same_undef | exact same_of rfl rfl | refine give_ret ?_ | refine give_end ?_)
  · exact ⟨by rw [ratF, if_pos hc]; rfl, by (repeat (first | exact Gr.refl _ | assumption | (refine Gr.trans ?_ (by assumption)) | refine Gr.set ?_ (by first | exact Nat.le_refl _ | omega | (simp only [next_new, next_set]; omega)) _ | refine Gr.new ?_ _))⟩
  · rename_i h0 ha
    have hb := hc
    refine ⟨?_, by (repeat (first | exact Gr.refl _ | assumption | (refine Gr.trans ?_ (by assumption)) | refine Gr.set ?_ (by first | exact Nat.le_refl _ | omega | (simp only [next_new, next_set]; omega)) _ | refine Gr.new ?_ _))⟩
    rw [ratF, if_neg h0, mkR, if_neg (nlt_of ha), if_pos (lt_of hb)]; rfl
  · rename_i h0 ha hb
    have hs := hc
    refine ⟨?_, by (repeat (first | exact Gr.refl _ | assumption | (refine Gr.trans ?_ (by assumption)) | refine Gr.set ?_ (by first | exact Nat.le_refl _ | omega | (simp only [next_new, next_set]; omega)) _ | refine Gr.new ?_ _))⟩
    rw [ratF, if_neg h0, mkR, if_neg (nlt_of ha), if_neg (nlt_of hb), if_pos (xor_true hs)]
    simp [ratV]
  · rename_i h0 ha hb
    have hs := hc
    refine ⟨?_, by (repeat (first | exact Gr.refl _ | assumption | (refine Gr.trans ?_ (by assumption)) | refine Gr.set ?_ (by first | exact Nat.le_refl _ | omega | (simp only [next_new, next_set]; omega)) _ | refine Gr.new ?_ _))⟩
    rw [ratF, if_neg h0, mkR, if_neg (nlt_of ha), if_neg (nlt_of hb), if_neg (by rw [xor_false hs]; exact Bool.false_ne_true)]
    simp [ratV]
  · rename_i h0
    have ha := hc
    refine ⟨?_, by (repeat (first | exact Gr.refl _ | assumption | (refine Gr.trans ?_ (by assumption)) | refine Gr.set ?_ (by first | exact Nat.le_refl _ | omega | (simp only [next_new, next_set]; omega)) _ | refine Gr.new ?_ _))⟩
    rw [ratF, if_neg h0, mkR, if_pos (lt_of (by omega))]; rfl
def IsR (n d : Int) : Prop := 1 ≤ d ∧ d ≤ 1048576 ∧ n.natAbs ≤ 1099511627776 ∧ n.natAbs.gcd d.natAbs = 1
instance (n d : Int) : Decidable (IsR n d) := by unfold IsR; infer_instance
theorem bool_dec {p q : Prop} [Decidable p] [Decidable q] (h : p ↔ q) : Value.bool (decide p) = .bool (decide q) := by rw [decide_eq_decide.mpr h]
theorem bool_no {q : Prop} [Decidable q] (h : ¬ q) : Value.bool false = .bool (decide q) := by rw [decide_eq_false h]
set_option maxRecDepth 100000 in
set_option maxHeartbeats 4000000 in
theorem misr_w (n d : Int) (h1 : -9223372036854775808 ≤ n) (h2 : n ≤ 9223372036854775807) (h : AHeap) : Wc pr (.func 86) [.agg #[.int .i64 n, .int .i64 d]] h fun v h' => v = .bool (decide (IsR n d)) ∧ Gr h h' := by
  refine wc_func Tryd.func86 rfl rfl rfl rfl ?_
  repeat' (first
    | ((with_reducible first | refine optP_id ?_ | refine condP_id ?_ | refine condO_id ?_ | refine resP_id ?_ | refine callT_of ?_); conv => { arg 1; simp (disch := first | assumption | omega) only [push_cast, ↓reduceIte, reduceIte, Nat.reduceEqDiff, Nat.reduceAdd, Nat.reduceSub, Nat.reduceMul, Nat.reduceBEq, Int.reduceNeg] }; first | ((with_reducible refine optP_id ?_); refine optP_some ?_) | ((with_reducible refine condP_id ?_); first | refine condP_yes (by first | assumption | exact fun hn => hn (by assumption) | omega | decide) ?_ | refine condP_non (by assumption) ?_ | refine condP_no (by first | assumption | omega | decide) ?_ | refine condP_decn (fun hc => ?_) (fun hc => ?_) | refine condP_dec (fun hc => ?_) (fun hc => ?_) | refine condP_true (by first | with_reducible rfl | assumption | rfl) ?_ | refine condP_false (by first | with_reducible rfl | assumption | rfl) ?_ | refine condP_bool (fun hc => ?_) (fun hc => ?_)) | ((with_reducible refine condO_id ?_); refine condO_some ?_) | ((with_reducible refine resP_id ?_); first | refine resP_one ?_ | refine resP_two ?_ | refine resP_three ?_ | refine resP_four ?_ | refine resP_zero ?_) | ((with_reducible refine callT_to ?_); first | refine callP_plain ?_ | refine callP_yield ?_ | (refine callP_func ?_; conv => { arg 3; simp only [push_cast] })))
    | refine wk_seq ?_ | refine wk_region ?_ | refine wk_draw (by kernel_rfl) (by decide +kernel) ?_ | refine wk_drawn [(19, 17)] (by kernel_rfl) (by decide +kernel) ?_ | refine wo_nil ?_ | refine wk_ret ?_ | refine wk_nil ?_ | refine wo_dst rfl (opR_call ?_) | refine wo_nodst (opR_call ?_) | refine wo_dst rfl (opR_pick ?_) | refine wo_guard rfl rfl ?_ | refine wo_guardn rfl ?_ | refine wo_dst rfl (opR_pure ?_) | refine wo_nodst (opR_pure ?_)
    | (refine (mag_w _ (by omega) (by omega) _).mono ?_; rintro _ _ ⟨rfl, rfl⟩)
    | (refine (mgcd_w _ _ (by omega) (by omega) _).mono ?_; rintro _ _ ⟨rfl, rfl⟩)
    | refine wd_dst rfl (opR_call ?_) | refine wd_nodst (opR_call ?_) | refine wd_dst rfl (opR_pick ?_) | refine wd_guard rfl rfl ?_ | refine wd_guardn rfl ?_ | refine wd_dst rfl (opR_pure ?_) | refine wd_nodst (opR_pure ?_) | refine opR_call ?_ | refine opR_pick ?_ | refine opR_pure ?_ | (refine wd_nil ?_; refine doneD rfl rfl ?_ ?_) | refine again_nil | refine again_cons ?_ ?_ | refine again_plain rfl rfl rfl ?_ | refine again_guard rfl rfl rfl rfl ?_ | exact same_undef | exact same_of rfl rfl | refine give_ret ?_ | refine give_end ?_)
  · exact ⟨bool_dec ⟨fun h => ⟨by assumption, by assumption, by omega, by omega⟩, fun h => by have := h.2.2.2; omega⟩, by (repeat (first | exact Gr.refl _ | assumption | (refine Gr.trans ?_ (by assumption)) | refine Gr.set ?_ (by first | exact Nat.le_refl _ | omega | (simp only [next_new, next_set]; omega)) _ | refine Gr.new ?_ _))⟩
  · exact ⟨bool_no fun h => by have := h.2.2.1; omega, by (repeat (first | exact Gr.refl _ | assumption | (refine Gr.trans ?_ (by assumption)) | refine Gr.set ?_ (by first | exact Nat.le_refl _ | omega | (simp only [next_new, next_set]; omega)) _ | refine Gr.new ?_ _))⟩
  · exact ⟨bool_no fun h => by have := h.2.1; omega, by (repeat (first | exact Gr.refl _ | assumption | (refine Gr.trans ?_ (by assumption)) | refine Gr.set ?_ (by first | exact Nat.le_refl _ | omega | (simp only [next_new, next_set]; omega)) _ | refine Gr.new ?_ _))⟩
  · exact ⟨bool_no fun h => by have := h.1; omega, by (repeat (first | exact Gr.refl _ | assumption | (refine Gr.trans ?_ (by assumption)) | refine Gr.set ?_ (by first | exact Nat.le_refl _ | omega | (simp only [next_new, next_set]; omega)) _ | refine Gr.new ?_ _))⟩

theorem cross_div {N D n d : Nat} (hD : D ≠ 0) (hd : d ≠ 0) (hc : Nat.gcd n d = 1) (e : N * d = n * D) : N / N.gcd D = n ∧ D / N.gcd D = d := by
  have hdv : d ∣ D := (Nat.Coprime.symm hc).dvd_of_dvd_mul_left (by rw [← e]; exact Nat.dvd_mul_left _ _)
  obtain ⟨k, hk⟩ := hdv
  have hN : N = n * k := by
    have : N * d = (n * k) * d := by rw [e, hk, Nat.mul_assoc, Nat.mul_comm k]
    exact Nat.eq_of_mul_eq_mul_right (by omega) this
  have hk0 : 0 < k := by
    rcases Nat.eq_zero_or_pos k with h | h
    · rw [h, Nat.mul_zero] at hk; omega
    · exact h
  have hg : N.gcd D = k := by
    rw [hN, hk, Nat.mul_comm d k, Nat.mul_comm n k, Nat.gcd_mul_left, hc, Nat.mul_one]
  rw [hg, hN, hk]
  exact ⟨Nat.mul_div_cancel _ hk0, Nat.mul_div_cancel _ hk0⟩
end Go.Proofs.YtcfohcpcepeolaaDoor
/- Contracts: metro: calculate, Add, Cmp. -/
namespace Go.Proofs.YtcfohcpcepeolaaDoor
open Go.Ev
theorem mulb {a d : Int} {m k : Nat} (h1 : a.natAbs ≤ m) (h2 : d.natAbs ≤ k) : -((m * k : Nat) : Int) ≤ a * d ∧ a * d ≤ ((m * k : Nat) : Int) := by
  have h : (a * d).natAbs ≤ m * k := by rw [Int.natAbs_mul]; exact Nat.mul_le_mul h1 h2
  omega
theorem callP_mono {p : Pr} {f : Value} {args : List Value} {h : AHeap} {Q Q' : Value → AHeap → Prop} (c : CallP p f args h Q) (hq : ∀ v h', Q v h' → Q' v h') : CallP p f args h Q' := by
  unfold CallP at *
  split at c
  · split at c
    · exact Wc.mono c hq
    · exact Wc.mono c hq
    · exact c
  · exact c
def calcF (a b c d : Int) (X : Int × Int × Int) : Int × Int × Int := if IsR a b ∧ IsR c d then X else (0, 0, 2)

set_option maxRecDepth 100000 in
set_option maxHeartbeats 4000000 in
theorem mcalc_w (a b c d : Int) (h1 : -9223372036854775808 ≤ a) (h2 : a ≤ 9223372036854775807) (h3 : -9223372036854775808 ≤ c) (h4 : c ≤ 9223372036854775807) (f : Value) (X : Int × Int × Int) (h : AHeap)
    (hf : IsR a b → IsR c d → ∀ h', Gr h h' → CallP pr f [] h' fun v h'' => v = ratV X ∧ Gr h' h'') :
    Wc pr (.func 90) [.agg #[.int .i64 a, .int .i64 b], .agg #[.int .i64 c, .int .i64 d], f] h fun v h' => v = ratV (calcF a b c d X) ∧ Gr h h' := by
  refine wc_func Tryd.func90 rfl rfl rfl rfl ?_
  repeat' (first
    | ((with_reducible first | refine optP_id ?_ | refine condP_id ?_ | refine condO_id ?_ | refine resP_id ?_ | refine callT_of ?_); conv => { arg 1; simp (disch := first | assumption | omega) only [push_cast, ↓reduceIte, reduceIte, Nat.reduceEqDiff, Nat.reduceAdd, Nat.reduceSub, Nat.reduceMul, Nat.reduceBEq, Int.reduceNeg] }; first | ((with_reducible refine optP_id ?_); refine optP_some ?_) | ((with_reducible refine condP_id ?_); first | refine condP_yes (by first | assumption | exact fun hn => hn (by assumption) | omega | decide) ?_ | refine condP_non (by assumption) ?_ | refine condP_no (by first | assumption | omega | decide) ?_ | refine condP_decn (fun hc => ?_) (fun hc => ?_) | refine condP_dec (fun hc => ?_) (fun hc => ?_) | refine condP_true (by first | with_reducible rfl | assumption | rfl) ?_ | refine condP_false (by first | with_reducible rfl | assumption | rfl) ?_ | refine condP_bool (fun hc => ?_) (fun hc => ?_)) | ((with_reducible refine condO_id ?_); refine condO_some ?_) | ((with_reducible refine resP_id ?_); first | refine resP_one ?_ | refine resP_two ?_ | refine resP_three ?_ | refine resP_four ?_ | refine resP_zero ?_) | ((with_reducible refine callT_to ?_); first | refine callP_plain ?_ | refine callP_yield ?_ | (refine callP_func ?_; conv => { arg 3; simp only [push_cast] })))
    | refine wk_seq ?_ | refine wk_region ?_ | refine wk_skip ?_ | refine wo_nil ?_ | refine wk_cond ?_ | refine wk_ret ?_ | refine wk_nil ?_ | refine wo_dst rfl (opR_call ?_) | refine wo_nodst (opR_call ?_) | refine wo_dst rfl (opR_pick ?_) | refine wo_guard rfl rfl ?_ | refine wo_guardn rfl ?_ | refine wo_dst rfl (opR_pure ?_) | refine wo_nodst (opR_pure ?_)
    | refine give_ret ?_ | refine give_end ?_)
  refine (misr_w a b (by omega) (by omega) _).mono ?_
  rintro _ h1 ⟨rfl, g1⟩; have n1 := g1.1; have k1 := g1.2; try simp only [next_new, next_set] at n1 k1
  repeat' (first
    | ((with_reducible first | refine optP_id ?_ | refine condP_id ?_ | refine condO_id ?_ | refine resP_id ?_ | refine callT_of ?_); conv => { arg 1; simp (disch := first | assumption | omega) only [push_cast, ↓reduceIte, reduceIte, Nat.reduceEqDiff, Nat.reduceAdd, Nat.reduceSub, Nat.reduceMul, Nat.reduceBEq, Int.reduceNeg, k1] }; first | ((with_reducible refine optP_id ?_); refine optP_some ?_) | ((with_reducible refine condP_id ?_); first | refine condP_yes (by first | assumption | exact fun hn => hn (by assumption) | omega | decide) ?_ | refine condP_non (by assumption) ?_ | refine condP_no (by first | assumption | omega | decide) ?_ | refine condP_decn (fun hc => ?_) (fun hc => ?_) | refine condP_dec (fun hc => ?_) (fun hc => ?_) | refine condP_true (by first | with_reducible rfl | assumption | rfl) ?_ | refine condP_false (by first | with_reducible rfl | assumption | rfl) ?_ | refine condP_bool (fun hc => ?_) (fun hc => ?_)) | ((with_reducible refine condO_id ?_); refine condO_some ?_) | ((with_reducible refine resP_id ?_); first | refine resP_one ?_ | refine resP_two ?_ | refine resP_three ?_ | refine resP_four ?_ | refine resP_zero ?_) | ((with_reducible refine callT_to ?_); first | refine callP_plain ?_ | refine callP_yield ?_ | (refine callP_func ?_; conv => { arg 3; simp only [push_cast] })))
    | refine wk_seq ?_ | refine wk_region ?_ | refine wk_skip ?_ | refine wo_nil ?_ | refine wk_cond ?_ | refine wk_ret ?_ | refine wk_nil ?_ | refine wo_dst rfl (opR_call ?_) | refine wo_nodst (opR_call ?_) | refine wo_dst rfl (opR_pick ?_) | refine wo_guard rfl rfl ?_ | refine wo_guardn rfl ?_ | refine wo_dst rfl (opR_pure ?_) | refine wo_nodst (opR_pure ?_)
    | refine give_ret ?_ | refine give_end ?_)
  · have hab := Classical.not_not.1 hc
    clear hc
    refine (misr_w c d (by omega) (by omega) _).mono ?_
    rintro _ h2 ⟨rfl, g2⟩; have n2 := g2.1; have k2 := g2.2; try simp only [next_new, next_set] at n2 k2
    repeat' (first
    | ((with_reducible first | refine optP_id ?_ | refine condP_id ?_ | refine condO_id ?_ | refine resP_id ?_ | refine callT_of ?_); conv => { arg 1; simp (disch := first | assumption | omega) only [push_cast, ↓reduceIte, reduceIte, Nat.reduceEqDiff, Nat.reduceAdd, Nat.reduceSub, Nat.reduceMul, Nat.reduceBEq, Int.reduceNeg, k1, k2] }; first | ((with_reducible refine optP_id ?_); refine optP_some ?_) | ((with_reducible refine condP_id ?_); first | refine condP_yes (by first | assumption | exact fun hn => hn (by assumption) | omega | decide) ?_ | refine condP_non (by assumption) ?_ | refine condP_no (by first | assumption | omega | decide) ?_ | refine condP_decn (fun hc => ?_) (fun hc => ?_) | refine condP_dec (fun hc => ?_) (fun hc => ?_) | refine condP_true (by first | with_reducible rfl | assumption | rfl) ?_ | refine condP_false (by first | with_reducible rfl | assumption | rfl) ?_ | refine condP_bool (fun hc => ?_) (fun hc => ?_)) | ((with_reducible refine condO_id ?_); refine condO_some ?_) | ((with_reducible refine resP_id ?_); first | refine resP_one ?_ | refine resP_two ?_ | refine resP_three ?_ | refine resP_four ?_ | refine resP_zero ?_) | ((with_reducible refine callT_to ?_); first | refine callP_plain ?_ | refine callP_yield ?_ | (refine callP_func ?_; conv => { arg 3; simp only [push_cast] })))
    | refine wk_seq ?_ | refine wk_region ?_ | refine wk_skip ?_ | refine wo_nil ?_ | refine wk_cond ?_ | refine wk_ret ?_ | refine wk_nil ?_ | refine wo_dst rfl (opR_call ?_) | refine wo_nodst (opR_call ?_) | refine wo_dst rfl (opR_pick ?_) | refine wo_guard rfl rfl ?_ | refine wo_guardn rfl ?_ | refine wo_dst rfl (opR_pure ?_) | refine wo_nodst (opR_pure ?_)
    | refine give_ret ?_ | refine give_end ?_)
    · exact ⟨by rw [calcF, if_neg (fun h => hc h.2)]; rfl, by (repeat (first | exact Gr.refl _ | assumption | (refine Gr.trans ?_ (by assumption)) | refine Gr.set ?_ (by first | exact Nat.le_refl _ | omega | (simp only [next_new, next_set]; omega)) _ | refine Gr.new ?_ _))⟩
    · conv => { arg 2; simp (disch := first | assumption | omega) only [push_cast, ↓reduceIte, reduceIte, Nat.reduceEqDiff, Nat.reduceAdd, Nat.reduceSub, Nat.reduceMul, Nat.reduceBEq, Int.reduceNeg] }
      conv => { arg 3; simp (disch := first | assumption | omega) only [push_cast, ↓reduceIte, reduceIte, Nat.reduceEqDiff, Nat.reduceAdd, Nat.reduceSub, Nat.reduceMul, Nat.reduceBEq, Int.reduceNeg] }
      refine callP_mono (hf hab hc _ (by (repeat (first | exact Gr.refl _ | assumption | (refine Gr.trans ?_ (by assumption)) | refine Gr.set ?_ (by first | exact Nat.le_refl _ | omega | (simp only [next_new, next_set]; omega)) _ | refine Gr.new ?_ _)))) ?_
      rintro _ h3 ⟨rfl, g3⟩; have n3 := g3.1; have k3 := g3.2; try simp only [next_new, next_set] at n3 k3
      repeat' (first
    | ((with_reducible first | refine optP_id ?_ | refine condP_id ?_ | refine condO_id ?_ | refine resP_id ?_ | refine callT_of ?_); conv => { arg 1; simp (disch := first | assumption | omega) only [push_cast, ↓reduceIte, reduceIte, Nat.reduceEqDiff, Nat.reduceAdd, Nat.reduceSub, Nat.reduceMul, Nat.reduceBEq, Int.reduceNeg, k1, k2, k3] }; first | ((with_reducible refine optP_id ?_); refine optP_some ?_) | ((with_reducible refine condP_id ?_); first | refine condP_yes (by first | assumption | exact fun hn => hn (by assumption) | omega | decide) ?_ | refine condP_non (by assumption) ?_ | refine condP_no (by first | assumption | omega | decide) ?_ | refine condP_decn (fun hc => ?_) (fun hc => ?_) | refine condP_dec (fun hc => ?_) (fun hc => ?_) | refine condP_true (by first | with_reducible rfl | assumption | rfl) ?_ | refine condP_false (by first | with_reducible rfl | assumption | rfl) ?_ | refine condP_bool (fun hc => ?_) (fun hc => ?_)) | ((with_reducible refine condO_id ?_); refine condO_some ?_) | ((with_reducible refine resP_id ?_); first | refine resP_one ?_ | refine resP_two ?_ | refine resP_three ?_ | refine resP_four ?_ | refine resP_zero ?_) | ((with_reducible refine callT_to ?_); first | refine callP_plain ?_ | refine callP_yield ?_ | (refine callP_func ?_; conv => { arg 3; simp only [push_cast] })))
    | refine wk_seq ?_ | refine wk_region ?_ | refine wk_skip ?_ | refine wo_nil ?_ | refine wk_cond ?_ | refine wk_ret ?_ | refine wk_nil ?_ | refine wo_dst rfl (opR_call ?_) | refine wo_nodst (opR_call ?_) | refine wo_dst rfl (opR_pick ?_) | refine wo_guard rfl rfl ?_ | refine wo_guardn rfl ?_ | refine wo_dst rfl (opR_pure ?_) | refine wo_nodst (opR_pure ?_)
    | refine give_ret ?_ | refine give_end ?_)
      exact ⟨by rw [calcF, if_pos ⟨hab, hc⟩]; rfl, by (repeat (first | exact Gr.refl _ | assumption | (refine Gr.trans ?_ (by assumption)) | refine Gr.set ?_ (by first | exact Nat.le_refl _ | omega | (simp only [next_new, next_set]; omega)) _ | refine Gr.new ?_ _))⟩
  · exact ⟨by rw [calcF, if_neg (fun h => hc h.1)]; rfl, by (repeat (first | exact Gr.refl _ | assumption | (refine Gr.trans ?_ (by assumption)) | refine Gr.set ?_ (by first | exact Nat.le_refl _ | omega | (simp only [next_new, next_set]; omega)) _ | refine Gr.new ?_ _))⟩

theorem isr_bd {a b : Int} (h : IsR a b) : a.natAbs ≤ 1099511627776 ∧ b.natAbs ≤ 1048576 ∧ 1 ≤ b := ⟨h.2.2.1, by have := h.1; have := h.2.1; omega, h.1⟩

set_option maxRecDepth 100000 in
set_option maxHeartbeats 4000000 in
theorem madd1_w (a b c d : Int) (hab : IsR a b) (hcd : IsR c d) (p q : Nat) (h : AHeap) (hp : p < h.next) (hq : q < h.next) (ep : h.get p = some (.cells [.int .i64 a, .int .i64 b] 68 true)) (eq : h.get q = some (.cells [.int .i64 c, .int .i64 d] 68 true)) :
    Wc pr (.func 91) [.pointer (some ⟨p, 0, none⟩), .pointer (some ⟨q, 0, none⟩)] h fun v h' => v = ratV (ratF (a * d + c * b) (b * d)) ∧ Gr h h' := by
  obtain ⟨a1, b1, b2⟩ := isr_bd hab
  obtain ⟨c1, d1, d2⟩ := isr_bd hcd
  have m1 := mulb a1 d1
  have m2 := mulb c1 b1
  have m3 := mulb b1 d1
  refine wc_func Tryd.func91 rfl rfl rfl rfl ?_
  repeat' (first
    | ((with_reducible first | refine optP_id ?_ | refine resP_id ?_ | refine callT_of ?_); conv => { arg 1; simp (disch := first | assumption | omega) only [push_cast, ↓reduceIte, reduceIte, Nat.reduceEqDiff, Nat.reduceAdd, Nat.reduceSub, Nat.reduceMul, Nat.reduceBEq, Int.reduceNeg, ep, eq] }; first | ((with_reducible refine optP_id ?_); refine optP_some ?_) | ((with_reducible refine resP_id ?_); first | refine resP_one ?_ | refine resP_two ?_ | refine resP_three ?_ | refine resP_four ?_ | refine resP_zero ?_) | ((with_reducible refine callT_to ?_); first | refine callP_plain ?_ | refine callP_yield ?_ | (refine callP_func ?_; conv => { arg 3; simp only [push_cast] })))
    | refine wk_seq ?_ | refine wk_region ?_ | refine wo_nil ?_ | refine wk_ret ?_ | refine wk_nil ?_ | refine wo_dst rfl (opR_call ?_) | refine wo_nodst (opR_call ?_) | refine wo_dst rfl (opR_pure ?_) | refine wo_nodst (opR_pure ?_)
    | refine give_ret ?_ | refine give_end ?_)
  refine (mratio_w _ _ (by omega) (by omega) (by omega) (by omega) _).mono ?_
  rintro _ h1 ⟨rfl, g1⟩; have n1 := g1.1; have k1 := g1.2; try simp only [next_new, next_set] at n1 k1
  repeat' (first
    | ((with_reducible first | refine optP_id ?_ | refine resP_id ?_ | refine callT_of ?_); conv => { arg 1; simp (disch := first | assumption | omega) only [push_cast, ↓reduceIte, reduceIte, Nat.reduceEqDiff, Nat.reduceAdd, Nat.reduceSub, Nat.reduceMul, Nat.reduceBEq, Int.reduceNeg, k1, ep, eq] }; first | ((with_reducible refine optP_id ?_); refine optP_some ?_) | ((with_reducible refine resP_id ?_); first | refine resP_one ?_ | refine resP_two ?_ | refine resP_three ?_ | refine resP_four ?_ | refine resP_zero ?_) | ((with_reducible refine callT_to ?_); first | refine callP_plain ?_ | refine callP_yield ?_ | (refine callP_func ?_; conv => { arg 3; simp only [push_cast] })))
    | refine wk_seq ?_ | refine wk_region ?_ | refine wo_nil ?_ | refine wk_ret ?_ | refine wk_nil ?_ | refine wo_dst rfl (opR_call ?_) | refine wo_nodst (opR_call ?_) | refine wo_dst rfl (opR_pure ?_) | refine wo_nodst (opR_pure ?_)
    | refine give_ret ?_ | refine give_end ?_)
  exact ⟨rfl, by (repeat (first | exact Gr.refl _ | assumption | (refine Gr.trans ?_ (by assumption)) | refine Gr.set ?_ (by first | exact Nat.le_refl _ | omega | (simp only [next_new, next_set]; omega)) _ | refine Gr.new ?_ _))⟩

def addF (a b c d : Int) : Int × Int × Int := calcF a b c d (ratF (a * d + c * b) (b * d))
set_option maxRecDepth 100000 in
set_option maxHeartbeats 4000000 in
theorem madd_w (a b c d : Int) (h1 : -9223372036854775808 ≤ a) (h2 : a ≤ 9223372036854775807) (h3 : -9223372036854775808 ≤ c) (h4 : c ≤ 9223372036854775807) (h : AHeap) :
    Wc pr (.func 43) [.agg #[.int .i64 a, .int .i64 b], .agg #[.int .i64 c, .int .i64 d]] h fun v h' => v = ratV (addF a b c d) ∧ Gr h h' := by
  refine wc_func Tryd.func43 rfl rfl rfl rfl ?_
  repeat' (first
    | ((with_reducible first | refine optP_id ?_ | refine resP_id ?_ | refine callT_of ?_); conv => { arg 1; simp (disch := first | assumption | omega) only [push_cast, ↓reduceIte, reduceIte, Nat.reduceEqDiff, Nat.reduceAdd, Nat.reduceSub, Nat.reduceMul, Nat.reduceBEq, Int.reduceNeg] }; first | ((with_reducible refine optP_id ?_); refine optP_some ?_) | ((with_reducible refine resP_id ?_); first | refine resP_one ?_ | refine resP_two ?_ | refine resP_three ?_ | refine resP_four ?_ | refine resP_zero ?_) | ((with_reducible refine callT_to ?_); first | refine callP_plain ?_ | refine callP_yield ?_ | (refine callP_func ?_; conv => { arg 3; simp only [push_cast] })))
    | refine wk_seq ?_ | refine wk_region ?_ | refine wo_nil ?_ | refine wk_ret ?_ | refine wk_nil ?_ | refine wo_dst rfl (opR_call ?_) | refine wo_nodst (opR_call ?_) | refine wo_dst rfl (opR_pure ?_) | refine wo_nodst (opR_pure ?_)
    | refine give_ret ?_ | refine give_end ?_)
  refine (mcalc_w a b c d h1 h2 h3 h4 _ (ratF (a * d + c * b) (b * d)) _ ?_).mono ?_
  · intro hab hcd h' g'
    have n' := g'.1
    have k' := g'.2
    simp only [next_new, next_set] at n' k'
    refine callP_func ?_
    exact madd1_w a b c d hab hcd _ _ _ (by omega) (by omega) (by simp (disch := first | assumption | omega) only [push_cast, ↓reduceIte, reduceIte, Nat.reduceEqDiff, Nat.reduceAdd, Nat.reduceSub, Nat.reduceMul, Nat.reduceBEq, Int.reduceNeg, k']) (by simp (disch := first | assumption | omega) only [push_cast, ↓reduceIte, reduceIte, Nat.reduceEqDiff, Nat.reduceAdd, Nat.reduceSub, Nat.reduceMul, Nat.reduceBEq, Int.reduceNeg, k'])
  · rintro _ h1 ⟨rfl, g1⟩; have n1 := g1.1; have k1 := g1.2; try simp only [next_new, next_set] at n1 k1
    repeat' (first
    | ((with_reducible first | refine optP_id ?_ | refine resP_id ?_ | refine callT_of ?_); conv => { arg 1; simp (disch := first | assumption | omega) only [push_cast, ↓reduceIte, reduceIte, Nat.reduceEqDiff, Nat.reduceAdd, Nat.reduceSub, Nat.reduceMul, Nat.reduceBEq, Int.reduceNeg, k1] }; first | ((with_reducible refine optP_id ?_); refine optP_some ?_) | ((with_reducible refine resP_id ?_); first | refine resP_one ?_ | refine resP_two ?_ | refine resP_three ?_ | refine resP_four ?_ | refine resP_zero ?_) | ((with_reducible refine callT_to ?_); first | refine callP_plain ?_ | refine callP_yield ?_ | (refine callP_func ?_; conv => { arg 3; simp only [push_cast] })))
    | refine wk_seq ?_ | refine wk_region ?_ | refine wo_nil ?_ | refine wk_ret ?_ | refine wk_nil ?_ | refine wo_dst rfl (opR_call ?_) | refine wo_nodst (opR_call ?_) | refine wo_dst rfl (opR_pure ?_) | refine wo_nodst (opR_pure ?_)
    | refine give_ret ?_ | refine give_end ?_)
    exact ⟨rfl, by (repeat (first | exact Gr.refl _ | assumption | (refine Gr.trans ?_ (by assumption)) | refine Gr.set ?_ (by first | exact Nat.le_refl _ | omega | (simp only [next_new, next_set]; omega)) _ | refine Gr.new ?_ _))⟩
def cmpF (a b c d : Int) : Int × Int := if IsR a b ∧ IsR c d then (if a * d < c * b then (-1, 0) else if c * b < a * d then (1, 0) else (0, 0)) else (0, 2)
set_option maxRecDepth 100000 in
set_option maxHeartbeats 4000000 in
theorem mcmp_w (a b c d : Int) (h1 : -9223372036854775808 ≤ a) (h2 : a ≤ 9223372036854775807) (h3 : -9223372036854775808 ≤ c) (h4 : c ≤ 9223372036854775807) (h : AHeap) :
    Wc pr (.func 41) [.agg #[.int .i64 a, .int .i64 b], .agg #[.int .i64 c, .int .i64 d]] h fun v h' => v = .tuple #[.int .i64 (cmpF a b c d).1, .int .i64 (cmpF a b c d).2] ∧ Gr h h' := by
  by_cases hab : IsR a b
  · by_cases hcd : IsR c d
    · obtain ⟨a1, b1, b2⟩ := isr_bd hab
      obtain ⟨c1, d1, d2⟩ := isr_bd hcd
      have m1 := mulb a1 d1
      have m2 := mulb c1 b1
      refine wc_func Tryd.func41 rfl rfl rfl rfl ?_
      repeat' (first
    | ((with_reducible first | refine optP_id ?_ | refine condP_id ?_ | refine condO_id ?_ | refine resP_id ?_ | refine callT_of ?_); conv => { arg 1; simp (disch := first | assumption | omega) only [push_cast, ↓reduceIte, reduceIte, Nat.reduceEqDiff, Nat.reduceAdd, Nat.reduceSub, Nat.reduceMul, Nat.reduceBEq, Int.reduceNeg] }; first | ((with_reducible refine optP_id ?_); refine optP_some ?_) | ((with_reducible refine condP_id ?_); first | refine condP_yes (by first | assumption | exact fun hn => hn (by assumption) | omega | decide) ?_ | refine condP_non (by assumption) ?_ | refine condP_no (by first | assumption | omega | decide) ?_ | refine condP_decn (fun hc => ?_) (fun hc => ?_) | refine condP_dec (fun hc => ?_) (fun hc => ?_) | refine condP_true (by first | with_reducible rfl | assumption | rfl) ?_ | refine condP_false (by first | with_reducible rfl | assumption | rfl) ?_ | refine condP_bool (fun hc => ?_) (fun hc => ?_)) | ((with_reducible refine condO_id ?_); refine condO_some ?_) | ((with_reducible refine resP_id ?_); first | refine resP_one ?_ | refine resP_two ?_ | refine resP_three ?_ | refine resP_four ?_ | refine resP_zero ?_) | ((with_reducible refine callT_to ?_); first | refine callP_plain ?_ | refine callP_yield ?_ | (refine callP_func ?_; conv => { arg 3; simp only [push_cast] })))
    | refine wk_seq ?_ | refine wk_region ?_ | refine wk_block ?_ | refine wk_inBlock ?_ | refine wk_skip ?_ | refine wo_nil ?_ | refine wk_cond ?_ | refine wk_ret ?_ | refine wk_nil ?_ | refine wo_dst rfl (opR_call ?_) | refine wo_nodst (opR_call ?_) | refine wo_dst rfl (opR_pick ?_) | refine wo_guard rfl rfl ?_ | refine wo_guardn rfl ?_ | refine wo_dst rfl (opR_pure ?_) | refine wo_nodst (opR_pure ?_)
    | refine give_ret ?_ | refine give_end ?_)
      refine (misr_w a b (by omega) (by omega) _).mono ?_
      rintro _ h1 ⟨rfl, g1⟩; have n1 := g1.1; have k1 := g1.2; try simp only [next_new, next_set] at n1 k1
      repeat' (first
    | ((with_reducible first | refine optP_id ?_ | refine condP_id ?_ | refine condO_id ?_ | refine resP_id ?_ | refine callT_of ?_); conv => { arg 1; simp (disch := first | assumption | omega) only [push_cast, ↓reduceIte, reduceIte, Nat.reduceEqDiff, Nat.reduceAdd, Nat.reduceSub, Nat.reduceMul, Nat.reduceBEq, Int.reduceNeg, k1] }; first | ((with_reducible refine optP_id ?_); refine optP_some ?_) | ((with_reducible refine condP_id ?_); first | refine condP_yes (by first | assumption | exact fun hn => hn (by assumption) | omega | decide) ?_ | refine condP_non (by assumption) ?_ | refine condP_no (by first | assumption | omega | decide) ?_ | refine condP_decn (fun hc => ?_) (fun hc => ?_) | refine condP_dec (fun hc => ?_) (fun hc => ?_) | refine condP_true (by first | with_reducible rfl | assumption | rfl) ?_ | refine condP_false (by first | with_reducible rfl | assumption | rfl) ?_ | refine condP_bool (fun hc => ?_) (fun hc => ?_)) | ((with_reducible refine condO_id ?_); refine condO_some ?_) | ((with_reducible refine resP_id ?_); first | refine resP_one ?_ | refine resP_two ?_ | refine resP_three ?_ | refine resP_four ?_ | refine resP_zero ?_) | ((with_reducible refine callT_to ?_); first | refine callP_plain ?_ | refine callP_yield ?_ | (refine callP_func ?_; conv => { arg 3; simp only [push_cast] })))
    | refine wk_seq ?_ | refine wk_region ?_ | refine wk_block ?_ | refine wk_inBlock ?_ | refine wk_skip ?_ | refine wo_nil ?_ | refine wk_cond ?_ | refine wk_ret ?_ | refine wk_nil ?_ | refine wo_dst rfl (opR_call ?_) | refine wo_nodst (opR_call ?_) | refine wo_dst rfl (opR_pick ?_) | refine wo_guard rfl rfl ?_ | refine wo_guardn rfl ?_ | refine wo_dst rfl (opR_pure ?_) | refine wo_nodst (opR_pure ?_)
    | refine give_ret ?_ | refine give_end ?_)
      refine (misr_w c d (by omega) (by omega) _).mono ?_
      rintro _ h2 ⟨rfl, g2⟩; have n2 := g2.1; have k2 := g2.2; try simp only [next_new, next_set] at n2 k2
      repeat' (first
    | ((with_reducible first | refine optP_id ?_ | refine condP_id ?_ | refine condO_id ?_ | refine resP_id ?_ | refine callT_of ?_); conv => { arg 1; simp (disch := first | assumption | omega) only [push_cast, ↓reduceIte, reduceIte, Nat.reduceEqDiff, Nat.reduceAdd, Nat.reduceSub, Nat.reduceMul, Nat.reduceBEq, Int.reduceNeg, k1, k2] }; first | ((with_reducible refine optP_id ?_); refine optP_some ?_) | ((with_reducible refine condP_id ?_); first | refine condP_yes (by first | assumption | exact fun hn => hn (by assumption) | omega | decide) ?_ | refine condP_non (by assumption) ?_ | refine condP_no (by first | assumption | omega | decide) ?_ | refine condP_decn (fun hc => ?_) (fun hc => ?_) | refine condP_dec (fun hc => ?_) (fun hc => ?_) | refine condP_true (by first | with_reducible rfl | assumption | rfl) ?_ | refine condP_false (by first | with_reducible rfl | assumption | rfl) ?_ | refine condP_bool (fun hc => ?_) (fun hc => ?_)) | ((with_reducible refine condO_id ?_); refine condO_some ?_) | ((with_reducible refine resP_id ?_); first | refine resP_one ?_ | refine resP_two ?_ | refine resP_three ?_ | refine resP_four ?_ | refine resP_zero ?_) | ((with_reducible refine callT_to ?_); first | refine callP_plain ?_ | refine callP_yield ?_ | (refine callP_func ?_; conv => { arg 3; simp only [push_cast] })))
    | refine wk_seq ?_ | refine wk_region ?_ | refine wk_block ?_ | refine wk_inBlock ?_ | refine wk_skip ?_ | refine wo_nil ?_ | refine wk_cond ?_ | refine wk_ret ?_ | refine wk_nil ?_ | refine wo_dst rfl (opR_call ?_) | refine wo_nodst (opR_call ?_) | refine wo_dst rfl (opR_pick ?_) | refine wo_guard rfl rfl ?_ | refine wo_guardn rfl ?_ | refine wo_dst rfl (opR_pure ?_) | refine wo_nodst (opR_pure ?_)
    | refine give_ret ?_ | refine give_end ?_)
      all_goals (refine ⟨?_, by (repeat (first | exact Gr.refl _ | assumption | (refine Gr.trans ?_ (by assumption)) | refine Gr.set ?_ (by first | exact Nat.le_refl _ | omega | (simp only [next_new, next_set]; omega)) _ | refine Gr.new ?_ _))⟩; rw [cmpF, if_pos ⟨hab, hcd⟩])
      · rw [if_pos (by assumption)]
      · rw [if_neg (by assumption), if_pos (by assumption)]
      · rw [if_neg (by assumption), if_neg (by assumption)]
    · refine wc_func Tryd.func41 rfl rfl rfl rfl ?_
      repeat' (first
    | ((with_reducible first | refine optP_id ?_ | refine condP_id ?_ | refine condO_id ?_ | refine resP_id ?_ | refine callT_of ?_); conv => { arg 1; simp (disch := first | assumption | omega) only [push_cast, ↓reduceIte, reduceIte, Nat.reduceEqDiff, Nat.reduceAdd, Nat.reduceSub, Nat.reduceMul, Nat.reduceBEq, Int.reduceNeg] }; first | ((with_reducible refine optP_id ?_); refine optP_some ?_) | ((with_reducible refine condP_id ?_); first | refine condP_yes (by first | assumption | exact fun hn => hn (by assumption) | omega | decide) ?_ | refine condP_non (by assumption) ?_ | refine condP_no (by first | assumption | omega | decide) ?_ | refine condP_decn (fun hc => ?_) (fun hc => ?_) | refine condP_dec (fun hc => ?_) (fun hc => ?_) | refine condP_true (by first | with_reducible rfl | assumption | rfl) ?_ | refine condP_false (by first | with_reducible rfl | assumption | rfl) ?_ | refine condP_bool (fun hc => ?_) (fun hc => ?_)) | ((with_reducible refine condO_id ?_); refine condO_some ?_) | ((with_reducible refine resP_id ?_); first | refine resP_one ?_ | refine resP_two ?_ | refine resP_three ?_ | refine resP_four ?_ | refine resP_zero ?_) | ((with_reducible refine callT_to ?_); first | refine callP_plain ?_ | refine callP_yield ?_ | (refine callP_func ?_; conv => { arg 3; simp only [push_cast] })))
    | refine wk_seq ?_ | refine wk_region ?_ | refine wk_block ?_ | refine wk_inBlock ?_ | refine wk_skip ?_ | refine wo_nil ?_ | refine wk_cond ?_ | refine wk_ret ?_ | refine wk_nil ?_ | refine wo_dst rfl (opR_call ?_) | refine wo_nodst (opR_call ?_) | refine wo_dst rfl (opR_pick ?_) | refine wo_guard rfl rfl ?_ | refine wo_guardn rfl ?_ | refine wo_dst rfl (opR_pure ?_) | refine wo_nodst (opR_pure ?_)
    | refine give_ret ?_ | refine give_end ?_)
      refine (misr_w a b (by omega) (by omega) _).mono ?_
      rintro _ h1 ⟨rfl, g1⟩; have n1 := g1.1; have k1 := g1.2; try simp only [next_new, next_set] at n1 k1
      repeat' (first
    | ((with_reducible first | refine optP_id ?_ | refine condP_id ?_ | refine condO_id ?_ | refine resP_id ?_ | refine callT_of ?_); conv => { arg 1; simp (disch := first | assumption | omega) only [push_cast, ↓reduceIte, reduceIte, Nat.reduceEqDiff, Nat.reduceAdd, Nat.reduceSub, Nat.reduceMul, Nat.reduceBEq, Int.reduceNeg, k1] }; first | ((with_reducible refine optP_id ?_); refine optP_some ?_) | ((with_reducible refine condP_id ?_); first | refine condP_yes (by first | assumption | exact fun hn => hn (by assumption) | omega | decide) ?_ | refine condP_non (by assumption) ?_ | refine condP_no (by first | assumption | omega | decide) ?_ | refine condP_decn (fun hc => ?_) (fun hc => ?_) | refine condP_dec (fun hc => ?_) (fun hc => ?_) | refine condP_true (by first | with_reducible rfl | assumption | rfl) ?_ | refine condP_false (by first | with_reducible rfl | assumption | rfl) ?_ | refine condP_bool (fun hc => ?_) (fun hc => ?_)) | ((with_reducible refine condO_id ?_); refine condO_some ?_) | ((with_reducible refine resP_id ?_); first | refine resP_one ?_ | refine resP_two ?_ | refine resP_three ?_ | refine resP_four ?_ | refine resP_zero ?_) | ((with_reducible refine callT_to ?_); first | refine callP_plain ?_ | refine callP_yield ?_ | (refine callP_func ?_; conv => { arg 3; simp only [push_cast] })))
    | refine wk_seq ?_ | refine wk_region ?_ | refine wk_block ?_ | refine wk_inBlock ?_ | refine wk_skip ?_ | refine wo_nil ?_ | refine wk_cond ?_ | refine wk_ret ?_ | refine wk_nil ?_ | refine wo_dst rfl (opR_call ?_) | refine wo_nodst (opR_call ?_) | refine wo_dst rfl (opR_pick ?_) | refine wo_guard rfl rfl ?_ | refine wo_guardn rfl ?_ | refine wo_dst rfl (opR_pure ?_) | refine wo_nodst (opR_pure ?_)
    | refine give_ret ?_ | refine give_end ?_)
      refine (misr_w c d (by omega) (by omega) _).mono ?_
      rintro _ h2 ⟨rfl, g2⟩; have n2 := g2.1; have k2 := g2.2; try simp only [next_new, next_set] at n2 k2
      repeat' (first
    | ((with_reducible first | refine optP_id ?_ | refine condP_id ?_ | refine condO_id ?_ | refine resP_id ?_ | refine callT_of ?_); conv => { arg 1; simp (disch := first | assumption | omega) only [push_cast, ↓reduceIte, reduceIte, Nat.reduceEqDiff, Nat.reduceAdd, Nat.reduceSub, Nat.reduceMul, Nat.reduceBEq, Int.reduceNeg, k1, k2] }; first | ((with_reducible refine optP_id ?_); refine optP_some ?_) | ((with_reducible refine condP_id ?_); first | refine condP_yes (by first | assumption | exact fun hn => hn (by assumption) | omega | decide) ?_ | refine condP_non (by assumption) ?_ | refine condP_no (by first | assumption | omega | decide) ?_ | refine condP_decn (fun hc => ?_) (fun hc => ?_) | refine condP_dec (fun hc => ?_) (fun hc => ?_) | refine condP_true (by first | with_reducible rfl | assumption | rfl) ?_ | refine condP_false (by first | with_reducible rfl | assumption | rfl) ?_ | refine condP_bool (fun hc => ?_) (fun hc => ?_)) | ((with_reducible refine condO_id ?_); refine condO_some ?_) | ((with_reducible refine resP_id ?_); first | refine resP_one ?_ | refine resP_two ?_ | refine resP_three ?_ | refine resP_four ?_ | refine resP_zero ?_) | ((with_reducible refine callT_to ?_); first | refine callP_plain ?_ | refine callP_yield ?_ | (refine callP_func ?_; conv => { arg 3; simp only [push_cast] })))
    | refine wk_seq ?_ | refine wk_region ?_ | refine wk_block ?_ | refine wk_inBlock ?_ | refine wk_skip ?_ | refine wo_nil ?_ | refine wk_cond ?_ | refine wk_ret ?_ | refine wk_nil ?_ | refine wo_dst rfl (opR_call ?_) | refine wo_nodst (opR_call ?_) | refine wo_dst rfl (opR_pick ?_) | refine wo_guard rfl rfl ?_ | refine wo_guardn rfl ?_ | refine wo_dst rfl (opR_pure ?_) | refine wo_nodst (opR_pure ?_)
    | refine give_ret ?_ | refine give_end ?_)
      exact ⟨by rw [cmpF, if_neg (fun h => hcd h.2)], by (repeat (first | exact Gr.refl _ | assumption | (refine Gr.trans ?_ (by assumption)) | refine Gr.set ?_ (by first | exact Nat.le_refl _ | omega | (simp only [next_new, next_set]; omega)) _ | refine Gr.new ?_ _))⟩
  · refine wc_func Tryd.func41 rfl rfl rfl rfl ?_
    repeat' (first
    | ((with_reducible first | refine optP_id ?_ | refine condP_id ?_ | refine condO_id ?_ | refine resP_id ?_ | refine callT_of ?_); conv => { arg 1; simp (disch := first | assumption | omega) only [push_cast, ↓reduceIte, reduceIte, Nat.reduceEqDiff, Nat.reduceAdd, Nat.reduceSub, Nat.reduceMul, Nat.reduceBEq, Int.reduceNeg] }; first | ((with_reducible refine optP_id ?_); refine optP_some ?_) | ((with_reducible refine condP_id ?_); first | refine condP_yes (by first | assumption | exact fun hn => hn (by assumption) | omega | decide) ?_ | refine condP_non (by assumption) ?_ | refine condP_no (by first | assumption | omega | decide) ?_ | refine condP_decn (fun hc => ?_) (fun hc => ?_) | refine condP_dec (fun hc => ?_) (fun hc => ?_) | refine condP_true (by first | with_reducible rfl | assumption | rfl) ?_ | refine condP_false (by first | with_reducible rfl | assumption | rfl) ?_ | refine condP_bool (fun hc => ?_) (fun hc => ?_)) | ((with_reducible refine condO_id ?_); refine condO_some ?_) | ((with_reducible refine resP_id ?_); first | refine resP_one ?_ | refine resP_two ?_ | refine resP_three ?_ | refine resP_four ?_ | refine resP_zero ?_) | ((with_reducible refine callT_to ?_); first | refine callP_plain ?_ | refine callP_yield ?_ | (refine callP_func ?_; conv => { arg 3; simp only [push_cast] })))
    | refine wk_seq ?_ | refine wk_region ?_ | refine wk_block ?_ | refine wk_inBlock ?_ | refine wk_skip ?_ | refine wo_nil ?_ | refine wk_cond ?_ | refine wk_ret ?_ | refine wk_nil ?_ | refine wo_dst rfl (opR_call ?_) | refine wo_nodst (opR_call ?_) | refine wo_dst rfl (opR_pick ?_) | refine wo_guard rfl rfl ?_ | refine wo_guardn rfl ?_ | refine wo_dst rfl (opR_pure ?_) | refine wo_nodst (opR_pure ?_)
    | refine give_ret ?_ | refine give_end ?_)
    refine (misr_w a b (by omega) (by omega) _).mono ?_
    rintro _ h1 ⟨rfl, g1⟩; have n1 := g1.1; have k1 := g1.2; try simp only [next_new, next_set] at n1 k1
    repeat' (first
    | ((with_reducible first | refine optP_id ?_ | refine condP_id ?_ | refine condO_id ?_ | refine resP_id ?_ | refine callT_of ?_); conv => { arg 1; simp (disch := first | assumption | omega) only [push_cast, ↓reduceIte, reduceIte, Nat.reduceEqDiff, Nat.reduceAdd, Nat.reduceSub, Nat.reduceMul, Nat.reduceBEq, Int.reduceNeg, k1] }; first | ((with_reducible refine optP_id ?_); refine optP_some ?_) | ((with_reducible refine condP_id ?_); first | refine condP_yes (by first | assumption | exact fun hn => hn (by assumption) | omega | decide) ?_ | refine condP_non (by assumption) ?_ | refine condP_no (by first | assumption | omega | decide) ?_ | refine condP_decn (fun hc => ?_) (fun hc => ?_) | refine condP_dec (fun hc => ?_) (fun hc => ?_) | refine condP_true (by first | with_reducible rfl | assumption | rfl) ?_ | refine condP_false (by first | with_reducible rfl | assumption | rfl) ?_ | refine condP_bool (fun hc => ?_) (fun hc => ?_)) | ((with_reducible refine condO_id ?_); refine condO_some ?_) | ((with_reducible refine resP_id ?_); first | refine resP_one ?_ | refine resP_two ?_ | refine resP_three ?_ | refine resP_four ?_ | refine resP_zero ?_) | ((with_reducible refine callT_to ?_); first | refine callP_plain ?_ | refine callP_yield ?_ | (refine callP_func ?_; conv => { arg 3; simp only [push_cast] })))
    | refine wk_seq ?_ | refine wk_region ?_ | refine wk_block ?_ | refine wk_inBlock ?_ | refine wk_skip ?_ | refine wo_nil ?_ | refine wk_cond ?_ | refine wk_ret ?_ | refine wk_nil ?_ | refine wo_dst rfl (opR_call ?_) | refine wo_nodst (opR_call ?_) | refine wo_dst rfl (opR_pick ?_) | refine wo_guard rfl rfl ?_ | refine wo_guardn rfl ?_ | refine wo_dst rfl (opR_pure ?_) | refine wo_nodst (opR_pure ?_)
    | refine give_ret ?_ | refine give_end ?_)
    exact ⟨by rw [cmpF, if_neg (fun h => hab h.1)], by (repeat (first | exact Gr.refl _ | assumption | (refine Gr.trans ?_ (by assumption)) | refine Gr.set ?_ (by first | exact Nat.le_refl _ | omega | (simp only [next_new, next_set]; omega)) _ | refine Gr.new ?_ _))⟩

end Go.Proofs.YtcfohcpcepeolaaDoor
namespace Go.Proofs.YtcfohcpcepeolaaDoor
open Go.Ev
def rstep (s : Option (Nat × Nat)) (p : Nat) : Option (Nat × Nat) := match s with
  | none => none
  | some (t, b) => if t % p = 0 then some (t / p, b) else if 1048576 < b * p then none else some (t, b * p)
def rfold (ps : List Nat) (s : Option (Nat × Nat)) : Option (Nat × Nat) := ps.foldl rstep s
def rr : Nat → Option (Nat × Nat) → Option (Nat × Nat)
  | 0, s => s
  | k + 1, s => rr k (rfold [2, 2, 3, 5] s)
theorem rfold_cons (p : Nat) (ps : List Nat) (s : Option (Nat × Nat)) : rfold (p :: ps) s = rfold ps (rstep s p) := rfl
theorem rfold_none : ∀ ps : List Nat, rfold ps none = none
  | [] => rfl
  | _ :: ps => rfold_none ps
theorem rr_none : ∀ k, rr k none = none
  | 0 => rfl
  | k + 1 => by rw [rr, rfold_none, rr_none k]
theorem rstep_spec {t b p t' b' : Nat} (hp : 1 ≤ p) (h : rstep (some (t, b)) p = some (t', b')) : t' * (b * p) = t * b' ∧ b ≤ b' ∧ (b ≤ 1048576 → b' ≤ 1048576) ∧ t' ≤ t := by
  unfold rstep at h
  dsimp only at h
  by_cases h1 : t % p = 0
  · rw [if_pos h1] at h
    cases h
    refine ⟨?_, Nat.le_refl _, id, Nat.div_le_self _ _⟩
    have := Nat.div_add_mod t p
    rw [h1, Nat.add_zero] at this
    rw [Nat.mul_comm b p, ← Nat.mul_assoc, Nat.mul_comm (t / p), this]
  · rw [if_neg h1] at h
    by_cases h2 : 1048576 < b * p
    · rw [if_pos h2] at h; cases h
    · rw [if_neg h2] at h
      cases h
      exact ⟨rfl, Nat.le_mul_of_pos_right _ hp, fun _ => by omega, Nat.le_refl _⟩
theorem rstep_some {t b p : Nat} (hp : 1 ≤ p) (h : b * p ≤ 1048576) : ∃ t' b', rstep (some (t, b)) p = some (t', b') ∧ b' ≤ b * p := by
  unfold rstep
  dsimp only
  by_cases h1 : t % p = 0
  · rw [if_pos h1]
    exact ⟨_, _, rfl, Nat.le_mul_of_pos_right _ hp⟩
  · rw [if_neg h1, if_neg (by omega)]
    exact ⟨_, _, rfl, Nat.le_refl _⟩
theorem step_up {t b t' b' t2 b2 p q : Nat} (hb : 1 ≤ b') (h1 : t' * (b * p) = t * b') (h2 : t2 * (b' * q) = t' * b2) : t2 * (b * (p * q)) = t * b2 := by
  have e : t2 * (b * (p * q)) * b' = t * b2 * b' := by
    have a1 : t2 * (b * (p * q)) * b' = (t2 * (b' * q)) * (b * p) := by grind
    have a2 : (t2 * (b' * q)) * (b * p) = t' * b2 * (b * p) := by rw [h2]
    have a3 : t' * b2 * (b * p) = t' * (b * p) * b2 := by grind
    rw [a1, a2, a3, h1]
    grind
  exact Nat.eq_of_mul_eq_mul_right hb e
theorem round_spec {t b t' b' : Nat} (hb : 1 ≤ b) (h : rfold [2, 2, 3, 5] (some (t, b)) = some (t', b')) : t' * (b * 60) = t * b' ∧ b ≤ b' ∧ (b ≤ 1048576 → b' ≤ 1048576) ∧ t' ≤ t := by
  rw [rfold_cons] at h
  cases h1 : rstep (some (t, b)) 2 with
  | none => rw [h1, rfold_none] at h; cases h
  | some x =>
    obtain ⟨t1, b1⟩ := x
    rw [h1, rfold_cons] at h
    obtain ⟨p1, q1, r1, s1⟩ := rstep_spec (by decide) h1
    cases h2 : rstep (some (t1, b1)) 2 with
    | none => rw [h2, rfold_none] at h; cases h
    | some x =>
      obtain ⟨t2, b2⟩ := x
      rw [h2, rfold_cons] at h
      obtain ⟨p2, q2, r2, s2⟩ := rstep_spec (by decide) h2
      cases h3 : rstep (some (t2, b2)) 3 with
      | none => rw [h3, rfold_none] at h; cases h
      | some x =>
        obtain ⟨t3, b3⟩ := x
        rw [h3, rfold_cons] at h
        obtain ⟨p3, q3, r3, s3⟩ := rstep_spec (by decide) h3
        obtain ⟨p4, q4, r4, s4⟩ := rstep_spec (t' := t') (b' := b') (by decide) h
        have u1 := step_up (by omega) p1 p2
        have u2 := step_up (by omega) u1 p3
        have u3 := step_up (by omega) u2 p4
        exact ⟨u3, by omega, fun hh => r4 (r3 (r2 (r1 hh))), by omega⟩
theorem round_some {t b : Nat} (h : b * 60 ≤ 1048576) : ∃ t' b', rfold [2, 2, 3, 5] (some (t, b)) = some (t', b') ∧ b' ≤ b * 60 := by
  obtain ⟨t1, b1, h1, k1⟩ := rstep_some (t := t) (b := b) (p := 2) (by decide) (by omega)
  obtain ⟨t2, b2, h2, k2⟩ := rstep_some (t := t1) (b := b1) (p := 2) (by decide) (by omega)
  obtain ⟨t3, b3, h3, k3⟩ := rstep_some (t := t2) (b := b2) (p := 3) (by decide) (by omega)
  obtain ⟨t4, b4, h4, k4⟩ := rstep_some (t := t3) (b := b3) (p := 5) (by decide) (by omega)
  refine ⟨t4, b4, ?_, by omega⟩
  rw [rfold_cons, h1, rfold_cons, h2, rfold_cons, h3, rfold_cons, h4]
  rfl
theorem rr_spec : ∀ {k t b t' b' : Nat}, 1 ≤ b → rr k (some (t, b)) = some (t', b') → t' * (b * 60 ^ k) = t * b' ∧ b ≤ b' ∧ (b ≤ 1048576 → b' ≤ 1048576) ∧ t' ≤ t
  | 0, t, b, t', b', hb, h => by
    cases h
    exact ⟨by rw [Nat.pow_zero, Nat.mul_one], Nat.le_refl _, id, Nat.le_refl _⟩
  | k + 1, t, b, t', b', hb, h => by
    rw [rr] at h
    cases h1 : rfold [2, 2, 3, 5] (some (t, b)) with
    | none => rw [h1, rr_none] at h; cases h
    | some x =>
      obtain ⟨t1, b1⟩ := x
      rw [h1] at h
      obtain ⟨p1, q1, r1, s1⟩ := round_spec hb h1
      obtain ⟨p2, q2, r2, s2⟩ := rr_spec (k := k) (by omega) h
      have u := step_up (by omega) p1 p2
      rw [Nat.pow_succ, Nat.mul_comm (60 ^ k)]
      exact ⟨u, by omega, fun hh => r2 (r1 hh), by omega⟩
theorem rr_some : ∀ {k t b : Nat}, 1 ≤ b → b * 60 ^ k ≤ 1048576 → ∃ t' b', rr k (some (t, b)) = some (t', b') ∧ b' ≤ b * 60 ^ k
  | 0, t, b, hb, h => ⟨t, b, rfl, by rw [Nat.pow_zero, Nat.mul_one]; exact Nat.le_refl _⟩
  | k + 1, t, b, hb, h => by
    have hp : 0 < 60 ^ k := Nat.pow_pos (by decide)
    have e : b * 60 ^ (k + 1) = b * 60 * 60 ^ k := by rw [Nat.pow_succ, Nat.mul_comm (60 ^ k), Nat.mul_assoc]
    rw [e] at h ⊢
    have h60 : b * 60 ≤ b * 60 * 60 ^ k := Nat.le_mul_of_pos_right _ hp
    obtain ⟨t1, b1, h1, k1⟩ := round_some (t := t) (b := b) (by omega)
    obtain ⟨_, hb1, _, _⟩ := round_spec hb h1
    have hk : b1 * 60 ^ k ≤ b * 60 * 60 ^ k := Nat.mul_le_mul_right _ k1
    obtain ⟨t2, b2, h2, k2⟩ := rr_some (k := k) (t := t1) (b := b1) (by omega) (by omega)
    exact ⟨t2, b2, by rw [rr, h1]; exact h2, by omega⟩
theorem ratF_nat {t b : Nat} (hb : b ≠ 0) : ratF (t : Int) (b : Int) = mkR false t b := by
  rw [ratF, if_neg (by omega)]
  have h1 : decide ((t : Int) < 0) = false := decide_eq_false (by omega)
  have h2 : decide ((b : Int) < 0) = false := decide_eq_false (by omega)
  rw [h1, h2]
  rfl
theorem mk_of {t b N D : Nat} (hb : b ≠ 0) (hD : D ≠ 0) (hc : N.gcd D = 1) (e : t * D = N * b) (hN : N ≤ 1099511627776) (hD2 : D ≤ 1048576) : mkR false t b = ((N : Int), (D : Int), 0) := by
  obtain ⟨k1, k2⟩ := cross_div hb hD hc e
  rw [mkR, k1, k2, if_neg (by omega), if_neg (by omega)]
  rfl
theorem mk_eq {t b n d : Nat} (hb : b ≠ 0) (hd : d ≠ 0) (e : t * d = n * b) (ht : t ≤ 1099511627776) (hb2 : b ≤ 1048576) : ∃ N D : Nat, mkR false t b = ((N : Int), (D : Int), 0) ∧ mkR false n d = ((N : Int), (D : Int), 0) ∧ N.gcd D = 1 ∧ D ≠ 0 := by
  have hg : 0 < t.gcd b := Nat.gcd_pos_of_pos_right t (Nat.pos_of_ne_zero hb)
  obtain ⟨x, hx⟩ := Nat.gcd_dvd_left t b
  obtain ⟨y, hy⟩ := Nat.gcd_dvd_right t b
  have hc : Nat.gcd x y = 1 := by
    have h1 : (t.gcd b) * (Nat.gcd x y) = (t.gcd b) * 1 := by
      rw [← Nat.gcd_mul_left, ← hx, ← hy, Nat.mul_one]
    exact Nat.eq_of_mul_eq_mul_left hg h1
  generalize t.gcd b = g at *
  have hy0 : y ≠ 0 := fun h => hb (by rw [hy, h, Nat.mul_zero])
  have hxt : x ≤ t := by rw [hx]; exact Nat.le_mul_of_pos_left _ hg
  have hyb : y ≤ b := by rw [hy]; exact Nat.le_mul_of_pos_left _ hg
  have e1 : t * y = x * b := by rw [hx, hy, Nat.mul_comm g x, Nat.mul_assoc]
  have e2 : n * y = x * d := by
    have : n * y * b = x * d * b := by
      have a1 : n * y * b = (n * b) * y := by grind
      have a2 : x * d * b = (x * b) * d := by grind
      rw [a1, a2, ← e, ← e1]
      grind
    exact Nat.eq_of_mul_eq_mul_right (Nat.pos_of_ne_zero hb) this
  exact ⟨x, y, mk_of hb hy0 hc e1 (by omega) (by omega), mk_of hd hy0 hc e2 (by omega) (by omega), hc, hy0⟩
theorem back_one {U N D t b : Nat} (hU : U * D = N * 60 ^ 64) (ht : t * 60 ^ 64 = U * b) : t * D = N * b := by
  refine Nat.eq_of_mul_eq_mul_right (show 0 < 60 ^ 64 by decide) ?_
  generalize 60 ^ 64 = K at *
  have a1 : t * D * K = (t * K) * D := by grind
  have a2 : N * b * K = (N * K) * b := by grind
  rw [a1, a2, ht, ← hU]
  grind
theorem back_sum {U V N D M E t b : Nat} (hU : U * D = N * 60 ^ 64) (hV : V * E = M * 60 ^ 64) (ht : t * 60 ^ 64 = (U + V) * b) : t * (D * E) = (N * E + M * D) * b := by
  refine back_one (U := U + V) ?_ ht
  generalize 60 ^ 64 = K at *
  have a1 : (U + V) * (D * E) = (U * D) * E + (V * E) * D := by grind
  rw [a1, hU, hV]
  grind
theorem back_lt {U V N D M E : Nat} (hD : 0 < D) (hE : 0 < E) (hU : U * D = N * 60 ^ 64) (hV : V * E = M * 60 ^ 64) : U < V ↔ N * E < M * D := by
  have hK : 0 < 60 ^ 64 := by decide
  generalize 60 ^ 64 = K at *
  have a1 : U * (D * E) = N * E * K := by
    have : U * (D * E) = (U * D) * E := by grind
    rw [this, hU]; grind
  have a2 : V * (D * E) = M * D * K := by
    have : V * (D * E) = (V * E) * D := by grind
    rw [this, hV]; grind
  have hDE : 0 < D * E := Nat.mul_pos hD hE
  rw [← Nat.mul_lt_mul_right hDE, a1, a2, Nat.mul_lt_mul_right hK]
/-- a sum of multiples of 60 to the power 61 has no shift below -3 -/
theorem shift_ge {m e U : Nat} (h : m * 60 ^ e = U) (hm : m % 60 ≠ 0) (hU : 60 ^ 61 ∣ U) : 61 ≤ e := by
  apply Classical.byContradiction
  intro hh
  obtain ⟨y, hy⟩ := hU
  obtain ⟨k, hk⟩ : ∃ k, 61 = e + (k + 1) := ⟨60 - e, by omega⟩
  rw [hk, Nat.pow_add, Nat.pow_succ] at hy
  apply hm
  have hp : 0 < 60 ^ e := Nat.pow_pos (by decide)
  have : m = 60 ^ k * 60 * y := by
    refine Nat.eq_of_mul_eq_mul_right hp ?_
    rw [h, hy]
    generalize 60 ^ e = A
    generalize 60 ^ k = B
    grind
  rw [this, Nat.mul_right_comm, Nat.mul_mod_left]
end Go.Proofs.YtcfohcpcepeolaaDoor
