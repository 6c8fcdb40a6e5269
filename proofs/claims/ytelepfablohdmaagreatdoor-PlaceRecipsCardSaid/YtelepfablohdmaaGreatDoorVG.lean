/- Contract: digitsOf. -/
import Derived.Test.YtelepfablohdmaaGreatDoorVF
set_option linter.unusedSimpArgs false
set_option linter.unusedVariables false
/- Contracts: times, Mul. -/
namespace Go.Proofs.YtelepfablohdmaaGreatDoor
open Go.Ev
theorem digsN_le {X k K : Nat} (h : digsN X k) (hX : X < 60 ^ K) : k ≤ K := by
  rcases h.2.2 with q | q
  · omega
  · apply Classical.byContradiction
    intro hh
    apply q
    have : 60 ^ K ≤ 60 ^ (k - 1) := Nat.pow_le_pow_right (by decide) (by omega)
    rw [Nat.div_eq_of_lt (by omega)]
theorem digsN_lt {X k : Nat} (hX : X < 60 ^ 146) (h : digsN X k) : X < 60 ^ k := by
  have := top_zero hX h
  rcases Nat.lt_or_ge X (60 ^ k) with q | q
  · exact q
  · have := Nat.div_pos q (pow60_pos k)
    omega
theorem ints_okL (k : IntKind) : ∀ l : List Int, okL (ints k l) = true
  | [] => rfl
  | x :: l => by
    show (okC (.int k x) && okL (ints k l)) = true
    rw [ints_okL k l]; rfl
theorem same_ints (k : IntKind) (l : List Int) : same (.agg (ints k l).toArray) (.agg (ints k l).toArray) = true := same_of rfl (ints_okL k l)
theorem valN_lt16 {l : List Int} (hv : valid l) (hl : l.length ≤ 16) : valN l < 60 ^ 16 := Nat.lt_of_lt_of_le (valN_lt hv.1) (Nat.pow_le_pow_right (by decide) hl)
/-- what a function of digits returns: the digits of X, or that they are too many -/
def digR (X : Nat) (r : Value) (h' : AHeap) : Prop := ∃ d w, nf X d ∧ ((d.length ≤ 16 ∧ r = .tuple #[w, .int .i64 0] ∧ IIn h' w d) ∨ (16 < d.length ∧ r = .tuple #[.slice none 0 0, .int .i64 3]))
theorem placeE_zero {l : List Int} {s : Int} (hv : valid l) (hn : l ≠ []) (h1 : -64 ≤ s) (h2 : s ≤ 64) : (l.length ≤ 16 → placeE l s = 0) ∧ (16 < l.length → placeE l s ≠ 0) := by
  refine ⟨fun h => ?_, fun h => ?_⟩
  · rw [placeE, if_neg (fun h3 => h3 (valid_check hv h)), if_neg (fun h3 => h3 ⟨h1, h2⟩), if_neg (fun h3 => hn h3.1)]
  · have : checkE l = 3 := by rw [checkE, if_pos h]
    rw [placeE, this, if_pos (by decide)]
    decide
theorem len0 {l : List Int} : ((l.length : Int) = 0) ↔ l = [] := by
  constructor
  · intro h; exact List.eq_nil_of_length_eq_zero (by omega)
  · intro h; rw [h]; rfl
end Go.Proofs.YtelepfablohdmaaGreatDoor
/- Contract: over. -/
namespace Go.Proofs.YtelepfablohdmaaGreatDoor
open Go.Ev
theorem num_div {W' d j : Nat} (hd : d < 60) (hj : j < 146) : numD ((W' * 60 + d) * 60 ^ j) = (numD (W' * 60 ^ (j + 1))).set j (d : Int) := by
  apply List.ext_getElem
  · rw [List.length_set, numD_len, numD_len]
  · intro i h1 h2
    rw [List.getElem_set, numD_get, shift_get]
    by_cases hij : j = i
    · subst hij
      rw [if_pos rfl, if_neg (by omega), Nat.sub_self, Nat.pow_zero, Nat.div_one]
      omega
    · rw [if_neg hij, numD_get, shift_get]
      by_cases hlt : i < j
      · rw [if_pos hlt, if_pos (by omega)]
      · rw [if_neg hlt, if_neg (by omega)]
        have e : 60 ^ (i - j) = 60 * 60 ^ (i - (j + 1)) := by rw [← Nat.pow_succ']; congr 1; omega
        rw [e, ← Nat.div_div_eq_div_mul]
        have : (W' * 60 + d) / 60 = W' := by omega
        rw [this]
set_option maxRecDepth 100000 in
set_option maxHeartbeats 8000000 in
theorem over_w (X n : Nat) (hX : X < 60 ^ 146) (hn : 1 ≤ n) (hn2 : n ≤ 100) (h : AHeap) :
    Wc pr (.func 103) [numV X, .int .i64 (n : Int)] h fun r h' => r = .tuple #[numV (X / n), .int .i64 ((X % n : Nat) : Int)] ∧ Gr h h' := by
  rw [num_cells]
  have hf := ints_flat .u8 (numD X)
  have hul : (usL X 146).length = 146 := usL_len (Nat.le_refl _)
  refine wc_func Tryz.func103 rfl rfl rfl rfl ?_
  generalize hZ : ints .u8 (numD 0) = Z
  have zv : zeroV Tryz.prog 87 = some (.agg Z.toArray) := by rw [← hZ]; exact zv87
  generalize hC : ints .u8 (numD X) = C at *
  repeat' (first
    | ((with_reducible first | refine optP_id ?_ | refine resP_id ?_ | refine callT_of ?_); conv => { arg 1; simp (disch := first | assumption | omega) only [push_cast, ↓reduceIte, reduceIte, Nat.reduceEqDiff, Nat.reduceAdd, Nat.reduceSub, Nat.reduceMul, Nat.reduceBEq, Int.reduceNeg, hf, zv, sl85, slArr_all] }; first | ((with_reducible refine optP_id ?_); refine optP_some ?_) | ((with_reducible refine resP_id ?_); refine resP_two ?_) | ((with_reducible refine callT_to ?_); first | refine callP_plain ?_ | refine callP_yield ?_ | (refine callP_func ?_; conv => { arg 3; simp only [push_cast] })))
    | refine wk_seq ?_ | refine wk_region ?_ | refine wk_block ?_ | refine wk_inBlock ?_ | refine wk_draw (by kernel_rfl) (by decide +kernel) ?_ | refine wk_drawn [(1, 3)] (by kernel_rfl) (by decide +kernel) ?_ | refine wo_nil ?_ | refine wk_exit ?_ | refine exitK_code ?_ | refine exitK_hit ?_ | refine exitK_miss rfl ?_ | refine exitK_inLoop ?_ | refine wk_ret ?_ | refine wk_nil ?_ | refine wo_dst rfl (opR_call ?_) | refine wo_nodst (opR_call ?_) | refine wo_dst rfl (opR_pure ?_) | refine wo_nodst (opR_pure ?_)
    | refine wd_dst rfl (opR_call ?_) | refine wd_nodst (opR_call ?_) | refine wd_dst rfl (opR_pick ?_) | refine wd_guard rfl rfl ?_ | refine wd_guardn rfl ?_ | refine wd_dst rfl (opR_pure ?_) | refine wd_nodst (opR_pure ?_) | refine opR_call ?_ | refine opR_pick ?_ | refine opR_pure ?_ | (refine wd_nil ?_; refine doneD rfl rfl ?_ ?_) | refine again_nil | refine again_cons ?_ ?_ | refine again_plain rfl rfl rfl ?_ | refine again_guard rfl rfl rfl rfl ?_ | exact same_undef | exact same_of rfl rfl | refine give_ret ?_ | refine give_end ?_)
  refine (back8_w _ _ _ _).mono ?_
  rintro _ h3 ⟨rfl, n3, q3, g3⟩
  have k3 := g3.2
  simp only [next_new] at n3 q3 k3
  repeat' (first
    | ((with_reducible first | refine optP_id ?_ | refine resP_id ?_ | refine callT_of ?_); conv => { arg 1; simp (disch := first | assumption | omega) only [push_cast, ↓reduceIte, reduceIte, Nat.reduceEqDiff, Nat.reduceAdd, Nat.reduceSub, Nat.reduceMul, Nat.reduceBEq, Int.reduceNeg, k3] }; first | ((with_reducible refine optP_id ?_); refine optP_some ?_) | ((with_reducible refine resP_id ?_); refine resP_two ?_) | ((with_reducible refine callT_to ?_); first | refine callP_plain ?_ | refine callP_yield ?_ | (refine callP_func ?_; conv => { arg 3; simp only [push_cast] })))
    | refine wk_seq ?_ | refine wk_region ?_ | refine wk_block ?_ | refine wk_inBlock ?_ | refine wk_draw (by kernel_rfl) (by decide +kernel) ?_ | refine wk_drawn [(1, 3)] (by kernel_rfl) (by decide +kernel) ?_ | refine wo_nil ?_ | refine wk_exit ?_ | refine exitK_code ?_ | refine exitK_hit ?_ | refine exitK_miss rfl ?_ | refine exitK_inLoop ?_ | refine wk_ret ?_ | refine wk_nil ?_ | refine wo_dst rfl (opR_call ?_) | refine wo_nodst (opR_call ?_) | refine wo_dst rfl (opR_pure ?_) | refine wo_nodst (opR_pure ?_)
    | refine wd_dst rfl (opR_call ?_) | refine wd_nodst (opR_call ?_) | refine wd_dst rfl (opR_pick ?_) | refine wd_guard rfl rfl ?_ | refine wd_guardn rfl ?_ | refine wd_dst rfl (opR_pure ?_) | refine wd_nodst (opR_pure ?_) | refine opR_call ?_ | refine opR_pick ?_ | refine opR_pure ?_ | (refine wd_nil ?_; refine doneD rfl rfl ?_ ?_) | refine again_nil | refine again_cons ?_ ?_ | refine again_plain rfl rfl rfl ?_ | refine again_guard rfl rfl rfl rfl ?_ | exact same_undef | exact same_of rfl rfl | refine give_ret ?_ | refine give_end ?_)
  have c0 : h3.get h.next = some (.cells C 87 true) := by rw [k3 _ (by omega)]; simp (disch := first | assumption | omega) only [push_cast, ↓reduceIte, reduceIte, Nat.reduceEqDiff, Nat.reduceAdd, Nat.reduceSub, Nat.reduceMul, Nat.reduceBEq, Int.reduceNeg]
  have c1 : h3.get (h.next + 1) = some (.cells [.int .i64 (n : Int)] 3 true) := by rw [k3 _ (by omega)]; simp (disch := first | assumption | omega) only [push_cast, ↓reduceIte, reduceIte, Nat.reduceEqDiff, Nat.reduceAdd, Nat.reduceSub, Nat.reduceMul, Nat.reduceBEq, Int.reduceNeg]
  have c2 : h3.get (h.next + 1 + 1) = some (.cells Z 87 true) := by rw [k3 _ (by omega)]; simp (disch := first | assumption | omega) only [push_cast, ↓reduceIte, reduceIte, Nat.reduceEqDiff, Nat.reduceAdd, Nat.reduceSub, Nat.reduceMul, Nat.reduceBEq, Int.reduceNeg]
  have c3 : h3.get (h.next + 1 + 1 + 1) = some (.cells [.int .i64 0] 3 true) := by rw [k3 _ (by omega)]; simp (disch := first | assumption | omega) only [push_cast, ↓reduceIte, reduceIte, Nat.reduceEqDiff, Nat.reduceAdd, Nat.reduceSub, Nat.reduceMul, Nat.reduceBEq, Int.reduceNeg]
  have gA : Gr h h3 := ⟨by omega, fun b hb => by rw [k3 _ (by omega)]; simp (disch := first | assumption | omega) only [push_cast, ↓reduceIte, reduceIte, Nat.reduceEqDiff, Nat.reduceAdd, Nat.reduceSub, Nat.reduceMul, Nat.reduceBEq, Int.reduceNeg]⟩
  refine wk_rangeL rfl ?_
  intro L H lp nH oH dH lH
  conv => { arg 2; simp (disch := first | assumption | omega) only [push_cast, ↓reduceIte, reduceIte, Nat.reduceEqDiff, Nat.reduceAdd, Nat.reduceSub, Nat.reduceMul, Nat.reduceBEq, Int.reduceNeg] }
  refine callP_func ?_
  conv => { arg 3; simp only [push_cast] }
  have tz : X / 60 ^ 146 = 0 := Nat.div_eq_of_lt hX
  refine (iter8_w (e := 87) (usL X 146) (h3.next + 1) (h.next + 1 + 1 + 1 + 1) (.slice (some ⟨h.next, 0, none⟩) 146 (EX + 146)) H (by omega)
    (fun j H' => H.next ≤ H'.next ∧ (∀ b, b < H.next → b ≠ h3.next + 1 → b ≠ h.next + 1 + 1 → b ≠ h.next + 1 + 1 + 1 → H'.get b = H.get b) ∧ L H' .ready none ∧ H'.get (h.next + 1 + 1) = some (.cells (ints .u8 (numD (X / 60 ^ j / n * 60 ^ j))) 87 true) ∧ H'.get (h.next + 1 + 1 + 1) = some (.cells [.int .i64 ((X / 60 ^ j % n : Nat) : Int)] 3 true))
    (fun H' => False)
    ⟨Nat.le_refl _, fun _ _ _ _ _ => rfl, lH, by rw [hul, tz, Nat.zero_div, Nat.zero_mul, hZ, oH _ (by omega)]; exact c2, by rw [hul, tz, Nat.zero_mod, oH _ (by omega)]; exact c3⟩ ?_ ?_).mono ?_
  · rintro j H' ⟨p1, p2, p3, p4, p5⟩
    refine ⟨by omega, by rw [p2 _ (by omega) (by omega) (by omega) (by omega), oH _ (by omega)]; exact q3, usL_in (Nat.le_refl _) (by rw [capLo_ex]; exact Nat.le_refl _) (by omega) (by rw [hC, p2 _ (by omega) (by omega) (by omega) (by omega), oH _ (by omega)]; exact c0)⟩
  · rintro j hj H' ⟨p1, p2, p3, p4, p5⟩
    rw [hul] at hj
    rw [usL_get]
    have hup := dig_up X j
    have hd : X / 60 ^ j % 60 < 60 := Nat.mod_lt _ (by decide)
    generalize X / 60 ^ j % 60 = d at *
    generalize X / 60 ^ (j + 1) = Y at *
    generalize X / 60 ^ j = Z' at *
    subst hup
    obtain ⟨s1, s2, s3⟩ := div_step Y d n (by omega) hd
    have hr : Y % n < n := Nat.mod_lt _ (by omega)
    have hq60 : (Y % n * 60 + d) / n < 60 := by rw [s1]; exact Nat.mod_lt _ (by decide)
    have o1 : over (ints .u8 (numD (Y / n * 60 ^ (j + 1)))) j [.int .u8 (((Y % n * 60 + d) / n : Nat) : Int)] = some (ints .u8 (numD ((Y * 60 + d) / n * 60 ^ j))) := by
      rw [s3, ← s1, num_div hq60 hj]
      exact ints_over .u8 _ (by rw [numD_len]; omega)
    rw [← s2]
    have eR : ((Y % n : Nat) : Int) * 60 + (d : Int) = ((Y % n * 60 + d : Nat) : Int) := by omega
    have hR : Y % n * 60 + d < 6000 := by omega
    generalize Y % n * 60 + d = R at *
    generalize Y % n = r0 at *
    have n0 : ¬ (n : Int) = 0 := by omega
    have eQ : (R : Int) / (n : Int) = ((R / n : Nat) : Int) := rfl
    have eM : (R : Int) % (n : Int) = ((R % n : Nat) : Int) := rfl
    have hRn : R % n < n := Nat.mod_lt _ (by omega)
    generalize R / n = q at *
    generalize R % n = m at *
    generalize ints .u8 (numD (Y / n * 60 ^ (j + 1))) = C1 at *
    generalize hC' : ints .u8 (numD ((Y * 60 + d) / n * 60 ^ j)) = C' at *
    refine lp.yield p3 rfl rfl ?_
    rw [putLs2]
    repeat' (first
    | ((with_reducible first | refine optP_id ?_ | refine resP_id ?_ | refine callT_of ?_); conv => { arg 1; simp (disch := first | assumption | omega) only [push_cast, ↓reduceIte, reduceIte, Nat.reduceEqDiff, Nat.reduceAdd, Nat.reduceSub, Nat.reduceMul, Nat.reduceBEq, Int.reduceNeg] }; first | ((with_reducible refine optP_id ?_); refine optP_some ?_) | ((with_reducible refine resP_id ?_); refine resP_two ?_) | ((with_reducible refine callT_to ?_); first | refine callP_plain ?_ | refine callP_yield ?_ | (refine callP_func ?_; conv => { arg 3; simp only [push_cast] })))
    | refine wk_seq ?_ | refine wk_region ?_ | refine wk_block ?_ | refine wk_inBlock ?_ | refine wk_draw (by kernel_rfl) (by decide +kernel) ?_ | refine wk_drawn [(1, 3)] (by kernel_rfl) (by decide +kernel) ?_ | refine wo_nil ?_ | refine wk_exit ?_ | refine exitK_code ?_ | refine exitK_hit ?_ | refine exitK_miss rfl ?_ | refine exitK_inLoop ?_ | refine wk_ret ?_ | refine wk_nil ?_ | refine wo_dst rfl (opR_call ?_) | refine wo_nodst (opR_call ?_) | refine wo_dst rfl (opR_pure ?_) | refine wo_nodst (opR_pure ?_)
    | refine wd_dst rfl (opR_call ?_) | refine wd_nodst (opR_call ?_) | refine wd_dst rfl (opR_pick ?_) | refine wd_guard rfl rfl ?_ | refine wd_guardn rfl ?_ | refine wd_dst rfl (opR_pure ?_) | refine wd_nodst (opR_pure ?_) | refine opR_call ?_ | refine opR_pick ?_ | refine opR_pure ?_ | (refine wd_nil ?_; refine doneD rfl rfl ?_ ?_) | refine again_nil | refine again_cons ?_ ?_ | refine again_plain rfl rfl rfl ?_ | refine again_guard rfl rfl rfl rfl ?_ | exact same_undef | exact same_of rfl rfl | refine give_ret ?_ | refine give_end ?_)
    refine lp.start rfl p3 ?_
    intro H2 m1 m2 m3
    have d1 : H2.get (h.next + 1) = some (.cells [.int .i64 (n : Int)] 3 true) := by rw [m2 _ (by omega), p2 _ (by omega) (by omega) (by omega) (by omega), oH _ (by omega)]; exact c1
    have d2 : H2.get (h.next + 1 + 1) = some (.cells C1 87 true) := by rw [m2 _ (by omega)]; exact p4
    have d3 : H2.get (h.next + 1 + 1 + 1) = some (.cells [.int .i64 (r0 : Int)] 3 true) := by rw [m2 _ (by omega)]; exact p5
    repeat' (first
    | ((with_reducible first | refine optP_id ?_ | refine resP_id ?_ | refine callT_of ?_); conv => { arg 1; simp (disch := first | assumption | omega) only [push_cast, ↓reduceIte, reduceIte, Nat.reduceEqDiff, Nat.reduceAdd, Nat.reduceSub, Nat.reduceMul, Nat.reduceBEq, Int.reduceNeg, d1, d2, d3, eR, eQ, eM, o1] }; first | ((with_reducible refine optP_id ?_); refine optP_some ?_) | ((with_reducible refine resP_id ?_); refine resP_two ?_) | ((with_reducible refine callT_to ?_); first | refine callP_plain ?_ | refine callP_yield ?_ | (refine callP_func ?_; conv => { arg 3; simp only [push_cast] })))
    | refine wk_seq ?_ | refine wk_region ?_ | refine wk_block ?_ | refine wk_inBlock ?_ | refine wk_draw (by kernel_rfl) (by decide +kernel) ?_ | refine wk_drawn [(1, 3)] (by kernel_rfl) (by decide +kernel) ?_ | refine wo_nil ?_ | refine wk_exit ?_ | refine exitK_code ?_ | refine exitK_hit ?_ | refine exitK_miss rfl ?_ | refine exitK_inLoop ?_ | refine wk_ret ?_ | refine wk_nil ?_ | refine wo_dst rfl (opR_call ?_) | refine wo_nodst (opR_call ?_) | refine wo_dst rfl (opR_pure ?_) | refine wo_nodst (opR_pure ?_)
    | refine wd_dst rfl (opR_call ?_) | refine wd_nodst (opR_call ?_) | refine wd_dst rfl (opR_pick ?_) | refine wd_guard rfl rfl ?_ | refine wd_guardn rfl ?_ | refine wd_dst rfl (opR_pure ?_) | refine wd_nodst (opR_pure ?_) | refine opR_call ?_ | refine opR_pick ?_ | refine opR_pure ?_ | (refine wd_nil ?_; refine doneD rfl rfl ?_ ?_) | refine again_nil | refine again_cons ?_ ?_ | refine again_plain rfl rfl rfl ?_ | refine again_guard rfl rfl rfl rfl ?_ | exact same_undef | exact same_of rfl rfl | refine give_ret ?_ | refine give_end ?_)
    refine lp.next (lp.of m3 (by simp (disch := first | assumption | omega) only [push_cast, ↓reduceIte, reduceIte, Nat.reduceEqDiff, Nat.reduceAdd, Nat.reduceSub, Nat.reduceMul, Nat.reduceBEq, Int.reduceNeg])) ?_
    intro H3 t1 t2 t3
    simp only [next_set] at t1
    refine .inl ⟨rfl, by omega, fun b hb n1 n4 n5 => ?_, t3, ?_, ?_⟩
    · rw [t2 _ n1]
      simp (disch := first | assumption | omega) only [push_cast, ↓reduceIte, reduceIte, Nat.reduceEqDiff, Nat.reduceAdd, Nat.reduceSub, Nat.reduceMul, Nat.reduceBEq, Int.reduceNeg]
      rw [m2 _ n1, p2 _ hb n1 n4 n5]
    · rw [t2 _ (by omega)]; simp (disch := first | assumption | omega) only [push_cast, ↓reduceIte, reduceIte, Nat.reduceEqDiff, Nat.reduceAdd, Nat.reduceSub, Nat.reduceMul, Nat.reduceBEq, Int.reduceNeg]
    · rw [t2 _ (by omega)]; simp (disch := first | assumption | omega) only [push_cast, ↓reduceIte, reduceIte, Nat.reduceEqDiff, Nat.reduceAdd, Nat.reduceSub, Nat.reduceMul, Nat.reduceBEq, Int.reduceNeg]
  · rintro _ H' (⟨p1, p2, p3, p4, p5⟩ | hF)
    · refine ⟨_, _, by decide, p3, fun H'' t1 t2 => ?_⟩
      rw [todo_none]
      rw [Nat.pow_zero, Nat.div_one, Nat.mul_one] at p4
      rw [Nat.pow_zero, Nat.div_one] at p5
      have e2 : H''.get (h.next + 1 + 1) = some (.cells (ints .u8 (numD (X / n))) 87 true) := by rw [t2 _ (by omega)]; exact p4
      have e3 : H''.get (h.next + 1 + 1 + 1) = some (.cells [.int .i64 ((X % n : Nat) : Int)] 3 true) := by rw [t2 _ (by omega)]; exact p5
      have e6 : H''.get h3.next = some (.deferred (some [])) := by rw [t2 _ (by omega), p2 _ (by omega) (by omega) (by omega) (by omega)]; exact dH
      have gr : Gr h H'' := ⟨by omega, fun b hb => by rw [t2 _ (by omega), p2 _ (by omega) (by omega) (by omega) (by omega), oH _ (by omega), gA.2 b hb]⟩
      have hcut : takeN 146 (ints .u8 (numD (X / n))) = some (ints .u8 (numD (X / n))) := num_cut _
      have hov : over0 (ints .u8 (numD (X / n))) (ints .u8 (numD (X / n))) = some (ints .u8 (numD (X / n))) := over_all rfl
      have hst := storeK_all (num_ne _) (num_len _) (ints_flat _ _) e2 hov
      rw [num_cells]
      generalize ints .u8 (numD (X / n)) = C2 at *
      repeat' (first
    | ((with_reducible first | refine optP_id ?_ | refine resP_id ?_ | refine callT_of ?_); conv => { arg 1; simp (disch := first | assumption | omega) only [push_cast, ↓reduceIte, reduceIte, Nat.reduceEqDiff, Nat.reduceAdd, Nat.reduceSub, Nat.reduceMul, Nat.reduceBEq, Int.reduceNeg, e2, e3, hcut, hst] }; first | ((with_reducible refine optP_id ?_); refine optP_some ?_) | ((with_reducible refine resP_id ?_); refine resP_two ?_) | ((with_reducible refine callT_to ?_); first | refine callP_plain ?_ | refine callP_yield ?_ | (refine callP_func ?_; conv => { arg 3; simp only [push_cast] })))
    | refine wk_seq ?_ | refine wk_region ?_ | refine wk_block ?_ | refine wk_inBlock ?_ | refine wk_draw (by kernel_rfl) (by decide +kernel) ?_ | refine wk_drawn [(1, 3)] (by kernel_rfl) (by decide +kernel) ?_ | refine wo_nil ?_ | refine wk_exit ?_ | refine exitK_code ?_ | refine exitK_hit ?_ | refine exitK_miss rfl ?_ | refine exitK_inLoop ?_ | refine wk_ret ?_ | refine wk_nil ?_ | refine wo_dst rfl (opR_call ?_) | refine wo_nodst (opR_call ?_) | refine wo_dst rfl (opR_pure ?_) | refine wo_nodst (opR_pure ?_)
    | refine wd_dst rfl (opR_call ?_) | refine wd_nodst (opR_call ?_) | refine wd_dst rfl (opR_pick ?_) | refine wd_guard rfl rfl ?_ | refine wd_guardn rfl ?_ | refine wd_dst rfl (opR_pure ?_) | refine wd_nodst (opR_pure ?_) | refine opR_call ?_ | refine opR_pick ?_ | refine opR_pure ?_ | (refine wd_nil ?_; refine doneD rfl rfl ?_ ?_) | refine again_nil | refine again_cons ?_ ?_ | refine again_plain rfl rfl rfl ?_ | refine again_guard rfl rfl rfl rfl ?_ | exact same_undef | exact same_of rfl rfl | refine give_ret ?_ | refine give_end ?_)
      refine give_ret1 (by simp (disch := first | assumption | omega) only [push_cast, ↓reduceIte, reduceIte, Nat.reduceEqDiff, Nat.reduceAdd, Nat.reduceSub, Nat.reduceMul, Nat.reduceBEq, Int.reduceNeg, e6]) ?_
      repeat' (first
    | ((with_reducible first | refine optP_id ?_ | refine resP_id ?_ | refine callT_of ?_); conv => { arg 1; simp (disch := first | assumption | omega) only [push_cast, ↓reduceIte, reduceIte, Nat.reduceEqDiff, Nat.reduceAdd, Nat.reduceSub, Nat.reduceMul, Nat.reduceBEq, Int.reduceNeg, hcut] }; first | ((with_reducible refine optP_id ?_); refine optP_some ?_) | ((with_reducible refine resP_id ?_); refine resP_two ?_) | ((with_reducible refine callT_to ?_); first | refine callP_plain ?_ | refine callP_yield ?_ | (refine callP_func ?_; conv => { arg 3; simp only [push_cast] })))
    | refine wk_seq ?_ | refine wk_region ?_ | refine wk_block ?_ | refine wk_inBlock ?_ | refine wk_draw (by kernel_rfl) (by decide +kernel) ?_ | refine wk_drawn [(1, 3)] (by kernel_rfl) (by decide +kernel) ?_ | refine wo_nil ?_ | refine wk_exit ?_ | refine exitK_code ?_ | refine exitK_hit ?_ | refine exitK_miss rfl ?_ | refine exitK_inLoop ?_ | refine wk_ret ?_ | refine wk_nil ?_ | refine wo_dst rfl (opR_call ?_) | refine wo_nodst (opR_call ?_) | refine wo_dst rfl (opR_pure ?_) | refine wo_nodst (opR_pure ?_)
    | refine wd_dst rfl (opR_call ?_) | refine wd_nodst (opR_call ?_) | refine wd_dst rfl (opR_pick ?_) | refine wd_guard rfl rfl ?_ | refine wd_guardn rfl ?_ | refine wd_dst rfl (opR_pure ?_) | refine wd_nodst (opR_pure ?_) | refine opR_call ?_ | refine opR_pick ?_ | refine opR_pure ?_ | (refine wd_nil ?_; refine doneD rfl rfl ?_ ?_) | refine again_nil | refine again_cons ?_ ?_ | refine again_plain rfl rfl rfl ?_ | refine again_guard rfl rfl rfl rfl ?_ | exact same_undef | exact same_of rfl rfl | refine give_ret ?_ | refine give_end ?_)
      exact ⟨rfl, by (repeat (first | exact Gr.refl _ | assumption | (refine Gr.trans ?_ (by assumption)) | refine Gr.set ?_ (by first | exact Nat.le_refl _ | omega | (simp only [next_new, next_set]; omega)) _ | refine Gr.new ?_ _))⟩
    · exact hF.elim
end Go.Proofs.YtelepfablohdmaaGreatDoor
/- Contracts: multiply of bytes by integers, multiple, scaled. -/
namespace Go.Proofs.YtelepfablohdmaaGreatDoor
open Go.Ev
set_option maxRecDepth 100000 in
set_option maxHeartbeats 8000000 in
theorem muli_w {e1 : Nat} (ua ub : List Int) (ha : digs ua) (hb : digs ub) (la : ua.length ≤ 200) (lb : ub.length ≤ 200) (va vb : Value) (h : AHeap) (hva : SlIn encB 1 e1 h va ua) (hvb : IIn h vb ub) :
    Wc pr (.func 143) [va, vb] h fun r h' => (∃ L b, r = .slice (ownB L b) L.length L.length ∧ digs L ∧ leN L = leN ua * leN ub ∧ L.length ≤ ua.length + ub.length ∧ (L ≠ [] → b < h'.next ∧ h'.get b = some (.cells (flatE encB L) 5 true))) ∧ Gr h h' := by
  obtain ⟨aa, ca, rfl, _, _⟩ := id hva
  obtain ⟨ab, cb, rfl, _, hv⟩ := id hvb
  refine wc_func Tryz.func143 rfl rfl rfl rfl ?_
  repeat' (first
    | ((with_reducible first | refine optP_id ?_ | refine condP_id ?_ | refine resP_id ?_ | refine callT_of ?_); conv => { arg 1; simp (disch := first | assumption | omega) only [push_cast, ↓reduceIte, reduceIte, Nat.reduceEqDiff, Nat.reduceAdd, Nat.reduceSub, Nat.reduceMul, Nat.reduceBEq, Int.reduceNeg] }; first | ((with_reducible refine optP_id ?_); refine optP_some ?_) | ((with_reducible refine condP_id ?_); first | refine qcy ?_ | refine qcx ?_ | refine qco ?_ | refine condP_decn (fun hc => ?_) (fun hc => ?_) | refine condP_dec (fun hc => ?_) (fun hc => ?_) | refine qct ?_ | refine qcf ?_ | refine condP_bool (fun hc => ?_) (fun hc => ?_)) | ((with_reducible refine resP_id ?_); refine resP_one ?_) | ((with_reducible refine callT_to ?_); refine callP_plain ?_))
    | refine wk_seq ?_ | refine wk_region ?_ | refine wk_block ?_ | refine wk_inBlock ?_ | refine wk_skip ?_ | refine wo_nil ?_ | refine wk_exit ?_ | refine exitK_code ?_ | refine exitK_hit ?_ | refine exitK_miss rfl ?_ | refine exitK_inLoop ?_ | refine wk_cond ?_ | refine wk_ret ?_ | refine wk_nil ?_ | refine wo_dst rfl (opR_call ?_) | refine wo_nodst (opR_call ?_) | refine wo_dst rfl (opR_pure ?_) | refine wo_nodst (opR_pure ?_)
    | refine give_ret ?_ | refine give_end ?_)
  refine wk_loop (fun n E H => ∃ (i b : Nat) (L : List Int), n = ub.length - i ∧ i ≤ ub.length ∧ digs L ∧ leN L = leN ua * leN (ub.take i) ∧ L.length ≤ ua.length + i ∧ OwnB [] 0 h.next H L b ∧ Gr h H ∧ E.look 0 top = .slice aa ua.length ca ∧ E.look 5 top = .slice (ownB L b) L.length L.length ∧ E.look 8 top = .slice ab ub.length cb ∧ E.look 9 top = .int .i64 (ub.length : Int) ∧ E.look 10 top = .int .i64 (i : Int)) ub.length
    ⟨0, 0, [], by omega, by omega, digs_nil, by simp [leN], by simp, fun hn => absurd rfl hn, by (repeat (first | exact Gr.refl _ | assumption | (refine Gr.trans ?_ (by assumption)) | refine Gr.set ?_ (by first | exact Nat.le_refl _ | omega | (simp only [next_new, next_set]; omega)) _ | refine Gr.new ?_ _)), by simp (disch := first | assumption | omega) only [push_cast, ↓reduceIte, reduceIte, Nat.reduceEqDiff, Nat.reduceAdd, Nat.reduceSub, Nat.reduceMul, Nat.reduceBEq, Int.reduceNeg], by simp (disch := first | assumption | omega) only [push_cast, ↓reduceIte, reduceIte, Nat.reduceEqDiff, Nat.reduceAdd, Nat.reduceSub, Nat.reduceMul, Nat.reduceBEq, Int.reduceNeg, ownB_nil, List.length_nil], by simp (disch := first | assumption | omega) only [push_cast, ↓reduceIte, reduceIte, Nat.reduceEqDiff, Nat.reduceAdd, Nat.reduceSub, Nat.reduceMul, Nat.reduceBEq, Int.reduceNeg], by simp (disch := first | assumption | omega) only [push_cast, ↓reduceIte, reduceIte, Nat.reduceEqDiff, Nat.reduceAdd, Nat.reduceSub, Nat.reduceMul, Nat.reduceBEq, Int.reduceNeg], by simp (disch := first | assumption | omega) only [push_cast, ↓reduceIte, reduceIte, Nat.reduceEqDiff, Nat.reduceAdd, Nat.reduceSub, Nat.reduceMul, Nat.reduceBEq, Int.reduceNeg, Int.natCast_zero]⟩ ?_
  rintro n E H ⟨i, b, L, rfl, hi, hL, hLv, hLl, hown, gr, e0, e5, e8, e9, e10⟩ next
  by_cases hlt : i < ub.length
  · have ilt : (i : Int) < (ub.length : Int) := by omega
    obtain ⟨bu, offu, allu, rwu, hab, hbu, hgu, htu⟩ := hv (by intro h; rw [h] at hlt; exact absurd hlt (Nat.not_lt_zero _))
    have hguH : H.get bu = some (.cells allu 3 rwu) := by rw [gr.2 bu hbu]; exact hgu
    have h1 := at_cut1 _ _ _ (htu i hlt)
    rw [Nat.mul_one] at h1
    have e8' : E.look 8 top = .slice (some ⟨bu, offu, none⟩) ub.length cb := by rw [e8, hab]
    have hd := hb _ (List.getElem_mem hlt)
    have ht := leN_take hlt
    obtain ⟨d, hde⟩ : ∃ d : Nat, ub[i] = (d : Int) := ⟨ub[i].toNat, by omega⟩
    rw [hde, Int.toNat_natCast] at ht
    rw [hde] at h1 hd
    have gn := gr.1
    repeat' (first
    | ((with_reducible first | refine optP_id ?_ | refine condP_id ?_ | refine resP_id ?_ | refine callT_of ?_); conv => { arg 1; simp (disch := first | assumption | omega) only [push_cast, ↓reduceIte, reduceIte, Nat.reduceEqDiff, Nat.reduceAdd, Nat.reduceSub, Nat.reduceMul, Nat.reduceBEq, Int.reduceNeg, e0, e5, e8', e9, e10, hguH, h1, Nat.mul_one] }; first | ((with_reducible refine optP_id ?_); refine optP_some ?_) | ((with_reducible refine condP_id ?_); first | refine qcy ?_ | refine qcx ?_ | refine qco ?_ | refine condP_decn (fun hc => ?_) (fun hc => ?_) | refine condP_dec (fun hc => ?_) (fun hc => ?_) | refine qct ?_ | refine qcf ?_ | refine condP_bool (fun hc => ?_) (fun hc => ?_)) | ((with_reducible refine resP_id ?_); refine resP_one ?_) | ((with_reducible refine callT_to ?_); refine callP_plain ?_))
    | refine wk_seq ?_ | refine wk_region ?_ | refine wk_block ?_ | refine wk_inBlock ?_ | refine wk_skip ?_ | refine wo_nil ?_ | refine wk_exit ?_ | refine exitK_code ?_ | refine exitK_hit ?_ | refine exitK_miss rfl ?_ | refine exitK_inLoop ?_ | refine wk_cond ?_ | refine wk_ret ?_ | refine wk_nil ?_ | refine wo_dst rfl (opR_call ?_) | refine wo_nodst (opR_call ?_) | refine wo_dst rfl (opR_pure ?_) | refine wo_nodst (opR_pure ?_)
    | refine give_ret ?_ | refine give_end ?_)
    refine (add_w (e := e1) L ua d i b hL ha (by omega) (by omega) (by omega) (by omega) _ H (fun hn => ⟨(hown hn).1, (hown hn).2.1⟩) (fun H' fr => SlIn.gr hva ⟨by have := fr.1; omega, fun c hc => by
      rw [fr.2 c (by omega) (fun hn => by
        rcases (hown hn).2.2 with q | ⟨q, _⟩
        · omega
        · exact absurd rfl q), gr.2 c hc]⟩)).mono ?_
    rintro _ H2 ⟨⟨L2, b2, rfl, k1, k2, k3, k4, k5⟩, fr⟩
    have fn := fr.1
    repeat' (first
    | ((with_reducible first | refine optP_id ?_ | refine condP_id ?_ | refine resP_id ?_ | refine callT_of ?_); conv => { arg 1; simp (disch := first | assumption | omega) only [push_cast, ↓reduceIte, reduceIte, Nat.reduceEqDiff, Nat.reduceAdd, Nat.reduceSub, Nat.reduceMul, Nat.reduceBEq, Int.reduceNeg, e0, e5, e8', e9, e10] }; first | ((with_reducible refine optP_id ?_); refine optP_some ?_) | ((with_reducible refine condP_id ?_); first | refine qcy ?_ | refine qcx ?_ | refine qco ?_ | refine condP_decn (fun hc => ?_) (fun hc => ?_) | refine condP_dec (fun hc => ?_) (fun hc => ?_) | refine qct ?_ | refine qcf ?_ | refine condP_bool (fun hc => ?_) (fun hc => ?_)) | ((with_reducible refine resP_id ?_); refine resP_one ?_) | ((with_reducible refine callT_to ?_); refine callP_plain ?_))
    | refine wk_seq ?_ | refine wk_region ?_ | refine wk_block ?_ | refine wk_inBlock ?_ | refine wk_skip ?_ | refine wo_nil ?_ | refine wk_exit ?_ | refine exitK_code ?_ | refine exitK_hit ?_ | refine exitK_miss rfl ?_ | refine exitK_inLoop ?_ | refine wk_cond ?_ | refine wk_ret ?_ | refine wk_nil ?_ | refine wo_dst rfl (opR_call ?_) | refine wo_nodst (opR_call ?_) | refine wo_dst rfl (opR_pure ?_) | refine wo_nodst (opR_pure ?_)
    | refine give_ret ?_ | refine give_end ?_)
    refine next (ub.length - (i + 1)) _ _ (by omega) ⟨i + 1, b2, L2, rfl, by omega, k1, ?_, by omega, fun hn => ?_, ⟨by omega, fun c hc => ?_⟩, by simp (disch := first | assumption | omega) only [push_cast, ↓reduceIte, reduceIte, Nat.reduceEqDiff, Nat.reduceAdd, Nat.reduceSub, Nat.reduceMul, Nat.reduceBEq, Int.reduceNeg, e0], by simp (disch := first | assumption | omega) only [push_cast, ↓reduceIte, reduceIte, Nat.reduceEqDiff, Nat.reduceAdd, Nat.reduceSub, Nat.reduceMul, Nat.reduceBEq, Int.reduceNeg], by simp (disch := first | assumption | omega) only [push_cast, ↓reduceIte, reduceIte, Nat.reduceEqDiff, Nat.reduceAdd, Nat.reduceSub, Nat.reduceMul, Nat.reduceBEq, Int.reduceNeg, e8], by simp (disch := first | assumption | omega) only [push_cast, ↓reduceIte, reduceIte, Nat.reduceEqDiff, Nat.reduceAdd, Nat.reduceSub, Nat.reduceMul, Nat.reduceBEq, Int.reduceNeg, e9], by simp (disch := first | assumption | omega) only [push_cast, ↓reduceIte, reduceIte, Nat.reduceEqDiff, Nat.reduceAdd, Nat.reduceSub, Nat.reduceMul, Nat.reduceBEq, Int.reduceNeg, Int.natCast_add, Int.natCast_one]⟩
    · rw [k2, ht, hLv]
      generalize leN ua = A
      generalize leN (ub.take i) = B
      generalize 60 ^ i = C
      grind
    · obtain ⟨q1, q2, q3⟩ := k5 hn
      refine ⟨q1, q2, .inl ?_⟩
      rcases q3 with q | ⟨q, q4⟩
      · omega
      · rcases (hown q).2.2 with q | ⟨q, _⟩
        · omega
        · exact absurd rfl q
    · rw [fr.2 c (by omega) (fun hn => by
        rcases (hown hn).2.2 with q | ⟨q, _⟩
        · omega
        · exact absurd rfl q), gr.2 c hc]
  · have ilt : ¬ (i : Int) < (ub.length : Int) := by omega
    repeat' (first
    | ((with_reducible first | refine optP_id ?_ | refine condP_id ?_ | refine resP_id ?_ | refine callT_of ?_); conv => { arg 1; simp (disch := first | assumption | omega) only [push_cast, ↓reduceIte, reduceIte, Nat.reduceEqDiff, Nat.reduceAdd, Nat.reduceSub, Nat.reduceMul, Nat.reduceBEq, Int.reduceNeg, e0, e5, e8, e9, e10] }; first | ((with_reducible refine optP_id ?_); refine optP_some ?_) | ((with_reducible refine condP_id ?_); first | refine qcy ?_ | refine qcx ?_ | refine qco ?_ | refine condP_decn (fun hc => ?_) (fun hc => ?_) | refine condP_dec (fun hc => ?_) (fun hc => ?_) | refine qct ?_ | refine qcf ?_ | refine condP_bool (fun hc => ?_) (fun hc => ?_)) | ((with_reducible refine resP_id ?_); refine resP_one ?_) | ((with_reducible refine callT_to ?_); refine callP_plain ?_))
    | refine wk_seq ?_ | refine wk_region ?_ | refine wk_block ?_ | refine wk_inBlock ?_ | refine wk_skip ?_ | refine wo_nil ?_ | refine wk_exit ?_ | refine exitK_code ?_ | refine exitK_hit ?_ | refine exitK_miss rfl ?_ | refine exitK_inLoop ?_ | refine wk_cond ?_ | refine wk_ret ?_ | refine wk_nil ?_ | refine wo_dst rfl (opR_call ?_) | refine wo_nodst (opR_call ?_) | refine wo_dst rfl (opR_pure ?_) | refine wo_nodst (opR_pure ?_)
    | refine give_ret ?_ | refine give_end ?_)
    rw [List.take_of_length_le (by omega)] at hLv
    exact ⟨⟨L, b, rfl, hL, hLv, by omega, fun hn => ⟨(hown hn).1, (hown hn).2.1⟩⟩, gr⟩
theorem onei_in {H : AHeap} {b : Nat} {x : Int} (hb : b < H.next) (hg : H.get b = some (.cells [.int .i64 x] 3 true)) : IIn H (.slice (some ⟨b, 0, none⟩) 1 (EX + 1)) [x] :=
  own_in (l := [x]) (b := b) (c := EX + 1) encI_len (by rw [capLo_ex]; exact Nat.le_refl _) (fun _ => hb) (fun _ => ⟨true, hg⟩)
set_option maxRecDepth 100000 in
set_option maxHeartbeats 8000000 in
theorem multiple_w (X n : Nat) (hX : X < 60 ^ 145) (hn : n ≤ 59) (h : AHeap) :
    Wc pr (.func 124) [numV X, .int .i64 (n : Int)] h fun r h' => r = numV (X * n) ∧ Gr h h' := by
  have hX146 : X < 60 ^ 146 := Nat.lt_of_lt_of_le hX (Nat.pow_le_pow_right (by decide) (by omega))
  have wx := fun H => used_w X H
  rw [num_cells] at wx
  rw [num_cells X]
  have hcx : takeN 146 (ints .u8 (numD X)) = some (ints .u8 (numD X)) := num_cut X
  have hfx := ints_flat .u8 (numD X)
  refine wc_func Tryz.func124 rfl rfl rfl rfl ?_
  generalize hZ : ints .u8 (numD 0) = Z
  have zv : zeroV Tryz.prog 87 = some (.agg Z.toArray) := by rw [← hZ]; exact zv87
  generalize hCX : ints .u8 (numD X) = CX at *
  repeat' (first
    | ((with_reducible first | refine optP_id ?_ | refine resP_id ?_ | refine callT_of ?_); conv => { arg 1; simp (disch := first | assumption | omega) only [push_cast, ↓reduceIte, reduceIte, Nat.reduceEqDiff, Nat.reduceAdd, Nat.reduceSub, Nat.reduceMul, Nat.reduceBEq, Int.reduceNeg, hfx, hcx, zv] }; first | ((with_reducible refine optP_id ?_); refine optP_some ?_) | ((with_reducible refine resP_id ?_); refine resP_one ?_) | ((with_reducible refine callT_to ?_); refine callP_plain ?_))
    | refine wk_seq ?_ | refine wk_region ?_ | refine wo_nil ?_ | refine wk_ret ?_ | refine wk_nil ?_ | refine wo_dst rfl (opR_call ?_) | refine wo_nodst (opR_call ?_) | refine wo_dst rfl (opR_pure ?_) | refine wo_nodst (opR_pure ?_)
    | refine give_ret ?_ | refine give_end ?_)
  refine (wx _).mono ?_
  rintro _ h1 ⟨⟨b1, kx, rfl, hkx, hgx, p1, p2⟩, g1⟩; have n1 := g1.1; have k1 := g1.2; try simp only [next_new, next_set] at n1 k1
  simp only [next_new] at p1
  repeat' (first
    | ((with_reducible first | refine optP_id ?_ | refine resP_id ?_ | refine callT_of ?_); conv => { arg 1; simp (disch := first | assumption | omega) only [push_cast, ↓reduceIte, reduceIte, Nat.reduceEqDiff, Nat.reduceAdd, Nat.reduceSub, Nat.reduceMul, Nat.reduceBEq, Int.reduceNeg, k1] }; first | ((with_reducible refine optP_id ?_); refine optP_some ?_) | ((with_reducible refine resP_id ?_); refine resP_one ?_) | ((with_reducible refine callT_to ?_); refine callP_plain ?_))
    | refine wk_seq ?_ | refine wk_region ?_ | refine wo_nil ?_ | refine wk_ret ?_ | refine wk_nil ?_ | refine wo_dst rfl (opR_call ?_) | refine wo_nodst (opR_call ?_) | refine wo_dst rfl (opR_pure ?_) | refine wo_nodst (opR_pure ?_)
    | refine give_ret ?_ | refine give_end ?_)
  have lkx := digsN_le hkx hX
  have inx : SlIn encB 1 87 (h1.new (.cells [.int .i64 (n : Int)] 3 true)) (.slice (some ⟨b1, 0, none⟩) kx (EX + 146)) (usL X kx) := usL_in hkx.1 (by rw [capLo_ex]; exact hkx.1) (by simp only [next_new]; omega) (by rw [hCX]; simp (disch := first | assumption | omega) only [push_cast, ↓reduceIte, reduceIte, Nat.reduceEqDiff, Nat.reduceAdd, Nat.reduceSub, Nat.reduceMul, Nat.reduceBEq, Int.reduceNeg]; exact hgx)
  have inn : IIn (h1.new (.cells [.int .i64 (n : Int)] 3 true)) (.slice (some ⟨h1.next, 0, none⟩) 1 (EX + 1)) [(n : Int)] := onei_in (by simp only [next_new]; omega) (by simp (disch := first | assumption | omega) only [push_cast, ↓reduceIte, reduceIte, Nat.reduceEqDiff, Nat.reduceAdd, Nat.reduceSub, Nat.reduceMul, Nat.reduceBEq, Int.reduceNeg])
  refine (muli_w (usL X kx) [(n : Int)] (usL_digs hkx.1) (fun x hx => by rw [List.mem_singleton.1 hx]; omega) (by rw [usL_len hkx.1]; omega) (by simp) _ _ _ inx inn).mono ?_
  rintro _ h3 ⟨⟨L, bl, rfl, d1, d2, d3, d4⟩, g3⟩; have n3 := g3.1; have k3 := g3.2; try simp only [next_new, next_set] at n3 k3
  rw [usL_len hkx.1, List.length_singleton] at d3
  have hl1 : leN [(n : Int)] = n := by simp [leN]
  rw [usL_eq hkx.1 (digsN_lt hX146 hkx), hl1] at d2
  repeat' (first
    | ((with_reducible first | refine optP_id ?_ | refine resP_id ?_ | refine callT_of ?_); conv => { arg 1; simp (disch := first | assumption | omega) only [push_cast, ↓reduceIte, reduceIte, Nat.reduceEqDiff, Nat.reduceAdd, Nat.reduceSub, Nat.reduceMul, Nat.reduceBEq, Int.reduceNeg, k1, k3] }; first | ((with_reducible refine optP_id ?_); refine optP_some ?_) | ((with_reducible refine resP_id ?_); refine resP_one ?_) | ((with_reducible refine callT_to ?_); refine callP_plain ?_))
    | refine wk_seq ?_ | refine wk_region ?_ | refine wo_nil ?_ | refine wk_ret ?_ | refine wk_nil ?_ | refine wo_dst rfl (opR_call ?_) | refine wo_nodst (opR_call ?_) | refine wo_dst rfl (opR_pure ?_) | refine wo_nodst (opR_pure ?_)
    | refine give_ret ?_ | refine give_end ?_)
  refine (held_w (e := 5) L d1 (by omega) _ _ (own_in encB_len (by rw [(capLo_small (c := L.length) (by unfold EX; omega)).1]; exact Nat.le_refl _) (fun hn => (d4 hn).1) (fun hn => ⟨true, (d4 hn).2⟩))).mono ?_
  rintro _ h4 ⟨rfl, g4⟩; have n4 := g4.1; have k4 := g4.2; try simp only [next_new, next_set] at n4 k4
  rw [d2, num_cells]
  have e4 : h4.get (h.next + 1) = some (.cells Z 87 true) := by rw [k4 _ (by omega), k3 _ (by omega)]; simp (disch := first | assumption | omega) only [push_cast, ↓reduceIte, reduceIte, Nat.reduceEqDiff, Nat.reduceAdd, Nat.reduceSub, Nat.reduceMul, Nat.reduceBEq, Int.reduceNeg]; rw [k1 _ (by omega)]; simp (disch := first | assumption | omega) only [push_cast, ↓reduceIte, reduceIte, Nat.reduceEqDiff, Nat.reduceAdd, Nat.reduceSub, Nat.reduceMul, Nat.reduceBEq, Int.reduceNeg]
  have hcz : takeN 146 (ints .u8 (numD (X * n))) = some (ints .u8 (numD (X * n))) := num_cut _
  have hov : over0 (ints .u8 (numD (X * n))) Z = some (ints .u8 (numD (X * n))) := over_all (by rw [← hZ, num_len, num_len])
  have hst := storeK_all (num_ne _) (num_len _) (ints_flat _ _) e4 hov
  generalize ints .u8 (numD (X * n)) = CZ at *
  repeat' (first
    | ((with_reducible first | refine optP_id ?_ | refine resP_id ?_ | refine callT_of ?_); conv => { arg 1; simp (disch := first | assumption | omega) only [push_cast, ↓reduceIte, reduceIte, Nat.reduceEqDiff, Nat.reduceAdd, Nat.reduceSub, Nat.reduceMul, Nat.reduceBEq, Int.reduceNeg, k1, k3, k4, e4, hst, hcz, hcx] }; first | ((with_reducible refine optP_id ?_); refine optP_some ?_) | ((with_reducible refine resP_id ?_); refine resP_one ?_) | ((with_reducible refine callT_to ?_); refine callP_plain ?_))
    | refine wk_seq ?_ | refine wk_region ?_ | refine wo_nil ?_ | refine wk_ret ?_ | refine wk_nil ?_ | refine wo_dst rfl (opR_call ?_) | refine wo_nodst (opR_call ?_) | refine wo_dst rfl (opR_pure ?_) | refine wo_nodst (opR_pure ?_)
    | refine give_ret ?_ | refine give_end ?_)
  exact ⟨rfl, by (repeat (first | exact Gr.refl _ | assumption | (refine Gr.trans ?_ (by assumption)) | refine Gr.set ?_ (by first | exact Nat.le_refl _ | omega | (simp only [next_new, next_set]; omega)) _ | refine Gr.new ?_ _))⟩
set_option maxRecDepth 100000 in
set_option maxHeartbeats 8000000 in
theorem scaled_w (X n t : Nat) (hX : X * n ^ t < 60 ^ 145) (hn : n ≤ 59) (h1n : 1 ≤ n) (ht : t ≤ 1000) (h : AHeap) :
    Wc pr (.func 126) [numV X, .int .i64 (n : Int), .int .i64 (t : Int)] h fun r h' => r = numV (X * n ^ t) ∧ Gr h h' := by
  have wm := fun Y hY H => multiple_w Y n hY hn H
  simp only [num_cells] at wm
  rw [num_cells X]
  have hfx := ints_flat .u8 (numD X)
  refine wc_func Tryz.func126 rfl rfl rfl rfl ?_
  generalize hZ : ints .u8 (numD 0) = Z
  have zv : zeroV Tryz.prog 87 = some (.agg Z.toArray) := by rw [← hZ]; exact zv87
  have hX0 : ints .u8 (numD X) = ints .u8 (numD (X * n ^ 0)) := by rw [Nat.pow_zero, Nat.mul_one]
  rw [hX0]
  rw [hX0] at hfx
  repeat' (first
    | ((with_reducible first | refine optP_id ?_ | refine condP_id ?_ | refine resP_id ?_ | refine callT_of ?_); conv => { arg 1; simp (disch := first | assumption | omega) only [push_cast, ↓reduceIte, reduceIte, Nat.reduceEqDiff, Nat.reduceAdd, Nat.reduceSub, Nat.reduceMul, Nat.reduceBEq, Int.reduceNeg, hfx, zv] }; first | ((with_reducible refine optP_id ?_); refine optP_some ?_) | ((with_reducible refine condP_id ?_); first | refine qcy ?_ | refine qcx ?_ | refine qco ?_ | refine condP_decn (fun hc => ?_) (fun hc => ?_) | refine condP_dec (fun hc => ?_) (fun hc => ?_) | refine qct ?_ | refine qcf ?_ | refine condP_bool (fun hc => ?_) (fun hc => ?_)) | ((with_reducible refine resP_id ?_); refine resP_one ?_) | ((with_reducible refine callT_to ?_); refine callP_plain ?_))
    | refine wk_seq ?_ | refine wk_region ?_ | refine wk_block ?_ | refine wk_inBlock ?_ | refine wk_skip ?_ | refine wo_nil ?_ | refine wk_exit ?_ | refine exitK_code ?_ | refine exitK_hit ?_ | refine exitK_miss rfl ?_ | refine exitK_inLoop ?_ | refine wk_cond ?_ | refine wk_ret ?_ | refine wk_nil ?_ | refine wo_dst rfl (opR_call ?_) | refine wo_nodst (opR_call ?_) | refine wo_dst rfl (opR_pure ?_) | refine wo_nodst (opR_pure ?_)
    | refine give_ret ?_ | refine give_end ?_)
  refine wk_loop (fun m E H => ∃ i : Nat, m = t - i ∧ i ≤ t ∧ Gr h H ∧ h.next + 1 < H.next ∧ H.get h.next = some (.cells (ints .u8 (numD (X * n ^ i))) 87 true) ∧ H.get (h.next + 1) = some (.cells Z 87 true) ∧ E.look 1 top = .int .i64 (n : Int) ∧ E.look 3 top = .pointer (some ⟨h.next, 0, none⟩) ∧ E.look 6 top = .pointer (some ⟨h.next + 1, 0, none⟩) ∧ E.look 7 top = .int .i64 (t : Int) ∧ E.look 8 top = .int .i64 (i : Int)) t
    ⟨0, by omega, by omega, by (repeat (first | exact Gr.refl _ | assumption | (refine Gr.trans ?_ (by assumption)) | refine Gr.set ?_ (by first | exact Nat.le_refl _ | omega | (simp only [next_new, next_set]; omega)) _ | refine Gr.new ?_ _)), by simp only [next_new]; omega, by simp (disch := first | assumption | omega) only [push_cast, ↓reduceIte, reduceIte, Nat.reduceEqDiff, Nat.reduceAdd, Nat.reduceSub, Nat.reduceMul, Nat.reduceBEq, Int.reduceNeg], by simp (disch := first | assumption | omega) only [push_cast, ↓reduceIte, reduceIte, Nat.reduceEqDiff, Nat.reduceAdd, Nat.reduceSub, Nat.reduceMul, Nat.reduceBEq, Int.reduceNeg], by simp (disch := first | assumption | omega) only [push_cast, ↓reduceIte, reduceIte, Nat.reduceEqDiff, Nat.reduceAdd, Nat.reduceSub, Nat.reduceMul, Nat.reduceBEq, Int.reduceNeg], by simp (disch := first | assumption | omega) only [push_cast, ↓reduceIte, reduceIte, Nat.reduceEqDiff, Nat.reduceAdd, Nat.reduceSub, Nat.reduceMul, Nat.reduceBEq, Int.reduceNeg], by simp (disch := first | assumption | omega) only [push_cast, ↓reduceIte, reduceIte, Nat.reduceEqDiff, Nat.reduceAdd, Nat.reduceSub, Nat.reduceMul, Nat.reduceBEq, Int.reduceNeg], by simp (disch := first | assumption | omega) only [push_cast, ↓reduceIte, reduceIte, Nat.reduceEqDiff, Nat.reduceAdd, Nat.reduceSub, Nat.reduceMul, Nat.reduceBEq, Int.reduceNeg], by simp (disch := first | assumption | omega) only [push_cast, ↓reduceIte, reduceIte, Nat.reduceEqDiff, Nat.reduceAdd, Nat.reduceSub, Nat.reduceMul, Nat.reduceBEq, Int.reduceNeg, Int.natCast_zero]⟩ ?_
  rintro m E H ⟨i, rfl, hi, gr, hnx, c0, c1, e1, e3, e6, e7, e8⟩ next
  have hc0 : takeN 146 (ints .u8 (numD (X * n ^ i))) = some (ints .u8 (numD (X * n ^ i))) := num_cut _
  by_cases hlt : i < t
  · have ilt : (i : Int) < (t : Int) := by omega
    have hY : X * n ^ i < 60 ^ 145 := Nat.lt_of_le_of_lt (Nat.mul_le_mul_left _ (Nat.pow_le_pow_right h1n hi)) hX
    have wi := wm _ hY
    have es : X * n ^ i * n = X * n ^ (i + 1) := by rw [Nat.pow_succ, Nat.mul_assoc]
    rw [es] at wi
    have hov : over0 (ints .u8 (numD (X * n ^ (i + 1)))) (ints .u8 (numD (X * n ^ i))) = some (ints .u8 (numD (X * n ^ (i + 1)))) := over_all (by rw [num_len, num_len])
    have hne := num_ne (X * n ^ (i + 1))
    have hnl := num_len (X * n ^ (i + 1))
    have hnf := ints_flat .u8 (numD (X * n ^ (i + 1)))
    generalize ints .u8 (numD (X * n ^ i)) = C at *
    generalize hC' : ints .u8 (numD (X * n ^ (i + 1))) = C' at *
    repeat' (first
    | ((with_reducible first | refine optP_id ?_ | refine condP_id ?_ | refine resP_id ?_ | refine callT_of ?_); conv => { arg 1; simp (disch := first | assumption | omega) only [push_cast, ↓reduceIte, reduceIte, Nat.reduceEqDiff, Nat.reduceAdd, Nat.reduceSub, Nat.reduceMul, Nat.reduceBEq, Int.reduceNeg, e1, e3, e6, e7, e8, c0, hc0] }; first | ((with_reducible refine optP_id ?_); refine optP_some ?_) | ((with_reducible refine condP_id ?_); first | refine qcy ?_ | refine qcx ?_ | refine qco ?_ | refine condP_decn (fun hc => ?_) (fun hc => ?_) | refine condP_dec (fun hc => ?_) (fun hc => ?_) | refine qct ?_ | refine qcf ?_ | refine condP_bool (fun hc => ?_) (fun hc => ?_)) | ((with_reducible refine resP_id ?_); refine resP_one ?_) | ((with_reducible refine callT_to ?_); refine callP_plain ?_))
    | refine wk_seq ?_ | refine wk_region ?_ | refine wk_block ?_ | refine wk_inBlock ?_ | refine wk_skip ?_ | refine wo_nil ?_ | refine wk_exit ?_ | refine exitK_code ?_ | refine exitK_hit ?_ | refine exitK_miss rfl ?_ | refine exitK_inLoop ?_ | refine wk_cond ?_ | refine wk_ret ?_ | refine wk_nil ?_ | refine wo_dst rfl (opR_call ?_) | refine wo_nodst (opR_call ?_) | refine wo_dst rfl (opR_pure ?_) | refine wo_nodst (opR_pure ?_)
    | refine give_ret ?_ | refine give_end ?_)
    refine (wi _).mono ?_
    rintro _ H2 ⟨rfl, g2⟩; have n2 := g2.1; have k2 := g2.2; try simp only [next_new, next_set] at n2 k2
    have c0' : H2.get h.next = some (.cells C 87 true) := by rw [k2 _ (by omega)]; exact c0
    have c1' : H2.get (h.next + 1) = some (.cells Z 87 true) := by rw [k2 _ (by omega)]; exact c1
    have hst := storeK_all hne hnl hnf c0' hov
    repeat' (first
    | ((with_reducible first | refine optP_id ?_ | refine condP_id ?_ | refine resP_id ?_ | refine callT_of ?_); conv => { arg 1; simp (disch := first | assumption | omega) only [push_cast, ↓reduceIte, reduceIte, Nat.reduceEqDiff, Nat.reduceAdd, Nat.reduceSub, Nat.reduceMul, Nat.reduceBEq, Int.reduceNeg, e1, e3, e6, e7, e8, hst] }; first | ((with_reducible refine optP_id ?_); refine optP_some ?_) | ((with_reducible refine condP_id ?_); first | refine qcy ?_ | refine qcx ?_ | refine qco ?_ | refine condP_decn (fun hc => ?_) (fun hc => ?_) | refine condP_dec (fun hc => ?_) (fun hc => ?_) | refine qct ?_ | refine qcf ?_ | refine condP_bool (fun hc => ?_) (fun hc => ?_)) | ((with_reducible refine resP_id ?_); refine resP_one ?_) | ((with_reducible refine callT_to ?_); refine callP_plain ?_))
    | refine wk_seq ?_ | refine wk_region ?_ | refine wk_block ?_ | refine wk_inBlock ?_ | refine wk_skip ?_ | refine wo_nil ?_ | refine wk_exit ?_ | refine exitK_code ?_ | refine exitK_hit ?_ | refine exitK_miss rfl ?_ | refine exitK_inLoop ?_ | refine wk_cond ?_ | refine wk_ret ?_ | refine wk_nil ?_ | refine wo_dst rfl (opR_call ?_) | refine wo_nodst (opR_call ?_) | refine wo_dst rfl (opR_pure ?_) | refine wo_nodst (opR_pure ?_)
    | refine give_ret ?_ | refine give_end ?_)
    exact next (t - (i + 1)) _ _ (by omega) ⟨i + 1, rfl, by omega, by (repeat (first | exact Gr.refl _ | assumption | (refine Gr.trans ?_ (by assumption)) | refine Gr.set ?_ (by first | exact Nat.le_refl _ | omega | (simp only [next_new, next_set]; omega)) _ | refine Gr.new ?_ _)), by simp only [next_set]; omega, by rw [hC']; simp (disch := first | assumption | omega) only [push_cast, ↓reduceIte, reduceIte, Nat.reduceEqDiff, Nat.reduceAdd, Nat.reduceSub, Nat.reduceMul, Nat.reduceBEq, Int.reduceNeg], by simp (disch := first | assumption | omega) only [push_cast, ↓reduceIte, reduceIte, Nat.reduceEqDiff, Nat.reduceAdd, Nat.reduceSub, Nat.reduceMul, Nat.reduceBEq, Int.reduceNeg, c1'], by simp (disch := first | assumption | omega) only [push_cast, ↓reduceIte, reduceIte, Nat.reduceEqDiff, Nat.reduceAdd, Nat.reduceSub, Nat.reduceMul, Nat.reduceBEq, Int.reduceNeg, e1], by simp (disch := first | assumption | omega) only [push_cast, ↓reduceIte, reduceIte, Nat.reduceEqDiff, Nat.reduceAdd, Nat.reduceSub, Nat.reduceMul, Nat.reduceBEq, Int.reduceNeg, e3], by simp (disch := first | assumption | omega) only [push_cast, ↓reduceIte, reduceIte, Nat.reduceEqDiff, Nat.reduceAdd, Nat.reduceSub, Nat.reduceMul, Nat.reduceBEq, Int.reduceNeg, e6], by simp (disch := first | assumption | omega) only [push_cast, ↓reduceIte, reduceIte, Nat.reduceEqDiff, Nat.reduceAdd, Nat.reduceSub, Nat.reduceMul, Nat.reduceBEq, Int.reduceNeg, e7], by simp (disch := first | assumption | omega) only [push_cast, ↓reduceIte, reduceIte, Nat.reduceEqDiff, Nat.reduceAdd, Nat.reduceSub, Nat.reduceMul, Nat.reduceBEq, Int.reduceNeg, Int.natCast_add, Int.natCast_one]⟩
  · have ilt : ¬ (i : Int) < (t : Int) := by omega
    obtain rfl : i = t := by omega
    have hov : over0 (ints .u8 (numD (X * n ^ i))) Z = some (ints .u8 (numD (X * n ^ i))) := over_all (by rw [← hZ, num_len, num_len])
    have hst := storeK_all (num_ne _) (num_len _) (ints_flat _ _) c1 hov
    rw [num_cells]
    generalize ints .u8 (numD (X * n ^ i)) = C at *
    repeat' (first
    | ((with_reducible first | refine optP_id ?_ | refine condP_id ?_ | refine resP_id ?_ | refine callT_of ?_); conv => { arg 1; simp (disch := first | assumption | omega) only [push_cast, ↓reduceIte, reduceIte, Nat.reduceEqDiff, Nat.reduceAdd, Nat.reduceSub, Nat.reduceMul, Nat.reduceBEq, Int.reduceNeg, e1, e3, e6, e7, e8, c0, hc0, c1, hst] }; first | ((with_reducible refine optP_id ?_); refine optP_some ?_) | ((with_reducible refine condP_id ?_); first | refine qcy ?_ | refine qcx ?_ | refine qco ?_ | refine condP_decn (fun hc => ?_) (fun hc => ?_) | refine condP_dec (fun hc => ?_) (fun hc => ?_) | refine qct ?_ | refine qcf ?_ | refine condP_bool (fun hc => ?_) (fun hc => ?_)) | ((with_reducible refine resP_id ?_); refine resP_one ?_) | ((with_reducible refine callT_to ?_); refine callP_plain ?_))
    | refine wk_seq ?_ | refine wk_region ?_ | refine wk_block ?_ | refine wk_inBlock ?_ | refine wk_skip ?_ | refine wo_nil ?_ | refine wk_exit ?_ | refine exitK_code ?_ | refine exitK_hit ?_ | refine exitK_miss rfl ?_ | refine exitK_inLoop ?_ | refine wk_cond ?_ | refine wk_ret ?_ | refine wk_nil ?_ | refine wo_dst rfl (opR_call ?_) | refine wo_nodst (opR_call ?_) | refine wo_dst rfl (opR_pure ?_) | refine wo_nodst (opR_pure ?_)
    | refine give_ret ?_ | refine give_end ?_)
    exact ⟨rfl, by (repeat (first | exact Gr.refl _ | assumption | (refine Gr.trans ?_ (by assumption)) | refine Gr.set ?_ (by first | exact Nat.le_refl _ | omega | (simp only [next_new, next_set]; omega)) _ | refine Gr.new ?_ _))⟩
end Go.Proofs.YtelepfablohdmaaGreatDoor
/- Contracts: without, isOne, exponents. -/
namespace Go.Proofs.YtelepfablohdmaaGreatDoor
open Go.Ev
theorem le_pow (k : Nat) : 60 ^ k ≤ 2 ^ (6 * k) := by
  rw [Nat.pow_mul]
  exact Nat.pow_le_pow_left (by decide) k
theorem pow_small_k {t n X k : Nat} (hn : 2 ≤ n) (h : n ^ t ≤ X) (hX : X < 60 ^ k) : t < 6 * k :=
  (Nat.pow_lt_pow_iff_right (by decide : 1 < 2)).1 (Nat.lt_of_le_of_lt (Nat.le_trans (Nat.pow_le_pow_left hn t) h) (Nat.lt_of_lt_of_le hX (le_pow k)))
theorem pow_small {t n X : Nat} (hn : 2 ≤ n) (h : n ^ t ≤ X) (hX : X < 60 ^ 146) : t ≤ 900 := by
  have := pow_small_k hn h hX
  omega
set_option maxRecDepth 100000 in
set_option maxHeartbeats 8000000 in
theorem without_w (X n : Nat) (hX0 : 0 < X) (hX : X < 60 ^ 146) (hn : 2 ≤ n) (hn2 : n ≤ 100) (h : AHeap) :
    Wc pr (.func 89) [numV X, .int .i64 (n : Int)] h fun r h' => (∃ R t, r = .tuple #[numV R, .int .i64 ((t : Nat) : Int)] ∧ X = R * n ^ t ∧ R % n ≠ 0 ∧ 0 < R ∧ t ≤ 900) ∧ Gr h h' := by
  have wo := fun Y hY H => over_w Y n hY (by omega) hn2 H
  simp only [num_cells] at wo ⊢
  have hfx := ints_flat .u8 (numD X)
  refine wc_func Tryz.func89 rfl rfl rfl rfl ?_
  generalize hZ : ints .u8 (numD 0) = Z
  have zv : zeroV Tryz.prog 87 = some (.agg Z.toArray) := by rw [← hZ]; exact zv87
  repeat' (first
    | ((with_reducible first | refine optP_id ?_ | refine condP_id ?_ | refine resP_id ?_ | refine callT_of ?_); conv => { arg 1; simp (disch := first | assumption | omega) only [push_cast, ↓reduceIte, reduceIte, Nat.reduceEqDiff, Nat.reduceAdd, Nat.reduceSub, Nat.reduceMul, Nat.reduceBEq, Int.reduceNeg, hfx, zv] }; first | ((with_reducible refine optP_id ?_); refine optP_some ?_) | ((with_reducible refine condP_id ?_); first | refine qcy ?_ | refine qcx ?_ | refine qco ?_ | refine condP_decn (fun hc => ?_) (fun hc => ?_) | refine condP_dec (fun hc => ?_) (fun hc => ?_) | refine qct ?_ | refine qcf ?_ | refine condP_bool (fun hc => ?_) (fun hc => ?_)) | ((with_reducible refine resP_id ?_); refine resP_two ?_) | ((with_reducible refine callT_to ?_); refine callP_plain ?_))
    | refine wk_seq ?_ | refine wk_region ?_ | refine wk_block ?_ | refine wk_inBlock ?_ | refine wk_skip ?_ | refine wo_nil ?_ | refine wk_cond ?_ | refine wk_ret ?_ | refine wk_nil ?_ | refine wo_dst rfl (opR_call ?_) | refine wo_nodst (opR_call ?_) | refine wo_dst rfl (opR_pure ?_) | refine wo_nodst (opR_pure ?_)
    | refine give_ret ?_ | refine give_end ?_)
  refine wk_loop (fun m E H => ∃ R t : Nat, m = R ∧ X = R * n ^ t ∧ 0 < R ∧ Gr h H ∧ h.next + 1 < H.next ∧ H.get h.next = some (.cells (ints .u8 (numD R)) 87 true) ∧ H.get (h.next + 1) = some (.cells Z 87 true) ∧ E.look 1 top = .int .i64 (n : Int) ∧ E.look 2 top = .pointer (some ⟨h.next, 0, none⟩) ∧ E.look 4 top = .pointer (some ⟨h.next + 1, 0, none⟩) ∧ E.look 5 top = .int .i64 (t : Int)) X
    ⟨X, 0, rfl, by rw [Nat.pow_zero, Nat.mul_one], hX0, by (repeat (first | exact Gr.refl _ | assumption | (refine Gr.trans ?_ (by assumption)) | refine Gr.set ?_ (by first | exact Nat.le_refl _ | omega | (simp only [next_new, next_set]; omega)) _ | refine Gr.new ?_ _)), by simp only [next_new]; omega, by simp (disch := first | assumption | omega) only [push_cast, ↓reduceIte, reduceIte, Nat.reduceEqDiff, Nat.reduceAdd, Nat.reduceSub, Nat.reduceMul, Nat.reduceBEq, Int.reduceNeg], by simp (disch := first | assumption | omega) only [push_cast, ↓reduceIte, reduceIte, Nat.reduceEqDiff, Nat.reduceAdd, Nat.reduceSub, Nat.reduceMul, Nat.reduceBEq, Int.reduceNeg], by simp (disch := first | assumption | omega) only [push_cast, ↓reduceIte, reduceIte, Nat.reduceEqDiff, Nat.reduceAdd, Nat.reduceSub, Nat.reduceMul, Nat.reduceBEq, Int.reduceNeg], by simp (disch := first | assumption | omega) only [push_cast, ↓reduceIte, reduceIte, Nat.reduceEqDiff, Nat.reduceAdd, Nat.reduceSub, Nat.reduceMul, Nat.reduceBEq, Int.reduceNeg], by simp (disch := first | assumption | omega) only [push_cast, ↓reduceIte, reduceIte, Nat.reduceEqDiff, Nat.reduceAdd, Nat.reduceSub, Nat.reduceMul, Nat.reduceBEq, Int.reduceNeg], by simp (disch := first | assumption | omega) only [push_cast, ↓reduceIte, reduceIte, Nat.reduceEqDiff, Nat.reduceAdd, Nat.reduceSub, Nat.reduceMul, Nat.reduceBEq, Int.reduceNeg, Int.natCast_zero]⟩ ?_
  rintro m E H ⟨R, t, rfl, hXR, hR0, gr, hnx, c0, c1, e1, e2, e4, e5⟩ next
  have hRX : m ≤ X := by rw [hXR]; exact Nat.le_mul_of_pos_right _ (Nat.pow_pos (by omega))
  have htX : n ^ t ≤ X := by rw [hXR]; exact Nat.le_mul_of_pos_left _ hR0
  have ht := pow_small hn htX hX
  have wi := wo m (by omega)
  have hdm := Nat.div_add_mod m n
  have hlt : m / n < m := Nat.div_lt_self hR0 (by omega)
  have hc0 : takeN 146 (ints .u8 (numD m)) = some (ints .u8 (numD m)) := num_cut _
  have hcq : takeN 146 (ints .u8 (numD (m / n))) = some (ints .u8 (numD (m / n))) := num_cut _
  have hfq := ints_flat .u8 (numD (m / n))
  have hne := num_ne (m / n)
  have hnl := num_len (m / n)
  have ov1 : over0 (ints .u8 (numD (m / n))) Z = some (ints .u8 (numD (m / n))) := over_all (by rw [← hZ, num_len, num_len])
  have ov2 : over0 (ints .u8 (numD m)) Z = some (ints .u8 (numD m)) := over_all (by rw [← hZ, num_len, num_len])
  have ov3 : over0 (ints .u8 (numD (m / n))) (ints .u8 (numD m)) = some (ints .u8 (numD (m / n))) := over_all (by rw [num_len, num_len])
  have hmm : m % n < n := Nat.mod_lt _ (by omega)
  have hRm : X = m / n * n ^ (t + 1) ∨ m % n ≠ 0 := by
    by_cases hz : m % n = 0
    · left
      rw [hz, Nat.add_zero] at hdm
      rw [Nat.pow_succ, Nat.mul_comm (n ^ t), ← Nat.mul_assoc, Nat.mul_comm (m / n), hdm]
      exact hXR
    · exact .inr hz
  have hq0 : m % n = 0 → 0 < m / n := fun hz => by
    rcases Nat.eq_zero_or_pos (m / n) with q | q
    · rw [q, hz] at hdm; omega
    · exact q
  generalize hrm : m % n = rm at *
  generalize hCm : ints .u8 (numD m) = Cm at *
  generalize hCq : ints .u8 (numD (m / n)) = Cq at *
  repeat' (first
    | ((with_reducible first | refine optP_id ?_ | refine condP_id ?_ | refine resP_id ?_ | refine callT_of ?_); conv => { arg 1; simp (disch := first | assumption | omega) only [push_cast, ↓reduceIte, reduceIte, Nat.reduceEqDiff, Nat.reduceAdd, Nat.reduceSub, Nat.reduceMul, Nat.reduceBEq, Int.reduceNeg, e1, e2, e4, e5, c0, hc0] }; first | ((with_reducible refine optP_id ?_); refine optP_some ?_) | ((with_reducible refine condP_id ?_); first | refine qcy ?_ | refine qcx ?_ | refine qco ?_ | refine condP_decn (fun hc => ?_) (fun hc => ?_) | refine condP_dec (fun hc => ?_) (fun hc => ?_) | refine qct ?_ | refine qcf ?_ | refine condP_bool (fun hc => ?_) (fun hc => ?_)) | ((with_reducible refine resP_id ?_); refine resP_two ?_) | ((with_reducible refine callT_to ?_); refine callP_plain ?_))
    | refine wk_seq ?_ | refine wk_region ?_ | refine wk_block ?_ | refine wk_inBlock ?_ | refine wk_skip ?_ | refine wo_nil ?_ | refine wk_cond ?_ | refine wk_ret ?_ | refine wk_nil ?_ | refine wo_dst rfl (opR_call ?_) | refine wo_nodst (opR_call ?_) | refine wo_dst rfl (opR_pure ?_) | refine wo_nodst (opR_pure ?_)
    | refine give_ret ?_ | refine give_end ?_)
  refine (wi _).mono ?_
  rintro _ H2 ⟨rfl, g2⟩; have n2 := g2.1; have k2 := g2.2; try simp only [next_new, next_set] at n2 k2
  have c0' : H2.get h.next = some (.cells Cm 87 true) := by rw [k2 _ (by omega)]; exact c0
  have c1' : H2.get (h.next + 1) = some (.cells Z 87 true) := by rw [k2 _ (by omega)]; exact c1
  by_cases hz : rm = 0
  · have hz0 : (rm : Int) = 0 := by omega
    have hst : ∀ H3 : AHeap, H3.get H2.next = some (.cells Z 87 true) → storeK H3 ⟨H2.next, 0, none⟩ (some 146) Cq = some (undef, H3.set H2.next (.cells Cq 87 true)) := fun H3 hg => storeK_all hne hnl hfq hg ov1
    have hst2 : ∀ H3 : AHeap, H3.get h.next = some (.cells Cm 87 true) → storeK H3 ⟨h.next, 0, none⟩ (some 146) Cq = some (undef, H3.set h.next (.cells Cq 87 true)) := fun H3 hg => storeK_all hne hnl hfq hg ov3
    have s1 := hst (H2.new (.cells Z 87 true)) (by simp (disch := first | assumption | omega) only [push_cast, ↓reduceIte, reduceIte, Nat.reduceEqDiff, Nat.reduceAdd, Nat.reduceSub, Nat.reduceMul, Nat.reduceBEq, Int.reduceNeg])
    have s2 := hst2 ((H2.new (.cells Z 87 true)).set H2.next (.cells Cq 87 true)) (by simp (disch := first | assumption | omega) only [push_cast, ↓reduceIte, reduceIte, Nat.reduceEqDiff, Nat.reduceAdd, Nat.reduceSub, Nat.reduceMul, Nat.reduceBEq, Int.reduceNeg]; exact c0')
    repeat' (first
    | ((with_reducible first | refine optP_id ?_ | refine condP_id ?_ | refine resP_id ?_ | refine callT_of ?_); conv => { arg 1; simp (disch := first | assumption | omega) only [push_cast, ↓reduceIte, reduceIte, Nat.reduceEqDiff, Nat.reduceAdd, Nat.reduceSub, Nat.reduceMul, Nat.reduceBEq, Int.reduceNeg, e1, e2, e4, e5, zv, s1, s2, hcq] }; first | ((with_reducible refine optP_id ?_); refine optP_some ?_) | ((with_reducible refine condP_id ?_); first | refine qcy ?_ | refine qcx ?_ | refine qco ?_ | refine condP_decn (fun hc => ?_) (fun hc => ?_) | refine condP_dec (fun hc => ?_) (fun hc => ?_) | refine qct ?_ | refine qcf ?_ | refine condP_bool (fun hc => ?_) (fun hc => ?_)) | ((with_reducible refine resP_id ?_); refine resP_two ?_) | ((with_reducible refine callT_to ?_); refine callP_plain ?_))
    | refine wk_seq ?_ | refine wk_region ?_ | refine wk_block ?_ | refine wk_inBlock ?_ | refine wk_skip ?_ | refine wo_nil ?_ | refine wk_cond ?_ | refine wk_ret ?_ | refine wk_nil ?_ | refine wo_dst rfl (opR_call ?_) | refine wo_nodst (opR_call ?_) | refine wo_dst rfl (opR_pure ?_) | refine wo_nodst (opR_pure ?_)
    | refine give_ret ?_ | refine give_end ?_)
    rcases hRm with hRm | hRm
    · exact next (m / n) _ _ hlt ⟨m / n, t + 1, rfl, hRm, hq0 hz, by (repeat (first | exact Gr.refl _ | assumption | (refine Gr.trans ?_ (by assumption)) | refine Gr.set ?_ (by first | exact Nat.le_refl _ | omega | (simp only [next_new, next_set]; omega)) _ | refine Gr.new ?_ _)), by simp only [next_set, next_new]; omega, by rw [hCq]; simp (disch := first | assumption | omega) only [push_cast, ↓reduceIte, reduceIte, Nat.reduceEqDiff, Nat.reduceAdd, Nat.reduceSub, Nat.reduceMul, Nat.reduceBEq, Int.reduceNeg], by simp (disch := first | assumption | omega) only [push_cast, ↓reduceIte, reduceIte, Nat.reduceEqDiff, Nat.reduceAdd, Nat.reduceSub, Nat.reduceMul, Nat.reduceBEq, Int.reduceNeg, c1'], by simp (disch := first | assumption | omega) only [push_cast, ↓reduceIte, reduceIte, Nat.reduceEqDiff, Nat.reduceAdd, Nat.reduceSub, Nat.reduceMul, Nat.reduceBEq, Int.reduceNeg, e1], by simp (disch := first | assumption | omega) only [push_cast, ↓reduceIte, reduceIte, Nat.reduceEqDiff, Nat.reduceAdd, Nat.reduceSub, Nat.reduceMul, Nat.reduceBEq, Int.reduceNeg, e2], by simp (disch := first | assumption | omega) only [push_cast, ↓reduceIte, reduceIte, Nat.reduceEqDiff, Nat.reduceAdd, Nat.reduceSub, Nat.reduceMul, Nat.reduceBEq, Int.reduceNeg, e4], by simp (disch := first | assumption | omega) only [push_cast, ↓reduceIte, reduceIte, Nat.reduceEqDiff, Nat.reduceAdd, Nat.reduceSub, Nat.reduceMul, Nat.reduceBEq, Int.reduceNeg, Int.natCast_add, Int.natCast_one]⟩
    · exact absurd hz hRm
  · have hz0 : ¬ (rm : Int) = 0 := by omega
    have s1 := storeK_all (H := H2.new (.cells Z 87 true)) (b := H2.next) (e := 87) hne hnl hfq (by simp (disch := first | assumption | omega) only [push_cast, ↓reduceIte, reduceIte, Nat.reduceEqDiff, Nat.reduceAdd, Nat.reduceSub, Nat.reduceMul, Nat.reduceBEq, Int.reduceNeg]) ov1
    have hfm : allFlat Cm = true := by rw [← hCm]; exact ints_flat _ _
    have s2 := storeK_all (H := (H2.new (.cells Z 87 true)).set H2.next (.cells Cq 87 true)) (b := h.next + 1) (e := 87) (n := 146) (C := Cm) (by rw [← hCm]; exact num_ne _) (by rw [← hCm]; exact num_len _) hfm (by simp (disch := first | assumption | omega) only [push_cast, ↓reduceIte, reduceIte, Nat.reduceEqDiff, Nat.reduceAdd, Nat.reduceSub, Nat.reduceMul, Nat.reduceBEq, Int.reduceNeg]; exact c1') ov2
    repeat' (first
    | ((with_reducible first | refine optP_id ?_ | refine condP_id ?_ | refine resP_id ?_ | refine callT_of ?_); conv => { arg 1; simp (disch := first | assumption | omega) only [push_cast, ↓reduceIte, reduceIte, Nat.reduceEqDiff, Nat.reduceAdd, Nat.reduceSub, Nat.reduceMul, Nat.reduceBEq, Int.reduceNeg, e1, e2, e4, e5, zv, s1, s2, hc0, c0'] }; first | ((with_reducible refine optP_id ?_); refine optP_some ?_) | ((with_reducible refine condP_id ?_); first | refine qcy ?_ | refine qcx ?_ | refine qco ?_ | refine condP_decn (fun hc => ?_) (fun hc => ?_) | refine condP_dec (fun hc => ?_) (fun hc => ?_) | refine qct ?_ | refine qcf ?_ | refine condP_bool (fun hc => ?_) (fun hc => ?_)) | ((with_reducible refine resP_id ?_); refine resP_two ?_) | ((with_reducible refine callT_to ?_); refine callP_plain ?_))
    | refine wk_seq ?_ | refine wk_region ?_ | refine wk_block ?_ | refine wk_inBlock ?_ | refine wk_skip ?_ | refine wo_nil ?_ | refine wk_cond ?_ | refine wk_ret ?_ | refine wk_nil ?_ | refine wo_dst rfl (opR_call ?_) | refine wo_nodst (opR_call ?_) | refine wo_dst rfl (opR_pure ?_) | refine wo_nodst (opR_pure ?_)
    | refine give_ret ?_ | refine give_end ?_)
    exact ⟨⟨m, t, by rw [hCm], hXR, by omega, hR0, ht⟩, by (repeat (first | exact Gr.refl _ | assumption | (refine Gr.trans ?_ (by assumption)) | refine Gr.set ?_ (by first | exact Nat.le_refl _ | omega | (simp only [next_new, next_set]; omega)) _ | refine Gr.new ?_ _))⟩
theorem cells_dec (d : TypeDesc) (k : IntKind) (hd : d = .int .u8) (hk : kindEq k k = true) : ∀ (l m : List Int), l.length = m.length → cellsEq d l.length (ints k l) (ints k m) = some (decide (l = m))
  | [], [], _ => rfl
  | [], _ :: _, h => by cases h
  | _ :: _, [], h => by cases h
  | x :: l, y :: m, h => by
    subst hd
    have e : cellEq (.int .u8) (.int k x) (.int k y) = some (eqI x y) := by
      show cond (kindEq k k) (some (eqI x y)) none = _
      rw [hk]; rfl
    show (match cellEq (.int .u8) (.int k x) (.int k y) with
      | some true => cellsEq (.int .u8) l.length (ints k l) (ints k m)
      | some false => some false
      | none => none) = _
    rw [e]
    by_cases hxy : x = y
    · subst hxy
      have : eqI x x = true := by rw [eqI_spec]; simp
      rw [this]
      show cellsEq (.int .u8) l.length (ints k l) (ints k m) = _
      rw [cells_dec (.int .u8) k rfl hk l m (by simpa using h)]
      congr 1
      exact decide_eq_decide.2 (by simp)
    · have : eqI x y = false := by rw [eqI_spec]; simpa using hxy
      rw [this]
      show some false = _
      congr 1
      exact (decide_eq_false (by simp [hxy])).symm
set_option maxRecDepth 100000 in
theorem arr_eq {l m : List Int} (hl : l.length = 146) (hm : m.length = 146) : bin Tryz.prog .eql 85 (.agg (ints .u8 l).toArray) (.agg (ints .u8 m).toArray) = some (.bool (decide (l = m))) := by
  have h1 : Tryz.prog.underlying 85 = some (.array 146 5) := by kernel_rfl
  have h2 : Tryz.prog.underlying 5 = some (.int .u8) := by kernel_rfl
  have h3 : (aggD (.int .u8) || Tryz.prog.eqGuardType Tryz.prog.depth 85 || !(Nat.beq (Tryz.prog.cellsOf 5) 1) || (Tryz.prog.info? 5).isNone) = false := by kernel_rfl
  show (valEq Tryz.prog 85 (.agg (ints .u8 l).toArray) (.agg (ints .u8 m).toArray)).map Value.bool = _
  unfold valEq
  rw [h1]
  dsimp only
  rw [h2]
  dsimp only
  rw [h3]
  have := cells_dec (.int .u8) .u8 rfl rfl l m (by omega)
  rw [hl] at this
  rw [if_neg (by decide), this]
  rfl
theorem numD_inj {X Y : Nat} (hX : X < 60 ^ 146) (hY : Y < 60 ^ 146) (h : numD X = numD Y) : X = Y := by
  have e : ∀ Z, usL Z 146 = numD Z := fun Z => List.take_of_length_le (by rw [numD_len]; exact Nat.le_refl _)
  rw [← usL_eq (Nat.le_refl _) hX, ← usL_eq (Nat.le_refl _) hY, e, e, h]
set_option maxRecDepth 100000 in
set_option maxHeartbeats 8000000 in
theorem isone_w (X : Nat) (hX : X < 60 ^ 146) (h : AHeap) :
    Wc pr (.func 125) [numV X] h fun r h' => r = .bool (decide (X = 1)) ∧ Gr h h' := by
  have w1 := fun H => numof_w 1 (by omega) H
  have heq := arr_eq (numD_len X) (numD_len 1)
  have hdec : decide (numD X = numD 1) = decide (X = 1) := decide_eq_decide.2 ⟨fun h => numD_inj hX (by decide) h, fun h => by rw [h]⟩
  rw [hdec] at heq
  simp only [num_cells] at w1 ⊢
  have hfx := ints_flat .u8 (numD X)
  have hcx : takeN 146 (ints .u8 (numD X)) = some (ints .u8 (numD X)) := num_cut X
  have hc1 : takeN 146 (ints .u8 (numD 1)) = some (ints .u8 (numD 1)) := num_cut 1
  have hsx := same_ints .u8 (numD X)
  refine wc_func Tryz.func125 rfl rfl rfl rfl ?_
  generalize ints .u8 (numD X) = C at *
  generalize ints .u8 (numD 1) = C1 at *
  repeat' (first
    | ((with_reducible first | refine optP_id ?_ | refine resP_id ?_ | refine callT_of ?_); conv => { arg 1; simp (disch := first | assumption | omega) only [push_cast, ↓reduceIte, reduceIte, Nat.reduceEqDiff, Nat.reduceAdd, Nat.reduceSub, Nat.reduceMul, Nat.reduceBEq, Int.reduceNeg, hfx, hcx] }; first | ((with_reducible refine optP_id ?_); refine optP_some ?_) | ((with_reducible refine resP_id ?_); refine resP_one ?_) | ((with_reducible refine callT_to ?_); refine callP_plain ?_))
    | refine wk_seq ?_ | refine wk_region ?_ | refine wk_draw (by kernel_rfl) (by decide +kernel) ?_ | refine wk_drawn [(1, 6)] (by kernel_rfl) (by decide +kernel) ?_ | refine wo_nil ?_ | refine wk_ret ?_ | refine wk_nil ?_ | refine wo_dst rfl (opR_call ?_) | refine wo_nodst (opR_call ?_) | refine wo_dst rfl (opR_pure ?_) | refine wo_nodst (opR_pure ?_)
    | refine wd_dst rfl (opR_call ?_) | refine wd_nodst (opR_call ?_) | refine wd_dst rfl (opR_pick ?_) | refine wd_guard rfl rfl ?_ | refine wd_guardn rfl ?_ | refine wd_dst rfl (opR_pure ?_) | refine wd_nodst (opR_pure ?_) | refine opR_call ?_ | refine opR_pick ?_ | refine opR_pure ?_ | (refine wd_nil ?_; refine doneD rfl rfl ?_ ?_) | refine again_nil | refine again_cons ?_ ?_ | refine again_plain rfl rfl rfl ?_ | refine again_guard rfl rfl rfl rfl ?_ | exact same_undef | exact same_of rfl rfl | refine give_ret ?_ | refine give_end ?_)
  refine (w1 _).mono ?_
  rintro _ h1 ⟨rfl, g1⟩; have n1 := g1.1; have k1 := g1.2; try simp only [next_new, next_set] at n1 k1
  repeat' (first
    | ((with_reducible first | refine optP_id ?_ | refine resP_id ?_ | refine callT_of ?_); conv => { arg 1; simp (disch := first | assumption | omega) only [push_cast, ↓reduceIte, reduceIte, Nat.reduceEqDiff, Nat.reduceAdd, Nat.reduceSub, Nat.reduceMul, Nat.reduceBEq, Int.reduceNeg, k1, hcx, hc1, heq] }; first | ((with_reducible refine optP_id ?_); refine optP_some ?_) | ((with_reducible refine resP_id ?_); refine resP_one ?_) | ((with_reducible refine callT_to ?_); refine callP_plain ?_))
    | refine wk_seq ?_ | refine wk_region ?_ | refine wk_draw (by kernel_rfl) (by decide +kernel) ?_ | refine wk_drawn [(1, 6)] (by kernel_rfl) (by decide +kernel) ?_ | refine wo_nil ?_ | refine wk_ret ?_ | refine wk_nil ?_ | refine wo_dst rfl (opR_call ?_) | refine wo_nodst (opR_call ?_) | refine wo_dst rfl (opR_pure ?_) | refine wo_nodst (opR_pure ?_)
    | refine wd_dst rfl (opR_call ?_) | refine wd_nodst (opR_call ?_) | refine wd_dst rfl (opR_pick ?_) | refine wd_guard rfl rfl ?_ | refine wd_guardn rfl ?_ | refine wd_dst rfl (opR_pure ?_) | refine wd_nodst (opR_pure ?_) | refine opR_call ?_ | refine opR_pick ?_ | refine opR_pure ?_ | (refine wd_nil ?_; refine doneD rfl rfl ?_ ?_) | refine again_nil | refine again_cons ?_ ?_ | refine again_plain rfl rfl rfl ?_ | refine again_guard rfl rfl rfl rfl ?_ | exact same_undef | exact same_of rfl rfl | refine give_ret ?_ | refine give_end ?_)
  · exact hsx
  · exact ⟨rfl, by (repeat (first | exact Gr.refl _ | assumption | (refine Gr.trans ?_ (by assumption)) | refine Gr.set ?_ (by first | exact Nat.le_refl _ | omega | (simp only [next_new, next_set]; omega)) _ | refine Gr.new ?_ _))⟩
end Go.Proofs.YtelepfablohdmaaGreatDoor
/- Contracts: exponents, inverse. -/
namespace Go.Proofs.YtelepfablohdmaaGreatDoor
open Go.Ev
/-- another prime than those of the base divides X -/
def irr (X : Nat) : Prop := ∃ R, R ≠ 1 ∧ R % 2 ≠ 0 ∧ R % 3 ≠ 0 ∧ R % 5 ≠ 0 ∧ R ∣ X
def expR (X : Nat) (r : Value) : Prop := (∃ a b c : Nat, X = 2 ^ a * 3 ^ b * 5 ^ c ∧ a ≤ 900 ∧ b ≤ 900 ∧ c ≤ 900 ∧ r = .tuple #[.int .i64 (a : Int), .int .i64 (b : Int), .int .i64 (c : Int), .int .i64 0]) ∨ (irr X ∧ r = .tuple #[.int .i64 0, .int .i64 0, .int .i64 0, .int .i64 31])
theorem not_dvd {a b n : Nat} (h : b % n ≠ 0) (hd : a ∣ b) : a % n ≠ 0 := fun h2 => h (Nat.mod_eq_zero_of_dvd (Nat.dvd_trans (Nat.dvd_of_mod_eq_zero h2) hd))
set_option maxRecDepth 100000 in
set_option maxHeartbeats 8000000 in
theorem exp_w (X : Nat) (hX0 : 0 < X) (hX : X < 60 ^ 146) (h : AHeap) : Wc pr (.func 81) [numV X] h fun r h' => expR X r ∧ Gr h h' := by
  rw [num_cells]
  have hf0 := ints_flat .u8 (numD X)
  have hc0 : takeN 146 (ints .u8 (numD X)) = some (ints .u8 (numD X)) := num_cut X
  have w0 := fun H => without_w X 2 hX0 hX (by omega) (by omega) H
  rw [num_cells] at w0
  have hn0 := num_len X
  refine wc_func Tryz.func81 rfl rfl rfl rfl ?_
  generalize ints .u8 (numD X) = C0 at *
  repeat' (first
    | ((with_reducible first | refine optP_id ?_ | refine condP_id ?_ | refine resP_id ?_ | refine callT_of ?_); conv => { arg 1; simp (disch := first | assumption | omega) only [push_cast, ↓reduceIte, reduceIte, Nat.reduceEqDiff, Nat.reduceAdd, Nat.reduceSub, Nat.reduceMul, Nat.reduceBEq, Int.reduceNeg, hf0, hc0] }; first | ((with_reducible refine optP_id ?_); refine optP_some ?_) | ((with_reducible refine condP_id ?_); first | refine qcy ?_ | refine qcx ?_ | refine qco ?_ | refine condP_decn (fun hc => ?_) (fun hc => ?_) | refine condP_dec (fun hc => ?_) (fun hc => ?_) | refine qct ?_ | refine qcf ?_ | refine condP_bool (fun hc => ?_) (fun hc => ?_)) | ((with_reducible refine resP_id ?_); refine resP_four ?_) | ((with_reducible refine callT_to ?_); refine callP_plain ?_))
    | refine wk_seq ?_ | refine wk_region ?_ | refine wk_skip ?_ | refine wo_nil ?_ | refine wk_cond ?_ | refine wk_ret ?_ | refine wk_nil ?_ | refine wo_dst rfl (opR_call ?_) | refine wo_nodst (opR_call ?_) | refine wo_dst rfl (opR_pure ?_) | refine wo_nodst (opR_pure ?_)
    | refine give_ret ?_ | refine give_end ?_)
  refine (w0 _).mono ?_
  rintro _ h1 ⟨⟨R1, a, rfl, q1, q2, q3, q4⟩, g1⟩; have n1 := g1.1; have k1 := g1.2; try simp only [next_new, next_set] at n1 k1
  have hR1 : R1 < 60 ^ 146 := Nat.lt_of_le_of_lt (by rw [q1]; exact Nat.le_mul_of_pos_right _ (Nat.pow_pos (by omega))) hX
  rw [num_cells]
  have c0 : h1.get h.next = some (.cells C0 87 true) := by rw [k1 _ (by omega)]; simp (disch := first | assumption | omega) only [push_cast, ↓reduceIte, reduceIte, Nat.reduceEqDiff, Nat.reduceAdd, Nat.reduceSub, Nat.reduceMul, Nat.reduceBEq, Int.reduceNeg]
  have s1 := storeK_all (num_ne R1) (num_len R1) (ints_flat .u8 (numD R1)) c0 (over_all (by rw [num_len, hn0]))
  have hc1 : takeN 146 (ints .u8 (numD R1)) = some (ints .u8 (numD R1)) := num_cut R1
  have w1 := fun H => without_w R1 3 q3 hR1 (by omega) (by omega) H
  rw [num_cells] at w1
  have hn1 := num_len R1
  generalize ints .u8 (numD R1) = C1 at *
  repeat' (first
    | ((with_reducible first | refine optP_id ?_ | refine condP_id ?_ | refine resP_id ?_ | refine callT_of ?_); conv => { arg 1; simp (disch := first | assumption | omega) only [push_cast, ↓reduceIte, reduceIte, Nat.reduceEqDiff, Nat.reduceAdd, Nat.reduceSub, Nat.reduceMul, Nat.reduceBEq, Int.reduceNeg, s1, hc1] }; first | ((with_reducible refine optP_id ?_); refine optP_some ?_) | ((with_reducible refine condP_id ?_); first | refine qcy ?_ | refine qcx ?_ | refine qco ?_ | refine condP_decn (fun hc => ?_) (fun hc => ?_) | refine condP_dec (fun hc => ?_) (fun hc => ?_) | refine qct ?_ | refine qcf ?_ | refine condP_bool (fun hc => ?_) (fun hc => ?_)) | ((with_reducible refine resP_id ?_); refine resP_four ?_) | ((with_reducible refine callT_to ?_); refine callP_plain ?_))
    | refine wk_seq ?_ | refine wk_region ?_ | refine wk_skip ?_ | refine wo_nil ?_ | refine wk_cond ?_ | refine wk_ret ?_ | refine wk_nil ?_ | refine wo_dst rfl (opR_call ?_) | refine wo_nodst (opR_call ?_) | refine wo_dst rfl (opR_pure ?_) | refine wo_nodst (opR_pure ?_)
    | refine give_ret ?_ | refine give_end ?_)
  refine (w1 _).mono ?_
  rintro _ h2 ⟨⟨R2, b, rfl, r1, r2, r3, r4⟩, g2⟩; have n2 := g2.1; have k2 := g2.2; try simp only [next_new, next_set] at n2 k2
  have hR2 : R2 < 60 ^ 146 := Nat.lt_of_le_of_lt (by rw [r1]; exact Nat.le_mul_of_pos_right _ (Nat.pow_pos (by omega))) hR1
  rw [num_cells]
  have c1 : h2.get h.next = some (.cells C1 87 true) := by rw [k2 _ (by omega)]; simp (disch := first | assumption | omega) only [push_cast, ↓reduceIte, reduceIte, Nat.reduceEqDiff, Nat.reduceAdd, Nat.reduceSub, Nat.reduceMul, Nat.reduceBEq, Int.reduceNeg]
  have s2 := storeK_all (num_ne R2) (num_len R2) (ints_flat .u8 (numD R2)) c1 (over_all (by rw [num_len, hn1]))
  have hc2 : takeN 146 (ints .u8 (numD R2)) = some (ints .u8 (numD R2)) := num_cut R2
  have w2 := fun H => without_w R2 5 r3 hR2 (by omega) (by omega) H
  rw [num_cells] at w2
  have hn2 := num_len R2
  generalize ints .u8 (numD R2) = C2 at *
  repeat' (first
    | ((with_reducible first | refine optP_id ?_ | refine condP_id ?_ | refine resP_id ?_ | refine callT_of ?_); conv => { arg 1; simp (disch := first | assumption | omega) only [push_cast, ↓reduceIte, reduceIte, Nat.reduceEqDiff, Nat.reduceAdd, Nat.reduceSub, Nat.reduceMul, Nat.reduceBEq, Int.reduceNeg, s2, hc2] }; first | ((with_reducible refine optP_id ?_); refine optP_some ?_) | ((with_reducible refine condP_id ?_); first | refine qcy ?_ | refine qcx ?_ | refine qco ?_ | refine condP_decn (fun hc => ?_) (fun hc => ?_) | refine condP_dec (fun hc => ?_) (fun hc => ?_) | refine qct ?_ | refine qcf ?_ | refine condP_bool (fun hc => ?_) (fun hc => ?_)) | ((with_reducible refine resP_id ?_); refine resP_four ?_) | ((with_reducible refine callT_to ?_); refine callP_plain ?_))
    | refine wk_seq ?_ | refine wk_region ?_ | refine wk_skip ?_ | refine wo_nil ?_ | refine wk_cond ?_ | refine wk_ret ?_ | refine wk_nil ?_ | refine wo_dst rfl (opR_call ?_) | refine wo_nodst (opR_call ?_) | refine wo_dst rfl (opR_pure ?_) | refine wo_nodst (opR_pure ?_)
    | refine give_ret ?_ | refine give_end ?_)
  refine (w2 _).mono ?_
  rintro _ h3 ⟨⟨R3, c, rfl, t1, t2, t3, t4⟩, g3⟩; have n3 := g3.1; have k3 := g3.2; try simp only [next_new, next_set] at n3 k3
  have hR3 : R3 < 60 ^ 146 := Nat.lt_of_le_of_lt (by rw [t1]; exact Nat.le_mul_of_pos_right _ (Nat.pow_pos (by omega))) hR2
  rw [num_cells]
  have c2 : h3.get h.next = some (.cells C2 87 true) := by rw [k3 _ (by omega)]; simp (disch := first | assumption | omega) only [push_cast, ↓reduceIte, reduceIte, Nat.reduceEqDiff, Nat.reduceAdd, Nat.reduceSub, Nat.reduceMul, Nat.reduceBEq, Int.reduceNeg]
  have s3 := storeK_all (num_ne R3) (num_len R3) (ints_flat .u8 (numD R3)) c2 (over_all (by rw [num_len, hn2]))
  have hc3 : takeN 146 (ints .u8 (numD R3)) = some (ints .u8 (numD R3)) := num_cut R3
  have w3 := fun H => isone_w R3 hR3 H
  rw [num_cells] at w3
  generalize ints .u8 (numD R3) = C3 at *
  repeat' (first
    | ((with_reducible first | refine optP_id ?_ | refine condP_id ?_ | refine resP_id ?_ | refine callT_of ?_); conv => { arg 1; simp (disch := first | assumption | omega) only [push_cast, ↓reduceIte, reduceIte, Nat.reduceEqDiff, Nat.reduceAdd, Nat.reduceSub, Nat.reduceMul, Nat.reduceBEq, Int.reduceNeg, s3, hc3] }; first | ((with_reducible refine optP_id ?_); refine optP_some ?_) | ((with_reducible refine condP_id ?_); first | refine qcy ?_ | refine qcx ?_ | refine qco ?_ | refine condP_decn (fun hc => ?_) (fun hc => ?_) | refine condP_dec (fun hc => ?_) (fun hc => ?_) | refine qct ?_ | refine qcf ?_ | refine condP_bool (fun hc => ?_) (fun hc => ?_)) | ((with_reducible refine resP_id ?_); refine resP_four ?_) | ((with_reducible refine callT_to ?_); refine callP_plain ?_))
    | refine wk_seq ?_ | refine wk_region ?_ | refine wk_skip ?_ | refine wo_nil ?_ | refine wk_cond ?_ | refine wk_ret ?_ | refine wk_nil ?_ | refine wo_dst rfl (opR_call ?_) | refine wo_nodst (opR_call ?_) | refine wo_dst rfl (opR_pure ?_) | refine wo_nodst (opR_pure ?_)
    | refine give_ret ?_ | refine give_end ?_)
  refine (w3 _).mono ?_
  rintro _ h4 ⟨rfl, g4⟩; have n4 := g4.1; have k4 := g4.2; try simp only [next_new, next_set] at n4 k4
  have d32 : R3 ∣ R2 := ⟨5 ^ c, t1⟩
  have d31 : R3 ∣ R1 := Nat.dvd_trans d32 ⟨3 ^ b, r1⟩
  have d30 : R3 ∣ X := Nat.dvd_trans d31 ⟨2 ^ a, q1⟩
  by_cases h1' : R3 = 1
  · rw [decide_eq_true h1']
    repeat' (first
    | ((with_reducible first | refine optP_id ?_ | refine condP_id ?_ | refine resP_id ?_ | refine callT_of ?_); conv => { arg 1; simp (disch := first | assumption | omega) only [push_cast, ↓reduceIte, reduceIte, Nat.reduceEqDiff, Nat.reduceAdd, Nat.reduceSub, Nat.reduceMul, Nat.reduceBEq, Int.reduceNeg, k4] }; first | ((with_reducible refine optP_id ?_); refine optP_some ?_) | ((with_reducible refine condP_id ?_); first | refine qcy ?_ | refine qcx ?_ | refine qco ?_ | refine condP_decn (fun hc => ?_) (fun hc => ?_) | refine condP_dec (fun hc => ?_) (fun hc => ?_) | refine qct ?_ | refine qcf ?_ | refine condP_bool (fun hc => ?_) (fun hc => ?_)) | ((with_reducible refine resP_id ?_); refine resP_four ?_) | ((with_reducible refine callT_to ?_); refine callP_plain ?_))
    | refine wk_seq ?_ | refine wk_region ?_ | refine wk_skip ?_ | refine wo_nil ?_ | refine wk_cond ?_ | refine wk_ret ?_ | refine wk_nil ?_ | refine wo_dst rfl (opR_call ?_) | refine wo_nodst (opR_call ?_) | refine wo_dst rfl (opR_pure ?_) | refine wo_nodst (opR_pure ?_)
    | refine give_ret ?_ | refine give_end ?_)
    refine ⟨.inl ⟨a, b, c, ?_, q4, r4, t4, rfl⟩, by (repeat (first | exact Gr.refl _ | assumption | (refine Gr.trans ?_ (by assumption)) | refine Gr.set ?_ (by first | exact Nat.le_refl _ | omega | (simp only [next_new, next_set]; omega)) _ | refine Gr.new ?_ _))⟩
    rw [q1, r1, t1, h1', Nat.one_mul, Nat.mul_comm, Nat.mul_comm (5 ^ c), Nat.mul_assoc]
  · rw [decide_eq_false h1']
    repeat' (first
    | ((with_reducible first | refine optP_id ?_ | refine condP_id ?_ | refine resP_id ?_ | refine callT_of ?_); conv => { arg 1; simp (disch := first | assumption | omega) only [push_cast, ↓reduceIte, reduceIte, Nat.reduceEqDiff, Nat.reduceAdd, Nat.reduceSub, Nat.reduceMul, Nat.reduceBEq, Int.reduceNeg, k4] }; first | ((with_reducible refine optP_id ?_); refine optP_some ?_) | ((with_reducible refine condP_id ?_); first | refine qcy ?_ | refine qcx ?_ | refine qco ?_ | refine condP_decn (fun hc => ?_) (fun hc => ?_) | refine condP_dec (fun hc => ?_) (fun hc => ?_) | refine qct ?_ | refine qcf ?_ | refine condP_bool (fun hc => ?_) (fun hc => ?_)) | ((with_reducible refine resP_id ?_); refine resP_four ?_) | ((with_reducible refine callT_to ?_); refine callP_plain ?_))
    | refine wk_seq ?_ | refine wk_region ?_ | refine wk_skip ?_ | refine wo_nil ?_ | refine wk_cond ?_ | refine wk_ret ?_ | refine wk_nil ?_ | refine wo_dst rfl (opR_call ?_) | refine wo_nodst (opR_call ?_) | refine wo_dst rfl (opR_pure ?_) | refine wo_nodst (opR_pure ?_)
    | refine give_ret ?_ | refine give_end ?_)
    exact ⟨.inr ⟨⟨R3, h1', not_dvd q2 d31, not_dvd r2 d32, t2, d30⟩, rfl⟩, by (repeat (first | exact Gr.refl _ | assumption | (refine Gr.trans ?_ (by assumption)) | refine Gr.set ?_ (by first | exact Nat.le_refl _ | omega | (simp only [next_new, next_set]; omega)) _ | refine Gr.new ?_ _))⟩
theorem max3 {P : Program} (h : AHeap) (ts : List TypeId) (a b c : Nat) : builtinOp P h .max ts [.int .i64 (a : Int), .int .i64 (b : Int), .int .i64 (c : Int)] = some (.int .i64 ((max (max a b) c : Nat) : Int), h) := by
  show some (Value.int .i64 (cond (ltI (cond (ltI (a : Int) (b : Int)) (b : Int) (a : Int)) (c : Int)) (c : Int) (cond (ltI (a : Int) (b : Int)) (b : Int) (a : Int))), h) = _
  rw [ltI_spec, ltI_spec]
  have e1 : cond (decide ((a : Int) < (b : Int))) (b : Int) (a : Int) = ((max a b : Nat) : Int) := by
    by_cases hab : (a : Int) < (b : Int)
    · rw [decide_eq_true hab, cond_true]; omega
    · rw [decide_eq_false hab, cond_false]; omega
  rw [e1]
  congr 2
  by_cases hab : ((max a b : Nat) : Int) < (c : Int)
  · rw [decide_eq_true hab, cond_true]; congr 1; omega
  · rw [decide_eq_false hab, cond_false]; congr 1; omega
theorem bv87 : buildV Tryz.prog 87 [] = some (.agg (ints .u8 (numD 0)).toArray) := by kernel_rfl
/-- the exponent of the power of 60 -/
def exE (a b c : Nat) : Nat := max (max ((a + 1) / 2) b) c
def inv60 (a b c : Nat) : Nat := 2 ^ (2 * exE a b c - a) * 3 ^ (exE a b c - b) * 5 ^ (exE a b c - c)
theorem inv60_mul (a b c : Nat) : 2 ^ a * 3 ^ b * 5 ^ c * inv60 a b c = 60 ^ exE a b c := inv_mul (by unfold exE; omega) (by unfold exE; omega) (by unfold exE; omega)
theorem inv60_pos (a b c : Nat) : 0 < inv60 a b c := Nat.mul_pos (Nat.mul_pos (Nat.pow_pos (by decide)) (Nat.pow_pos (by decide))) (Nat.pow_pos (by decide))
theorem inv60_le (a b c : Nat) : inv60 a b c ≤ 60 ^ exE a b c := by
  rw [← inv60_mul]
  exact Nat.le_mul_of_pos_left _ (Nat.mul_pos (Nat.mul_pos (Nat.pow_pos (by decide)) (Nat.pow_pos (by decide))) (Nat.pow_pos (by decide)))
def invR (X : Nat) (r : Value) : Prop := (∃ a b c : Nat, X = 2 ^ a * 3 ^ b * 5 ^ c ∧ exE a b c ≤ 100 ∧ r = .tuple #[numV (inv60 a b c), .int .i64 ((exE a b c : Nat) : Int), .int .i64 0]) ∨ (irr X ∧ r = .tuple #[numV 0, .int .i64 0, .int .i64 31])
theorem exE_le {a b c : Nat} (h : 2 ^ a * 3 ^ b * 5 ^ c < 60 ^ 16) : exE a b c ≤ 100 := by
  have p2 : 0 < 2 ^ a := Nat.pow_pos (by decide)
  have p3 : 0 < 3 ^ b := Nat.pow_pos (by decide)
  have p5 : 0 < 5 ^ c := Nat.pow_pos (by decide)
  have h2 : 2 ^ a ≤ 2 ^ a * 3 ^ b * 5 ^ c := by rw [Nat.mul_assoc]; exact Nat.le_mul_of_pos_right _ (Nat.mul_pos p3 p5)
  have h3 : 3 ^ b ≤ 2 ^ a * 3 ^ b * 5 ^ c := Nat.le_trans (Nat.le_mul_of_pos_left _ p2) (Nat.le_mul_of_pos_right _ p5)
  have h5 : 5 ^ c ≤ 2 ^ a * 3 ^ b * 5 ^ c := Nat.le_mul_of_pos_left _ (Nat.mul_pos p2 p3)
  have a1 := pow_small_k (by decide) h2 h
  have a2 := pow_small_k (by decide) h3 h
  have a3 := pow_small_k (by decide) h5 h
  unfold exE
  omega
set_option maxRecDepth 100000 in
set_option maxHeartbeats 8000000 in
theorem inv_w (X : Nat) (hX0 : 0 < X) (hX : X < 60 ^ 16) (h : AHeap) : Wc pr (.func 84) [numV X] h fun r h' => invR X r ∧ Gr h h' := by
  have hX146 : X < 60 ^ 146 := Nat.lt_of_lt_of_le hX (Nat.pow_le_pow_right (by decide) (by omega))
  have we := fun H => exp_w X hX0 hX146 H
  rw [num_cells] at we ⊢
  have hf0 := ints_flat .u8 (numD X)
  have hc0 : takeN 146 (ints .u8 (numD X)) = some (ints .u8 (numD X)) := num_cut X
  have zv := zv87
  have bv := bv87
  refine wc_func Tryz.func84 rfl rfl rfl rfl ?_
  generalize ints .u8 (numD X) = C0 at *
  generalize hZ : ints .u8 (numD 0) = Z at *
  repeat' (first
    | ((with_reducible first | refine optP_id ?_ | refine condP_id ?_ | refine resP_id ?_ | refine callT_of ?_); conv => { arg 1; simp (disch := first | assumption | omega) only [push_cast, ↓reduceIte, reduceIte, Nat.reduceEqDiff, Nat.reduceAdd, Nat.reduceSub, Nat.reduceMul, Nat.reduceBEq, Int.reduceNeg, hf0, hc0, zv] }; first | ((with_reducible refine optP_id ?_); refine optP_some ?_) | ((with_reducible refine condP_id ?_); first | refine qcy ?_ | refine qcx ?_ | refine qco ?_ | refine condP_decn (fun hc => ?_) (fun hc => ?_) | refine condP_dec (fun hc => ?_) (fun hc => ?_) | refine qct ?_ | refine qcf ?_ | refine condP_bool (fun hc => ?_) (fun hc => ?_)) | ((with_reducible refine resP_id ?_); refine resP_three ?_) | ((with_reducible refine callT_to ?_); refine callP_plain ?_))
    | refine wk_seq ?_ | refine wk_region ?_ | refine wk_skip ?_ | refine wo_nil ?_ | refine wk_cond ?_ | refine wk_ret ?_ | refine wk_nil ?_ | refine wo_dst rfl (opR_call ?_) | refine wo_nodst (opR_call ?_) | refine wo_dst rfl (opR_pure ?_) | refine wo_nodst (opR_pure ?_)
    | refine give_ret ?_ | refine give_end ?_)
  refine (we _).mono ?_
  rintro _ h1 ⟨⟨a, b, c, hE, ha, hb, hc, rfl⟩ | ⟨hi, rfl⟩, g1⟩; all_goals have n1 := g1.1; have k1 := g1.2; try simp only [next_new, next_set] at n1 k1
  · have hex := exE_le (by rw [← hE]; exact hX)
    have i1 : (a + 1) / 2 ≤ exE a b c := by unfold exE; omega
    have i2 : b ≤ exE a b c := by unfold exE; omega
    have i3 : c ≤ exE a b c := by unfold exE; omega
    have mx : ∀ H ts, builtinOp Tryz.prog H .max ts [.int .i64 (((a + 1) / 2 : Nat) : Int), .int .i64 (b : Int), .int .i64 (c : Int)] = some (.int .i64 ((exE a b c : Nat) : Int), H) := fun H ts => max3 H ts _ _ _
    have hmul := inv60_mul a b c
    have hpos := inv60_pos a b c
    have hle := inv60_le a b c
    have h145 : inv60 a b c < 60 ^ 145 := Nat.lt_of_le_of_lt hle (Nat.lt_of_le_of_lt (Nat.pow_le_pow_right (by decide) hex) ((Nat.pow_lt_pow_iff_right (by decide)).2 (by omega)))
    have hY : inv60 a b c = 2 ^ (2 * exE a b c - a) * 3 ^ (exE a b c - b) * 5 ^ (exE a b c - c) := rfl
    have p3 : 0 < 3 ^ (exE a b c - b) := Nat.pow_pos (by decide)
    have p5 : 0 < 5 ^ (exE a b c - c) := Nat.pow_pos (by decide)
    have y2 : 2 ^ (2 * exE a b c - a) * 3 ^ (exE a b c - b) < 60 ^ 145 := Nat.lt_of_le_of_lt (by rw [hY]; exact Nat.le_mul_of_pos_right _ p5) h145
    have y1 : 2 ^ (2 * exE a b c - a) < 60 ^ 145 := Nat.lt_of_le_of_lt (Nat.le_mul_of_pos_right _ p3) y2
    have y3 := h145
    rw [hY] at y3
    have fin : invR X (.tuple #[numV (inv60 a b c), .int .i64 ((exE a b c : Nat) : Int), .int .i64 0]) := .inl ⟨a, b, c, hE, hex, rfl⟩
    rw [hY] at fin
    generalize exE a b c = E at *
    obtain ⟨m, hm⟩ : ∃ m : Nat, m = (a + 1) / 2 := ⟨_, rfl⟩
    have e21 : ((a : Int) + 1) / 2 = (m : Int) := by omega
    rw [← hm] at mx
    obtain ⟨t2, ht2⟩ : ∃ t : Nat, t = 2 * E - a := ⟨_, rfl⟩
    obtain ⟨t3, ht3⟩ : ∃ t : Nat, t = E - b := ⟨_, rfl⟩
    obtain ⟨t5, ht5⟩ : ∃ t : Nat, t = E - c := ⟨_, rfl⟩
    have eA : (2 : Int) * (E : Int) - (a : Int) = (t2 : Int) := by omega
    have eB : (E : Int) - (b : Int) = (t3 : Int) := by omega
    have eC : (E : Int) - (c : Int) = (t5 : Int) := by omega
    rw [← ht2, ← ht3, ← ht5] at fin y3
    rw [← ht2, ← ht3] at y2
    rw [← ht2] at y1
    repeat' (first
    | ((with_reducible first | refine optP_id ?_ | refine condP_id ?_ | refine resP_id ?_ | refine callT_of ?_); conv => { arg 1; simp (disch := first | assumption | omega) only [push_cast, ↓reduceIte, reduceIte, Nat.reduceEqDiff, Nat.reduceAdd, Nat.reduceSub, Nat.reduceMul, Nat.reduceBEq, Int.reduceNeg, k1, e21, mx] }; first | ((with_reducible refine optP_id ?_); refine optP_some ?_) | ((with_reducible refine condP_id ?_); first | refine qcy ?_ | refine qcx ?_ | refine qco ?_ | refine condP_decn (fun hc => ?_) (fun hc => ?_) | refine condP_dec (fun hc => ?_) (fun hc => ?_) | refine qct ?_ | refine qcf ?_ | refine condP_bool (fun hc => ?_) (fun hc => ?_)) | ((with_reducible refine resP_id ?_); refine resP_three ?_) | ((with_reducible refine callT_to ?_); refine callP_plain ?_))
    | refine wk_seq ?_ | refine wk_region ?_ | refine wk_skip ?_ | refine wo_nil ?_ | refine wk_cond ?_ | refine wk_ret ?_ | refine wk_nil ?_ | refine wo_dst rfl (opR_call ?_) | refine wo_nodst (opR_call ?_) | refine wo_dst rfl (opR_pure ?_) | refine wo_nodst (opR_pure ?_)
    | refine give_ret ?_ | refine give_end ?_)
    refine (numof_w 1 (by omega) _).mono ?_
    rintro _ h2 ⟨rfl, g2⟩; have n2 := g2.1; have k2 := g2.2; try simp only [next_new, next_set] at n2 k2
    repeat' (first
    | ((with_reducible first | refine optP_id ?_ | refine condP_id ?_ | refine resP_id ?_ | refine callT_of ?_); conv => { arg 1; simp (disch := first | assumption | omega) only [push_cast, ↓reduceIte, reduceIte, Nat.reduceEqDiff, Nat.reduceAdd, Nat.reduceSub, Nat.reduceMul, Nat.reduceBEq, Int.reduceNeg, k1, k2, eA] }; first | ((with_reducible refine optP_id ?_); refine optP_some ?_) | ((with_reducible refine condP_id ?_); first | refine qcy ?_ | refine qcx ?_ | refine qco ?_ | refine condP_decn (fun hc => ?_) (fun hc => ?_) | refine condP_dec (fun hc => ?_) (fun hc => ?_) | refine qct ?_ | refine qcf ?_ | refine condP_bool (fun hc => ?_) (fun hc => ?_)) | ((with_reducible refine resP_id ?_); refine resP_three ?_) | ((with_reducible refine callT_to ?_); refine callP_plain ?_))
    | refine wk_seq ?_ | refine wk_region ?_ | refine wk_skip ?_ | refine wo_nil ?_ | refine wk_cond ?_ | refine wk_ret ?_ | refine wk_nil ?_ | refine wo_dst rfl (opR_call ?_) | refine wo_nodst (opR_call ?_) | refine wo_dst rfl (opR_pure ?_) | refine wo_nodst (opR_pure ?_)
    | refine give_ret ?_ | refine give_end ?_)
    refine (scaled_w 1 2 t2 (by rw [Nat.one_mul]; exact y1) (by omega) (by omega) (by omega) _).mono ?_
    rintro _ h3 ⟨rfl, g3⟩; have n3 := g3.1; have k3 := g3.2; try simp only [next_new, next_set] at n3 k3
    repeat' (first
    | ((with_reducible first | refine optP_id ?_ | refine condP_id ?_ | refine resP_id ?_ | refine callT_of ?_); conv => { arg 1; simp (disch := first | assumption | omega) only [push_cast, ↓reduceIte, reduceIte, Nat.reduceEqDiff, Nat.reduceAdd, Nat.reduceSub, Nat.reduceMul, Nat.reduceBEq, Int.reduceNeg, k1, k2, k3, eB] }; first | ((with_reducible refine optP_id ?_); refine optP_some ?_) | ((with_reducible refine condP_id ?_); first | refine qcy ?_ | refine qcx ?_ | refine qco ?_ | refine condP_decn (fun hc => ?_) (fun hc => ?_) | refine condP_dec (fun hc => ?_) (fun hc => ?_) | refine qct ?_ | refine qcf ?_ | refine condP_bool (fun hc => ?_) (fun hc => ?_)) | ((with_reducible refine resP_id ?_); refine resP_three ?_) | ((with_reducible refine callT_to ?_); refine callP_plain ?_))
    | refine wk_seq ?_ | refine wk_region ?_ | refine wk_skip ?_ | refine wo_nil ?_ | refine wk_cond ?_ | refine wk_ret ?_ | refine wk_nil ?_ | refine wo_dst rfl (opR_call ?_) | refine wo_nodst (opR_call ?_) | refine wo_dst rfl (opR_pure ?_) | refine wo_nodst (opR_pure ?_)
    | refine give_ret ?_ | refine give_end ?_)
    refine (scaled_w _ 3 t3 y2 (by omega) (by omega) (by omega) _).mono ?_
    rintro _ h4 ⟨rfl, g4⟩; have n4 := g4.1; have k4 := g4.2; try simp only [next_new, next_set] at n4 k4
    repeat' (first
    | ((with_reducible first | refine optP_id ?_ | refine condP_id ?_ | refine resP_id ?_ | refine callT_of ?_); conv => { arg 1; simp (disch := first | assumption | omega) only [push_cast, ↓reduceIte, reduceIte, Nat.reduceEqDiff, Nat.reduceAdd, Nat.reduceSub, Nat.reduceMul, Nat.reduceBEq, Int.reduceNeg, k1, k2, k3, k4, eC] }; first | ((with_reducible refine optP_id ?_); refine optP_some ?_) | ((with_reducible refine condP_id ?_); first | refine qcy ?_ | refine qcx ?_ | refine qco ?_ | refine condP_decn (fun hc => ?_) (fun hc => ?_) | refine condP_dec (fun hc => ?_) (fun hc => ?_) | refine qct ?_ | refine qcf ?_ | refine condP_bool (fun hc => ?_) (fun hc => ?_)) | ((with_reducible refine resP_id ?_); refine resP_three ?_) | ((with_reducible refine callT_to ?_); refine callP_plain ?_))
    | refine wk_seq ?_ | refine wk_region ?_ | refine wk_skip ?_ | refine wo_nil ?_ | refine wk_cond ?_ | refine wk_ret ?_ | refine wk_nil ?_ | refine wo_dst rfl (opR_call ?_) | refine wo_nodst (opR_call ?_) | refine wo_dst rfl (opR_pure ?_) | refine wo_nodst (opR_pure ?_)
    | refine give_ret ?_ | refine give_end ?_)
    refine (scaled_w _ 5 t5 y3 (by omega) (by omega) (by omega) _).mono ?_
    rintro _ h5 ⟨rfl, g5⟩; have n5 := g5.1; have k5 := g5.2; try simp only [next_new, next_set] at n5 k5
    rw [num_cells] at fin
    rw [num_cells]
    generalize hYY : 2 ^ t2 * 3 ^ t3 * 5 ^ t5 = YY at *
    have c1 : h5.get (h.next + 1) = some (.cells Z 87 true) := by rw [k5 _ (by omega), k4 _ (by omega), k3 _ (by omega), k2 _ (by omega), k1 _ (by omega)]; simp (disch := first | assumption | omega) only [push_cast, ↓reduceIte, reduceIte, Nat.reduceEqDiff, Nat.reduceAdd, Nat.reduceSub, Nat.reduceMul, Nat.reduceBEq, Int.reduceNeg]
    have s1 := storeK_all (num_ne YY) (num_len YY) (ints_flat .u8 (numD YY)) c1 (over_all (by rw [← hZ, num_len, num_len]))
    have s2 := storeK_all (H := h5.set (h.next + 1) (.cells (ints .u8 (numD YY)) 87 true)) (b := h.next + 1) (e := 87) (num_ne YY) (num_len YY) (ints_flat .u8 (numD YY)) (by simp (disch := first | assumption | omega) only [push_cast, ↓reduceIte, reduceIte, Nat.reduceEqDiff, Nat.reduceAdd, Nat.reduceSub, Nat.reduceMul, Nat.reduceBEq, Int.reduceNeg]) (over_all rfl)
    have hcY : takeN 146 (ints .u8 (numD YY)) = some (ints .u8 (numD YY)) := num_cut YY
    generalize ints .u8 (numD YY) = CY at *
    repeat' (first
    | ((with_reducible first | refine optP_id ?_ | refine condP_id ?_ | refine resP_id ?_ | refine callT_of ?_); conv => { arg 1; simp (disch := first | assumption | omega) only [push_cast, ↓reduceIte, reduceIte, Nat.reduceEqDiff, Nat.reduceAdd, Nat.reduceSub, Nat.reduceMul, Nat.reduceBEq, Int.reduceNeg, s1, s2, hcY] }; first | ((with_reducible refine optP_id ?_); refine optP_some ?_) | ((with_reducible refine condP_id ?_); first | refine qcy ?_ | refine qcx ?_ | refine qco ?_ | refine condP_decn (fun hc => ?_) (fun hc => ?_) | refine condP_dec (fun hc => ?_) (fun hc => ?_) | refine qct ?_ | refine qcf ?_ | refine condP_bool (fun hc => ?_) (fun hc => ?_)) | ((with_reducible refine resP_id ?_); refine resP_three ?_) | ((with_reducible refine callT_to ?_); refine callP_plain ?_))
    | refine wk_seq ?_ | refine wk_region ?_ | refine wk_skip ?_ | refine wo_nil ?_ | refine wk_cond ?_ | refine wk_ret ?_ | refine wk_nil ?_ | refine wo_dst rfl (opR_call ?_) | refine wo_nodst (opR_call ?_) | refine wo_dst rfl (opR_pure ?_) | refine wo_nodst (opR_pure ?_)
    | refine give_ret ?_ | refine give_end ?_)
    exact ⟨fin, by (repeat (first | exact Gr.refl _ | assumption | (refine Gr.trans ?_ (by assumption)) | refine Gr.set ?_ (by first | exact Nat.le_refl _ | omega | (simp only [next_new, next_set]; omega)) _ | refine Gr.new ?_ _))⟩
  · have fin : invR X (.tuple #[numV 0, .int .i64 0, .int .i64 31]) := .inr ⟨hi, rfl⟩
    rw [num_cells, hZ] at fin
    have c1 : h1.get (h.next + 1) = some (.cells Z 87 true) := by rw [k1 _ (by omega)]; simp (disch := first | assumption | omega) only [push_cast, ↓reduceIte, reduceIte, Nat.reduceEqDiff, Nat.reduceAdd, Nat.reduceSub, Nat.reduceMul, Nat.reduceBEq, Int.reduceNeg]
    have zne : Z ≠ [] := by rw [← hZ]; exact num_ne _
    have znl : Z.length = 146 := by rw [← hZ]; exact num_len _
    have znf : allFlat Z = true := by rw [← hZ]; exact ints_flat _ _
    have s1 := storeK_all zne znl znf c1 (over_all rfl)
    have hcz : takeN 146 Z = some Z := by rw [← hZ]; exact num_cut 0
    repeat' (first
    | ((with_reducible first | refine optP_id ?_ | refine condP_id ?_ | refine resP_id ?_ | refine callT_of ?_); conv => { arg 1; simp (disch := first | assumption | omega) only [push_cast, ↓reduceIte, reduceIte, Nat.reduceEqDiff, Nat.reduceAdd, Nat.reduceSub, Nat.reduceMul, Nat.reduceBEq, Int.reduceNeg, k1, bv, s1, hcz] }; first | ((with_reducible refine optP_id ?_); refine optP_some ?_) | ((with_reducible refine condP_id ?_); first | refine qcy ?_ | refine qcx ?_ | refine qco ?_ | refine condP_decn (fun hc => ?_) (fun hc => ?_) | refine condP_dec (fun hc => ?_) (fun hc => ?_) | refine qct ?_ | refine qcf ?_ | refine condP_bool (fun hc => ?_) (fun hc => ?_)) | ((with_reducible refine resP_id ?_); refine resP_three ?_) | ((with_reducible refine callT_to ?_); refine callP_plain ?_))
    | refine wk_seq ?_ | refine wk_region ?_ | refine wk_skip ?_ | refine wo_nil ?_ | refine wk_cond ?_ | refine wk_ret ?_ | refine wk_nil ?_ | refine wo_dst rfl (opR_call ?_) | refine wo_nodst (opR_call ?_) | refine wo_dst rfl (opR_pure ?_) | refine wo_nodst (opR_pure ?_)
    | refine give_ret ?_ | refine give_end ?_)
    exact ⟨fin, by (repeat (first | exact Gr.refl _ | assumption | (refine Gr.trans ?_ (by assumption)) | refine Gr.set ?_ (by first | exact Nat.le_refl _ | omega | (simp only [next_new, next_set]; omega)) _ | refine Gr.new ?_ _))⟩
end Go.Proofs.YtelepfablohdmaaGreatDoor
/- Contracts: nonzero, Regular, Recip. -/
namespace Go.Proofs.YtelepfablohdmaaGreatDoor
open Go.Ev
set_option maxRecDepth 100000 in
set_option maxHeartbeats 8000000 in
theorem nonzero_w (l : List Int) (hl : valid l) (ll : l.length ≤ 16) (v : Value) (h : AHeap) (hv : IIn h v l) :
    Wc pr (.func 80) [v] h fun r h' => r = .tuple #[numV (valN l), .int .i64 (if l = [] then 9 else 0)] ∧ Gr h h' := by
  have wl := fun H hi => numfrom_w l hl.1 0 (by omega) v H hi
  rw [Nat.pow_zero, Nat.mul_one] at wl
  have hv0 := hv
  obtain ⟨a, c, rfl, _⟩ := hv
  have bv := bv87
  have zv := zv87
  refine wc_func Tryz.func80 rfl rfl rfl rfl ?_
  generalize hZ : ints .u8 (numD 0) = Z at *
  have zne : Z ≠ [] := by rw [← hZ]; exact num_ne _
  have znl : Z.length = 146 := by rw [← hZ]; exact num_len _
  have znf : allFlat Z = true := by rw [← hZ]; exact ints_flat _ _
  have hcz : takeN 146 Z = some Z := by rw [← hZ]; exact num_cut 0
  repeat' (first
    | ((with_reducible first | refine optP_id ?_ | refine condP_id ?_ | refine resP_id ?_ | refine callT_of ?_); conv => { arg 1; simp (disch := first | assumption | omega) only [push_cast, ↓reduceIte, reduceIte, Nat.reduceEqDiff, Nat.reduceAdd, Nat.reduceSub, Nat.reduceMul, Nat.reduceBEq, Int.reduceNeg, zv] }; first | ((with_reducible refine optP_id ?_); refine optP_some ?_) | ((with_reducible refine condP_id ?_); first | refine qcy ?_ | refine qcx ?_ | refine qco ?_ | refine condP_decn (fun hc => ?_) (fun hc => ?_) | refine condP_dec (fun hc => ?_) (fun hc => ?_) | refine qct ?_ | refine qcf ?_ | refine condP_bool (fun hc => ?_) (fun hc => ?_)) | ((with_reducible refine resP_id ?_); refine resP_two ?_) | ((with_reducible refine callT_to ?_); refine callP_plain ?_))
    | refine wk_seq ?_ | refine wk_region ?_ | refine wk_skip ?_ | refine wo_nil ?_ | refine wk_cond ?_ | refine wk_ret ?_ | refine wk_nil ?_ | refine wo_dst rfl (opR_call ?_) | refine wo_nodst (opR_call ?_) | refine wo_dst rfl (opR_pure ?_) | refine wo_nodst (opR_pure ?_)
    | refine give_ret ?_ | refine give_end ?_)
  refine (check_w l _ _ (SlIn.gr hv0 (by (repeat (first | exact Gr.refl _ | assumption | (refine Gr.trans ?_ (by assumption)) | refine Gr.set ?_ (by first | exact Nat.le_refl _ | omega | (simp only [next_new, next_set]; omega)) _ | refine Gr.new ?_ _)))) (by omega)).mono ?_
  rintro _ _ ⟨rfl, rfl⟩
  rw [valid_check hl ll]
  by_cases hn : l = []
  · have n0 : (l.length : Int) = 0 := len0.2 hn
    have s1 := storeK_all (H := h.new (.cells Z 87 true)) (b := h.next) (e := 87) zne znl znf (by simp (disch := first | assumption | omega) only [push_cast, ↓reduceIte, reduceIte, Nat.reduceEqDiff, Nat.reduceAdd, Nat.reduceSub, Nat.reduceMul, Nat.reduceBEq, Int.reduceNeg]) (over_all rfl)
    rw [if_pos hn]
    have hv : valN l = 0 := by rw [hn]; rfl
    rw [hv, num_cells, hZ]
    repeat' (first
    | ((with_reducible first | refine optP_id ?_ | refine condP_id ?_ | refine resP_id ?_ | refine callT_of ?_); conv => { arg 1; simp (disch := first | assumption | omega) only [push_cast, ↓reduceIte, reduceIte, Nat.reduceEqDiff, Nat.reduceAdd, Nat.reduceSub, Nat.reduceMul, Nat.reduceBEq, Int.reduceNeg, zv, bv, s1, hcz] }; first | ((with_reducible refine optP_id ?_); refine optP_some ?_) | ((with_reducible refine condP_id ?_); first | refine qcy ?_ | refine qcx ?_ | refine qco ?_ | refine condP_decn (fun hc => ?_) (fun hc => ?_) | refine condP_dec (fun hc => ?_) (fun hc => ?_) | refine qct ?_ | refine qcf ?_ | refine condP_bool (fun hc => ?_) (fun hc => ?_)) | ((with_reducible refine resP_id ?_); refine resP_two ?_) | ((with_reducible refine callT_to ?_); refine callP_plain ?_))
    | refine wk_seq ?_ | refine wk_region ?_ | refine wk_skip ?_ | refine wo_nil ?_ | refine wk_cond ?_ | refine wk_ret ?_ | refine wk_nil ?_ | refine wo_dst rfl (opR_call ?_) | refine wo_nodst (opR_call ?_) | refine wo_dst rfl (opR_pure ?_) | refine wo_nodst (opR_pure ?_)
    | refine give_ret ?_ | refine give_end ?_)
    exact ⟨rfl, by (repeat (first | exact Gr.refl _ | assumption | (refine Gr.trans ?_ (by assumption)) | refine Gr.set ?_ (by first | exact Nat.le_refl _ | omega | (simp only [next_new, next_set]; omega)) _ | refine Gr.new ?_ _))⟩
  · have n0 : ¬ (l.length : Int) = 0 := fun h => hn (len0.1 h)
    rw [if_neg hn]
    repeat' (first
    | ((with_reducible first | refine optP_id ?_ | refine condP_id ?_ | refine resP_id ?_ | refine callT_of ?_); conv => { arg 1; simp (disch := first | assumption | omega) only [push_cast, ↓reduceIte, reduceIte, Nat.reduceEqDiff, Nat.reduceAdd, Nat.reduceSub, Nat.reduceMul, Nat.reduceBEq, Int.reduceNeg, zv] }; first | ((with_reducible refine optP_id ?_); refine optP_some ?_) | ((with_reducible refine condP_id ?_); first | refine qcy ?_ | refine qcx ?_ | refine qco ?_ | refine condP_decn (fun hc => ?_) (fun hc => ?_) | refine condP_dec (fun hc => ?_) (fun hc => ?_) | refine qct ?_ | refine qcf ?_ | refine condP_bool (fun hc => ?_) (fun hc => ?_)) | ((with_reducible refine resP_id ?_); refine resP_two ?_) | ((with_reducible refine callT_to ?_); refine callP_plain ?_))
    | refine wk_seq ?_ | refine wk_region ?_ | refine wk_skip ?_ | refine wo_nil ?_ | refine wk_cond ?_ | refine wk_ret ?_ | refine wk_nil ?_ | refine wo_dst rfl (opR_call ?_) | refine wo_nodst (opR_call ?_) | refine wo_dst rfl (opR_pure ?_) | refine wo_nodst (opR_pure ?_)
    | refine give_ret ?_ | refine give_end ?_)
    refine (wl _ (SlIn.gr hv0 (by (repeat (first | exact Gr.refl _ | assumption | (refine Gr.trans ?_ (by assumption)) | refine Gr.set ?_ (by first | exact Nat.le_refl _ | omega | (simp only [next_new, next_set]; omega)) _ | refine Gr.new ?_ _))))).mono ?_
    rintro _ h1 ⟨rfl, g1⟩; have n1 := g1.1; have k1 := g1.2; try simp only [next_new, next_set] at n1 k1
    rw [num_cells]
    have c1 : h1.get h.next = some (.cells Z 87 true) := by rw [k1 _ (by omega)]; simp (disch := first | assumption | omega) only [push_cast, ↓reduceIte, reduceIte, Nat.reduceEqDiff, Nat.reduceAdd, Nat.reduceSub, Nat.reduceMul, Nat.reduceBEq, Int.reduceNeg]
    have s1 := storeK_all (num_ne (valN l)) (num_len (valN l)) (ints_flat .u8 (numD (valN l))) c1 (over_all (by rw [← hZ, num_len, num_len]))
    have hcY : takeN 146 (ints .u8 (numD (valN l))) = some (ints .u8 (numD (valN l))) := num_cut _
    generalize ints .u8 (numD (valN l)) = CY at *
    repeat' (first
    | ((with_reducible first | refine optP_id ?_ | refine condP_id ?_ | refine resP_id ?_ | refine callT_of ?_); conv => { arg 1; simp (disch := first | assumption | omega) only [push_cast, ↓reduceIte, reduceIte, Nat.reduceEqDiff, Nat.reduceAdd, Nat.reduceSub, Nat.reduceMul, Nat.reduceBEq, Int.reduceNeg, k1, s1, hcY] }; first | ((with_reducible refine optP_id ?_); refine optP_some ?_) | ((with_reducible refine condP_id ?_); first | refine qcy ?_ | refine qcx ?_ | refine qco ?_ | refine condP_decn (fun hc => ?_) (fun hc => ?_) | refine condP_dec (fun hc => ?_) (fun hc => ?_) | refine qct ?_ | refine qcf ?_ | refine condP_bool (fun hc => ?_) (fun hc => ?_)) | ((with_reducible refine resP_id ?_); refine resP_two ?_) | ((with_reducible refine callT_to ?_); refine callP_plain ?_))
    | refine wk_seq ?_ | refine wk_region ?_ | refine wk_skip ?_ | refine wo_nil ?_ | refine wk_cond ?_ | refine wk_ret ?_ | refine wk_nil ?_ | refine wo_dst rfl (opR_call ?_) | refine wo_nodst (opR_call ?_) | refine wo_dst rfl (opR_pure ?_) | refine wo_nodst (opR_pure ?_)
    | refine give_ret ?_ | refine give_end ?_)
    exact ⟨rfl, by (repeat (first | exact Gr.refl _ | assumption | (refine Gr.trans ?_ (by assumption)) | refine Gr.set ?_ (by first | exact Nat.le_refl _ | omega | (simp only [next_new, next_set]; omega)) _ | refine Gr.new ?_ _))⟩
/-- what Regular returns -/
def regR (l : List Int) (r : Value) : Prop := (l = [] ∧ r = .tuple #[.int .i64 0, .int .i64 0, .int .i64 0, .int .i64 9]) ∨ (l ≠ [] ∧ expR (valN l) r)
set_option maxRecDepth 100000 in
set_option maxHeartbeats 8000000 in
theorem regular_w (l : List Int) (hl : valid l) (ll : l.length ≤ 16) (v : Value) (h : AHeap) (hv : IIn h v l) :
    Wc pr (.func 27) [v] h fun r h' => regR l r ∧ Gr h h' := by
  have xl := valN_lt16 hl ll
  have xl146 : valN l < 60 ^ 146 := Nat.lt_of_lt_of_le xl (Nat.pow_le_pow_right (by decide) (by omega))
  have wz := fun H hi => nonzero_w l hl ll v H hi
  rw [num_cells] at wz
  have hv0 := hv
  obtain ⟨a, c, rfl, _⟩ := hv
  have zv := zv87
  refine wc_func Tryz.func27 rfl rfl rfl rfl ?_
  generalize hZ : ints .u8 (numD 0) = Z at *
  have hfx := ints_flat .u8 (numD (valN l))
  have hne := num_ne (valN l)
  have hnl := num_len (valN l)
  have hcx : takeN 146 (ints .u8 (numD (valN l))) = some (ints .u8 (numD (valN l))) := num_cut _
  have ov : over0 (ints .u8 (numD (valN l))) Z = some (ints .u8 (numD (valN l))) := over_all (by rw [← hZ, num_len, num_len])
  by_cases hn : l = []
  · rw [if_pos hn] at wz
    generalize ints .u8 (numD (valN l)) = C at *
    repeat' (first
    | ((with_reducible first | refine optP_id ?_ | refine condP_id ?_ | refine resP_id ?_ | refine callT_of ?_); conv => { arg 1; simp (disch := first | assumption | omega) only [push_cast, ↓reduceIte, reduceIte, Nat.reduceEqDiff, Nat.reduceAdd, Nat.reduceSub, Nat.reduceMul, Nat.reduceBEq, Int.reduceNeg] }; first | ((with_reducible refine optP_id ?_); refine optP_some ?_) | ((with_reducible refine condP_id ?_); first | refine qcy ?_ | refine qcx ?_ | refine qco ?_ | refine condP_decn (fun hc => ?_) (fun hc => ?_) | refine condP_dec (fun hc => ?_) (fun hc => ?_) | refine qct ?_ | refine qcf ?_ | refine condP_bool (fun hc => ?_) (fun hc => ?_)) | ((with_reducible refine resP_id ?_); refine resP_four ?_) | ((with_reducible refine callT_to ?_); refine callP_plain ?_))
    | refine wk_seq ?_ | refine wk_region ?_ | refine wk_skip ?_ | refine wo_nil ?_ | refine wk_cond ?_ | refine wk_ret ?_ | refine wk_nil ?_ | refine wo_dst rfl (opR_call ?_) | refine wo_nodst (opR_call ?_) | refine wo_dst rfl (opR_pure ?_) | refine wo_nodst (opR_pure ?_)
    | refine give_ret ?_ | refine give_end ?_)
    refine (wz _ hv0).mono ?_
    rintro _ h1 ⟨rfl, g1⟩; have n1 := g1.1; have k1 := g1.2; try simp only [next_new, next_set] at n1 k1
    have s1 := storeK_all (H := h1.new (.cells Z 87 true)) (b := h1.next) (e := 87) hne hnl hfx (by simp (disch := first | assumption | omega) only [push_cast, ↓reduceIte, reduceIte, Nat.reduceEqDiff, Nat.reduceAdd, Nat.reduceSub, Nat.reduceMul, Nat.reduceBEq, Int.reduceNeg]) ov
    repeat' (first
    | ((with_reducible first | refine optP_id ?_ | refine condP_id ?_ | refine resP_id ?_ | refine callT_of ?_); conv => { arg 1; simp (disch := first | assumption | omega) only [push_cast, ↓reduceIte, reduceIte, Nat.reduceEqDiff, Nat.reduceAdd, Nat.reduceSub, Nat.reduceMul, Nat.reduceBEq, Int.reduceNeg, zv, s1] }; first | ((with_reducible refine optP_id ?_); refine optP_some ?_) | ((with_reducible refine condP_id ?_); first | refine qcy ?_ | refine qcx ?_ | refine qco ?_ | refine condP_decn (fun hc => ?_) (fun hc => ?_) | refine condP_dec (fun hc => ?_) (fun hc => ?_) | refine qct ?_ | refine qcf ?_ | refine condP_bool (fun hc => ?_) (fun hc => ?_)) | ((with_reducible refine resP_id ?_); refine resP_four ?_) | ((with_reducible refine callT_to ?_); refine callP_plain ?_))
    | refine wk_seq ?_ | refine wk_region ?_ | refine wk_skip ?_ | refine wo_nil ?_ | refine wk_cond ?_ | refine wk_ret ?_ | refine wk_nil ?_ | refine wo_dst rfl (opR_call ?_) | refine wo_nodst (opR_call ?_) | refine wo_dst rfl (opR_pure ?_) | refine wo_nodst (opR_pure ?_)
    | refine give_ret ?_ | refine give_end ?_)
    exact ⟨.inl ⟨hn, rfl⟩, by (repeat (first | exact Gr.refl _ | assumption | (refine Gr.trans ?_ (by assumption)) | refine Gr.set ?_ (by first | exact Nat.le_refl _ | omega | (simp only [next_new, next_set]; omega)) _ | refine Gr.new ?_ _))⟩
  · rw [if_neg hn] at wz
    have we := fun H => exp_w (valN l) (valN_pos hl hn) xl146 H
    rw [num_cells] at we
    generalize ints .u8 (numD (valN l)) = C at *
    repeat' (first
    | ((with_reducible first | refine optP_id ?_ | refine condP_id ?_ | refine resP_id ?_ | refine callT_of ?_); conv => { arg 1; simp (disch := first | assumption | omega) only [push_cast, ↓reduceIte, reduceIte, Nat.reduceEqDiff, Nat.reduceAdd, Nat.reduceSub, Nat.reduceMul, Nat.reduceBEq, Int.reduceNeg] }; first | ((with_reducible refine optP_id ?_); refine optP_some ?_) | ((with_reducible refine condP_id ?_); first | refine qcy ?_ | refine qcx ?_ | refine qco ?_ | refine condP_decn (fun hc => ?_) (fun hc => ?_) | refine condP_dec (fun hc => ?_) (fun hc => ?_) | refine qct ?_ | refine qcf ?_ | refine condP_bool (fun hc => ?_) (fun hc => ?_)) | ((with_reducible refine resP_id ?_); refine resP_four ?_) | ((with_reducible refine callT_to ?_); refine callP_plain ?_))
    | refine wk_seq ?_ | refine wk_region ?_ | refine wk_skip ?_ | refine wo_nil ?_ | refine wk_cond ?_ | refine wk_ret ?_ | refine wk_nil ?_ | refine wo_dst rfl (opR_call ?_) | refine wo_nodst (opR_call ?_) | refine wo_dst rfl (opR_pure ?_) | refine wo_nodst (opR_pure ?_)
    | refine give_ret ?_ | refine give_end ?_)
    refine (wz _ hv0).mono ?_
    rintro _ h1 ⟨rfl, g1⟩; have n1 := g1.1; have k1 := g1.2; try simp only [next_new, next_set] at n1 k1
    have s1 := storeK_all (H := h1.new (.cells Z 87 true)) (b := h1.next) (e := 87) hne hnl hfx (by simp (disch := first | assumption | omega) only [push_cast, ↓reduceIte, reduceIte, Nat.reduceEqDiff, Nat.reduceAdd, Nat.reduceSub, Nat.reduceMul, Nat.reduceBEq, Int.reduceNeg]) ov
    repeat' (first
    | ((with_reducible first | refine optP_id ?_ | refine condP_id ?_ | refine resP_id ?_ | refine callT_of ?_); conv => { arg 1; simp (disch := first | assumption | omega) only [push_cast, ↓reduceIte, reduceIte, Nat.reduceEqDiff, Nat.reduceAdd, Nat.reduceSub, Nat.reduceMul, Nat.reduceBEq, Int.reduceNeg, zv, s1, hcx] }; first | ((with_reducible refine optP_id ?_); refine optP_some ?_) | ((with_reducible refine condP_id ?_); first | refine qcy ?_ | refine qcx ?_ | refine qco ?_ | refine condP_decn (fun hc => ?_) (fun hc => ?_) | refine condP_dec (fun hc => ?_) (fun hc => ?_) | refine qct ?_ | refine qcf ?_ | refine condP_bool (fun hc => ?_) (fun hc => ?_)) | ((with_reducible refine resP_id ?_); refine resP_four ?_) | ((with_reducible refine callT_to ?_); refine callP_plain ?_))
    | refine wk_seq ?_ | refine wk_region ?_ | refine wk_skip ?_ | refine wo_nil ?_ | refine wk_cond ?_ | refine wk_ret ?_ | refine wk_nil ?_ | refine wo_dst rfl (opR_call ?_) | refine wo_nodst (opR_call ?_) | refine wo_dst rfl (opR_pure ?_) | refine wo_nodst (opR_pure ?_)
    | refine give_ret ?_ | refine give_end ?_)
    refine (we _).mono ?_
    rintro _ h2 ⟨he, g2⟩; have n2 := g2.1; have k2 := g2.2; try simp only [next_new, next_set] at n2 k2
    have fin : ∀ r, expR (valN l) r → regR l r := fun r h => .inr ⟨hn, h⟩
    rcases he with ⟨i, j, k, q1, q2, q3, q4, rfl⟩ | ⟨hi, rfl⟩
    · repeat' (first
    | ((with_reducible first | refine optP_id ?_ | refine condP_id ?_ | refine resP_id ?_ | refine callT_of ?_); conv => { arg 1; simp (disch := first | assumption | omega) only [push_cast, ↓reduceIte, reduceIte, Nat.reduceEqDiff, Nat.reduceAdd, Nat.reduceSub, Nat.reduceMul, Nat.reduceBEq, Int.reduceNeg, k2] }; first | ((with_reducible refine optP_id ?_); refine optP_some ?_) | ((with_reducible refine condP_id ?_); first | refine qcy ?_ | refine qcx ?_ | refine qco ?_ | refine condP_decn (fun hc => ?_) (fun hc => ?_) | refine condP_dec (fun hc => ?_) (fun hc => ?_) | refine qct ?_ | refine qcf ?_ | refine condP_bool (fun hc => ?_) (fun hc => ?_)) | ((with_reducible refine resP_id ?_); refine resP_four ?_) | ((with_reducible refine callT_to ?_); refine callP_plain ?_))
    | refine wk_seq ?_ | refine wk_region ?_ | refine wk_skip ?_ | refine wo_nil ?_ | refine wk_cond ?_ | refine wk_ret ?_ | refine wk_nil ?_ | refine wo_dst rfl (opR_call ?_) | refine wo_nodst (opR_call ?_) | refine wo_dst rfl (opR_pure ?_) | refine wo_nodst (opR_pure ?_)
    | refine give_ret ?_ | refine give_end ?_)
      exact ⟨fin _ (.inl ⟨i, j, k, q1, q2, q3, q4, rfl⟩), by (repeat (first | exact Gr.refl _ | assumption | (refine Gr.trans ?_ (by assumption)) | refine Gr.set ?_ (by first | exact Nat.le_refl _ | omega | (simp only [next_new, next_set]; omega)) _ | refine Gr.new ?_ _))⟩
    · repeat' (first
    | ((with_reducible first | refine optP_id ?_ | refine condP_id ?_ | refine resP_id ?_ | refine callT_of ?_); conv => { arg 1; simp (disch := first | assumption | omega) only [push_cast, ↓reduceIte, reduceIte, Nat.reduceEqDiff, Nat.reduceAdd, Nat.reduceSub, Nat.reduceMul, Nat.reduceBEq, Int.reduceNeg, k2] }; first | ((with_reducible refine optP_id ?_); refine optP_some ?_) | ((with_reducible refine condP_id ?_); first | refine qcy ?_ | refine qcx ?_ | refine qco ?_ | refine condP_decn (fun hc => ?_) (fun hc => ?_) | refine condP_dec (fun hc => ?_) (fun hc => ?_) | refine qct ?_ | refine qcf ?_ | refine condP_bool (fun hc => ?_) (fun hc => ?_)) | ((with_reducible refine resP_id ?_); refine resP_four ?_) | ((with_reducible refine callT_to ?_); refine callP_plain ?_))
    | refine wk_seq ?_ | refine wk_region ?_ | refine wk_skip ?_ | refine wo_nil ?_ | refine wk_cond ?_ | refine wk_ret ?_ | refine wk_nil ?_ | refine wo_dst rfl (opR_call ?_) | refine wo_nodst (opR_call ?_) | refine wo_dst rfl (opR_pure ?_) | refine wo_nodst (opR_pure ?_)
    | refine give_ret ?_ | refine give_end ?_)
      exact ⟨fin _ (.inr ⟨hi, rfl⟩), by (repeat (first | exact Gr.refl _ | assumption | (refine Gr.trans ?_ (by assumption)) | refine Gr.set ?_ (by first | exact Nat.le_refl _ | omega | (simp only [next_new, next_set]; omega)) _ | refine Gr.new ?_ _))⟩
theorem inv60_mod (a b c : Nat) : inv60 a b c % 60 ≠ 0 := fun h => by
  have h60 := Nat.dvd_of_mod_eq_zero h
  unfold inv60 at h60
  have d2 := dvd_two (a := 2) (Nat.dvd_trans (by decide : 2 ^ 2 ∣ 60) h60)
  have d3 := dvd_three (a := 1) (Nat.dvd_trans (by decide : 3 ^ 1 ∣ 60) h60)
  have d5 := dvd_five (a := 1) (Nat.dvd_trans (by decide : 5 ^ 1 ∣ 60) h60)
  have : exE a b c = max (max ((a + 1) / 2) b) c := rfl
  omega
theorem no_shift {d e Y : Nat} (h : d * 60 ^ e = Y) (hY : Y % 60 ≠ 0) : e = 0 := by
  rcases Nat.eq_zero_or_pos e with q | q
  · exact q
  · obtain ⟨y, rfl⟩ : ∃ y, e = y + 1 := ⟨e - 1, by omega⟩
    exfalso
    apply hY
    rw [← h, Nat.pow_succ, ← Nat.mul_assoc, Nat.mul_mod_left]
/-- what Recip returns -/
def recR (l : List Int) (r : Value) (h' : AHeap) : Prop := (l = [] ∧ r = .tuple #[.slice none 0 0, .int .i64 9]) ∨ (l ≠ [] ∧ irr (valN l) ∧ r = .tuple #[.slice none 0 0, .int .i64 31]) ∨ (l ≠ [] ∧ ∃ a b c, valN l = 2 ^ a * 3 ^ b * 5 ^ c ∧ exE a b c ≤ 100 ∧ digR (inv60 a b c) r h')
set_option maxRecDepth 100000 in
set_option maxHeartbeats 8000000 in
theorem recip2_w (l : List Int) (hl : valid l) (ll : l.length ≤ 16) (v : Value) (h : AHeap) (hv : IIn h v l) :
    Wc pr (.func 29) [v] h fun r h' => (recR l r h' ∧ freR h.next r) ∧ Gr h h' := by
  have xl := valN_lt16 hl ll
  have wz := fun H hi => nonzero_w l hl ll v H hi
  rw [num_cells] at wz
  have hv0 := hv
  obtain ⟨a, c, rfl, _⟩ := hv
  have zv := zv87
  refine wc_func Tryz.func29 rfl rfl rfl rfl ?_
  generalize hZ : ints .u8 (numD 0) = Z at *
  have hfx := ints_flat .u8 (numD (valN l))
  have hne := num_ne (valN l)
  have hnl := num_len (valN l)
  have hcx : takeN 146 (ints .u8 (numD (valN l))) = some (ints .u8 (numD (valN l))) := num_cut _
  have ov : over0 (ints .u8 (numD (valN l))) Z = some (ints .u8 (numD (valN l))) := over_all (by rw [← hZ, num_len, num_len])
  by_cases hn : l = []
  · rw [if_pos hn] at wz
    generalize ints .u8 (numD (valN l)) = C at *
    repeat' (first
    | ((with_reducible first | refine optP_id ?_ | refine condP_id ?_ | refine resP_id ?_ | refine callT_of ?_); conv => { arg 1; simp (disch := first | assumption | omega) only [push_cast, ↓reduceIte, reduceIte, Nat.reduceEqDiff, Nat.reduceAdd, Nat.reduceSub, Nat.reduceMul, Nat.reduceBEq, Int.reduceNeg] }; first | ((with_reducible refine optP_id ?_); refine optP_some ?_) | ((with_reducible refine condP_id ?_); first | refine qcy ?_ | refine qcx ?_ | refine qco ?_ | refine condP_decn (fun hc => ?_) (fun hc => ?_) | refine condP_dec (fun hc => ?_) (fun hc => ?_) | refine qct ?_ | refine qcf ?_ | refine condP_bool (fun hc => ?_) (fun hc => ?_)) | ((with_reducible refine resP_id ?_); refine resP_two ?_) | ((with_reducible refine callT_to ?_); refine callP_plain ?_))
    | refine wk_seq ?_ | refine wk_region ?_ | refine wk_skip ?_ | refine wo_nil ?_ | refine wk_cond ?_ | refine wk_ret ?_ | refine wk_nil ?_ | refine wo_dst rfl (opR_call ?_) | refine wo_nodst (opR_call ?_) | refine wo_dst rfl (opR_pure ?_) | refine wo_nodst (opR_pure ?_)
    | refine give_ret ?_ | refine give_end ?_)
    refine (wz _ hv0).mono ?_
    rintro _ h1 ⟨rfl, g1⟩; have n1 := g1.1; have k1 := g1.2; try simp only [next_new, next_set] at n1 k1
    have s1 := storeK_all (H := h1.new (.cells Z 87 true)) (b := h1.next) (e := 87) hne hnl hfx (by simp (disch := first | assumption | omega) only [push_cast, ↓reduceIte, reduceIte, Nat.reduceEqDiff, Nat.reduceAdd, Nat.reduceSub, Nat.reduceMul, Nat.reduceBEq, Int.reduceNeg]) ov
    repeat' (first
    | ((with_reducible first | refine optP_id ?_ | refine condP_id ?_ | refine resP_id ?_ | refine callT_of ?_); conv => { arg 1; simp (disch := first | assumption | omega) only [push_cast, ↓reduceIte, reduceIte, Nat.reduceEqDiff, Nat.reduceAdd, Nat.reduceSub, Nat.reduceMul, Nat.reduceBEq, Int.reduceNeg, zv, s1] }; first | ((with_reducible refine optP_id ?_); refine optP_some ?_) | ((with_reducible refine condP_id ?_); first | refine qcy ?_ | refine qcx ?_ | refine qco ?_ | refine condP_decn (fun hc => ?_) (fun hc => ?_) | refine condP_dec (fun hc => ?_) (fun hc => ?_) | refine qct ?_ | refine qcf ?_ | refine condP_bool (fun hc => ?_) (fun hc => ?_)) | ((with_reducible refine resP_id ?_); refine resP_two ?_) | ((with_reducible refine callT_to ?_); refine callP_plain ?_))
    | refine wk_seq ?_ | refine wk_region ?_ | refine wk_skip ?_ | refine wo_nil ?_ | refine wk_cond ?_ | refine wk_ret ?_ | refine wk_nil ?_ | refine wo_dst rfl (opR_call ?_) | refine wo_nodst (opR_call ?_) | refine wo_dst rfl (opR_pure ?_) | refine wo_nodst (opR_pure ?_)
    | refine give_ret ?_ | refine give_end ?_)
    exact ⟨⟨.inl ⟨hn, rfl⟩, fun _ _ _ _ hh => by cases hh⟩, by (repeat (first | exact Gr.refl _ | assumption | (refine Gr.trans ?_ (by assumption)) | refine Gr.set ?_ (by first | exact Nat.le_refl _ | omega | (simp only [next_new, next_set]; omega)) _ | refine Gr.new ?_ _))⟩
  · rw [if_neg hn] at wz
    have wi := fun H => inv_w (valN l) (valN_pos hl hn) xl H
    rw [num_cells] at wi
    generalize ints .u8 (numD (valN l)) = C at *
    repeat' (first
    | ((with_reducible first | refine optP_id ?_ | refine condP_id ?_ | refine resP_id ?_ | refine callT_of ?_); conv => { arg 1; simp (disch := first | assumption | omega) only [push_cast, ↓reduceIte, reduceIte, Nat.reduceEqDiff, Nat.reduceAdd, Nat.reduceSub, Nat.reduceMul, Nat.reduceBEq, Int.reduceNeg] }; first | ((with_reducible refine optP_id ?_); refine optP_some ?_) | ((with_reducible refine condP_id ?_); first | refine qcy ?_ | refine qcx ?_ | refine qco ?_ | refine condP_decn (fun hc => ?_) (fun hc => ?_) | refine condP_dec (fun hc => ?_) (fun hc => ?_) | refine qct ?_ | refine qcf ?_ | refine condP_bool (fun hc => ?_) (fun hc => ?_)) | ((with_reducible refine resP_id ?_); refine resP_two ?_) | ((with_reducible refine callT_to ?_); refine callP_plain ?_))
    | refine wk_seq ?_ | refine wk_region ?_ | refine wk_skip ?_ | refine wo_nil ?_ | refine wk_cond ?_ | refine wk_ret ?_ | refine wk_nil ?_ | refine wo_dst rfl (opR_call ?_) | refine wo_nodst (opR_call ?_) | refine wo_dst rfl (opR_pure ?_) | refine wo_nodst (opR_pure ?_)
    | refine give_ret ?_ | refine give_end ?_)
    refine (wz _ hv0).mono ?_
    rintro _ h1 ⟨rfl, g1⟩; have n1 := g1.1; have k1 := g1.2; try simp only [next_new, next_set] at n1 k1
    have s1 := storeK_all (H := h1.new (.cells Z 87 true)) (b := h1.next) (e := 87) hne hnl hfx (by simp (disch := first | assumption | omega) only [push_cast, ↓reduceIte, reduceIte, Nat.reduceEqDiff, Nat.reduceAdd, Nat.reduceSub, Nat.reduceMul, Nat.reduceBEq, Int.reduceNeg]) ov
    repeat' (first
    | ((with_reducible first | refine optP_id ?_ | refine condP_id ?_ | refine resP_id ?_ | refine callT_of ?_); conv => { arg 1; simp (disch := first | assumption | omega) only [push_cast, ↓reduceIte, reduceIte, Nat.reduceEqDiff, Nat.reduceAdd, Nat.reduceSub, Nat.reduceMul, Nat.reduceBEq, Int.reduceNeg, zv, s1, hcx] }; first | ((with_reducible refine optP_id ?_); refine optP_some ?_) | ((with_reducible refine condP_id ?_); first | refine qcy ?_ | refine qcx ?_ | refine qco ?_ | refine condP_decn (fun hc => ?_) (fun hc => ?_) | refine condP_dec (fun hc => ?_) (fun hc => ?_) | refine qct ?_ | refine qcf ?_ | refine condP_bool (fun hc => ?_) (fun hc => ?_)) | ((with_reducible refine resP_id ?_); refine resP_two ?_) | ((with_reducible refine callT_to ?_); refine callP_plain ?_))
    | refine wk_seq ?_ | refine wk_region ?_ | refine wk_skip ?_ | refine wo_nil ?_ | refine wk_cond ?_ | refine wk_ret ?_ | refine wk_nil ?_ | refine wo_dst rfl (opR_call ?_) | refine wo_nodst (opR_call ?_) | refine wo_dst rfl (opR_pure ?_) | refine wo_nodst (opR_pure ?_)
    | refine give_ret ?_ | refine give_end ?_)
    refine (wi _).mono ?_
    rintro _ h2 ⟨he, g2⟩; have n2 := g2.1; have k2 := g2.2; try simp only [next_new, next_set] at n2 k2
    rcases he with ⟨i, j, k, q1, q2, rfl⟩ | ⟨hi, rfl⟩
    · have fin : ∀ r H, digR (inv60 i j k) r H → recR l r H := fun r H h => .inr (.inr ⟨hn, i, j, k, q1, q2, h⟩)
      have h102 : inv60 i j k < 60 ^ 101 := Nat.lt_of_le_of_lt (inv60_le i j k) ((Nat.pow_lt_pow_iff_right (by decide)).2 (by omega))
      have h146 : inv60 i j k < 60 ^ 146 := Nat.lt_trans h102 ((Nat.pow_lt_pow_iff_right (by decide)).2 (by omega))
      have hpos := inv60_pos i j k
      have hmod := inv60_mod i j k
      generalize inv60 i j k = Y at *
      have wp := fun H => place2_w Y h146 0 (by omega) (by omega) H
      rw [num_cells] at wp ⊢
      have s2 := storeK_all (H := h2.new (.cells Z 87 true)) (b := h2.next) (e := 87) (old := Z) (num_ne Y) (num_len Y) (ints_flat .u8 (numD Y)) (by simp (disch := first | assumption | omega) only [push_cast, ↓reduceIte, reduceIte, Nat.reduceEqDiff, Nat.reduceAdd, Nat.reduceSub, Nat.reduceMul, Nat.reduceBEq, Int.reduceNeg]) (over_all (by rw [← hZ, num_len, num_len]))
      have hcy : takeN 146 (ints .u8 (numD Y)) = some (ints .u8 (numD Y)) := num_cut _
      generalize ints .u8 (numD Y) = CY at *
      repeat' (first
    | ((with_reducible first | refine optP_id ?_ | refine condP_id ?_ | refine resP_id ?_ | refine callT_of ?_); conv => { arg 1; simp (disch := first | assumption | omega) only [push_cast, ↓reduceIte, reduceIte, Nat.reduceEqDiff, Nat.reduceAdd, Nat.reduceSub, Nat.reduceMul, Nat.reduceBEq, Int.reduceNeg, zv, s2, hcy] }; first | ((with_reducible refine optP_id ?_); refine optP_some ?_) | ((with_reducible refine condP_id ?_); first | refine qcy ?_ | refine qcx ?_ | refine qco ?_ | refine condP_decn (fun hc => ?_) (fun hc => ?_) | refine condP_dec (fun hc => ?_) (fun hc => ?_) | refine qct ?_ | refine qcf ?_ | refine condP_bool (fun hc => ?_) (fun hc => ?_)) | ((with_reducible refine resP_id ?_); refine resP_two ?_) | ((with_reducible refine callT_to ?_); refine callP_plain ?_))
    | refine wk_seq ?_ | refine wk_region ?_ | refine wk_skip ?_ | refine wo_nil ?_ | refine wk_cond ?_ | refine wk_ret ?_ | refine wk_nil ?_ | refine wo_dst rfl (opR_call ?_) | refine wo_nodst (opR_call ?_) | refine wo_dst rfl (opR_pure ?_) | refine wo_nodst (opR_pure ?_)
    | refine give_ret ?_ | refine give_end ?_)
      refine (wp _).mono ?_
      rintro _ h3 ⟨⟨hp, hfr⟩, g3⟩; have n3 := g3.1; have k3 := g3.2; try simp only [next_new, next_set] at n3 k3
      rcases hp with ⟨h0, rfl⟩ | ⟨h0, d, e, w, hd, hdn, hval, hle2, ⟨hE, rfl, hin⟩ | ⟨hE, rfl⟩⟩
      · exact absurd h0 (by omega)
      · obtain ⟨aw, cw, rfl, q⟩ := id hin
        have hpz := placeE_zero (s := 0 + (e : Int)) hd hdn (by omega) (by have := no_shift hval hmod; omega)
        repeat' (first
    | ((with_reducible first | refine optP_id ?_ | refine condP_id ?_ | refine resP_id ?_ | refine callT_of ?_); conv => { arg 1; simp (disch := first | assumption | omega) only [push_cast, ↓reduceIte, reduceIte, Nat.reduceEqDiff, Nat.reduceAdd, Nat.reduceSub, Nat.reduceMul, Nat.reduceBEq, Int.reduceNeg, k1, k2, k3] }; first | ((with_reducible refine optP_id ?_); refine optP_some ?_) | ((with_reducible refine condP_id ?_); first | refine qcy ?_ | refine qcx ?_ | refine qco ?_ | refine condP_decn (fun hc => ?_) (fun hc => ?_) | refine condP_dec (fun hc => ?_) (fun hc => ?_) | refine qct ?_ | refine qcf ?_ | refine condP_bool (fun hc => ?_) (fun hc => ?_)) | ((with_reducible refine resP_id ?_); refine resP_two ?_) | ((with_reducible refine callT_to ?_); refine callP_plain ?_))
    | refine wk_seq ?_ | refine wk_region ?_ | refine wk_skip ?_ | refine wo_nil ?_ | refine wk_cond ?_ | refine wk_ret ?_ | refine wk_nil ?_ | refine wo_dst rfl (opR_call ?_) | refine wo_nodst (opR_call ?_) | refine wo_dst rfl (opR_pure ?_) | refine wo_nodst (opR_pure ?_)
    | refine give_ret ?_ | refine give_end ?_)
        exact ⟨⟨fin _ _ ⟨d, _, ⟨hd, ⟨fun h => absurd h hdn, fun h => absurd h h0⟩, e, hval⟩, .inl ⟨by
          apply Classical.byContradiction
          intro hh
          exact hpz.2 (by omega) hE, rfl, SlIn.gr hin (by (repeat (first | exact Gr.refl _ | assumption | (refine Gr.trans ?_ (by assumption)) | refine Gr.set ?_ (by first | exact Nat.le_refl _ | omega | (simp only [next_new, next_set]; omega)) _ | refine Gr.new ?_ _)))⟩⟩, fun a' n' c' e' hh => by cases hh; have := hfr _ _ _ _ _ rfl; simp only [next_new, next_set] at this; omega⟩, by (repeat (first | exact Gr.refl _ | assumption | (refine Gr.trans ?_ (by assumption)) | refine Gr.set ?_ (by first | exact Nat.le_refl _ | omega | (simp only [next_new, next_set]; omega)) _ | refine Gr.new ?_ _))⟩
      · have hpz := placeE_zero (s := 0 + (e : Int)) hd hdn (by omega) (by have := no_shift hval hmod; omega)
        repeat' (first
    | ((with_reducible first | refine optP_id ?_ | refine condP_id ?_ | refine resP_id ?_ | refine callT_of ?_); conv => { arg 1; simp (disch := first | assumption | omega) only [push_cast, ↓reduceIte, reduceIte, Nat.reduceEqDiff, Nat.reduceAdd, Nat.reduceSub, Nat.reduceMul, Nat.reduceBEq, Int.reduceNeg, k1, k2, k3] }; first | ((with_reducible refine optP_id ?_); refine optP_some ?_) | ((with_reducible refine condP_id ?_); first | refine qcy ?_ | refine qcx ?_ | refine qco ?_ | refine condP_decn (fun hc => ?_) (fun hc => ?_) | refine condP_dec (fun hc => ?_) (fun hc => ?_) | refine qct ?_ | refine qcf ?_ | refine condP_bool (fun hc => ?_) (fun hc => ?_)) | ((with_reducible refine resP_id ?_); refine resP_two ?_) | ((with_reducible refine callT_to ?_); refine callP_plain ?_))
    | refine wk_seq ?_ | refine wk_region ?_ | refine wk_skip ?_ | refine wo_nil ?_ | refine wk_cond ?_ | refine wk_ret ?_ | refine wk_nil ?_ | refine wo_dst rfl (opR_call ?_) | refine wo_nodst (opR_call ?_) | refine wo_dst rfl (opR_pure ?_) | refine wo_nodst (opR_pure ?_)
    | refine give_ret ?_ | refine give_end ?_)
        exact ⟨⟨fin _ _ ⟨d, .bool true, ⟨hd, ⟨fun h => absurd h hdn, fun h => absurd h h0⟩, e, hval⟩, .inr ⟨by
          apply Classical.byContradiction
          intro hh
          exact hE (hpz.1 (by omega)), rfl⟩⟩, fun _ _ _ _ hh => by cases hh⟩, by (repeat (first | exact Gr.refl _ | assumption | (refine Gr.trans ?_ (by assumption)) | refine Gr.set ?_ (by first | exact Nat.le_refl _ | omega | (simp only [next_new, next_set]; omega)) _ | refine Gr.new ?_ _))⟩
    · have fin : ∀ r H, r = .tuple #[.slice none 0 0, .int .i64 31] → recR l r H := fun r H h => .inr (.inl ⟨hn, hi, h⟩)
      have hcz : takeN 146 Z = some Z := by rw [← hZ]; exact num_cut 0
      have zne : Z ≠ [] := by rw [← hZ]; exact num_ne _
      have znl : Z.length = 146 := by rw [← hZ]; exact num_len _
      have znf : allFlat Z = true := by rw [← hZ]; exact ints_flat _ _
      rw [num_cells, hZ]
      have s2 := storeK_all (H := h2.new (.cells Z 87 true)) (b := h2.next) (e := 87) zne znl znf (by simp (disch := first | assumption | omega) only [push_cast, ↓reduceIte, reduceIte, Nat.reduceEqDiff, Nat.reduceAdd, Nat.reduceSub, Nat.reduceMul, Nat.reduceBEq, Int.reduceNeg]) (over_all rfl)
      repeat' (first
    | ((with_reducible first | refine optP_id ?_ | refine condP_id ?_ | refine resP_id ?_ | refine callT_of ?_); conv => { arg 1; simp (disch := first | assumption | omega) only [push_cast, ↓reduceIte, reduceIte, Nat.reduceEqDiff, Nat.reduceAdd, Nat.reduceSub, Nat.reduceMul, Nat.reduceBEq, Int.reduceNeg, zv, s2, hcz] }; first | ((with_reducible refine optP_id ?_); refine optP_some ?_) | ((with_reducible refine condP_id ?_); first | refine qcy ?_ | refine qcx ?_ | refine qco ?_ | refine condP_decn (fun hc => ?_) (fun hc => ?_) | refine condP_dec (fun hc => ?_) (fun hc => ?_) | refine qct ?_ | refine qcf ?_ | refine condP_bool (fun hc => ?_) (fun hc => ?_)) | ((with_reducible refine resP_id ?_); refine resP_two ?_) | ((with_reducible refine callT_to ?_); refine callP_plain ?_))
    | refine wk_seq ?_ | refine wk_region ?_ | refine wk_skip ?_ | refine wo_nil ?_ | refine wk_cond ?_ | refine wk_ret ?_ | refine wk_nil ?_ | refine wo_dst rfl (opR_call ?_) | refine wo_nodst (opR_call ?_) | refine wo_dst rfl (opR_pure ?_) | refine wo_nodst (opR_pure ?_)
    | refine give_ret ?_ | refine give_end ?_)
      exact ⟨⟨fin _ _ rfl, fun _ _ _ _ hh => by cases hh⟩, by (repeat (first | exact Gr.refl _ | assumption | (refine Gr.trans ?_ (by assumption)) | refine Gr.set ?_ (by first | exact Nat.le_refl _ | omega | (simp only [next_new, next_set]; omega)) _ | refine Gr.new ?_ _))⟩
theorem recip_w (l : List Int) (hl : valid l) (ll : l.length ≤ 16) (v : Value) (h : AHeap) (hv : IIn h v l) :
    Wc pr (.func 29) [v] h fun r h' => recR l r h' ∧ Gr h h' :=
  (recip2_w l hl ll v h hv).mono fun r h' q => ⟨q.1.1, q.2⟩
end Go.Proofs.YtelepfablohdmaaGreatDoor
namespace Go.Proofs.YtelepfablohdmaaGreatDoor
open Go.Ev
theorem bs22_3 (x y z : Int) : buildSliceA Tryz.prog 22 3 [(0, .int .i64 x), (1, .int .i64 y), (2, .int .i64 z)] = some (.cells [.int .i64 x, .int .i64 y, .int .i64 z] 3 true, fun b => .slice (some ⟨b, 0, none⟩) 3 (EX + 3)) := by kernel_rfl
attribute [push_cast] bs22_3
end Go.Proofs.YtelepfablohdmaaGreatDoor
