/- The digits of a number, the most significant one first. -/
import Derived.Test.YtelepfablohdmaaGreatDoorVB
set_option linter.unusedSimpArgs false
set_option linter.unusedVariables false
/- Contract: toInt. -/
namespace Go.Proofs.YtelepfablohdmaaGreatDoor
open Go.Ev
theorem dig_up (X j : Nat) : X / 60 ^ j = X / 60 ^ (j + 1) * 60 + X / 60 ^ j % 60 := by
  have : X / 60 ^ (j + 1) = X / 60 ^ j / 60 := by rw [Nat.div_div_eq_div_mul, Nat.pow_succ]
  rw [this]; omega
theorem top_zero {X k : Nat} (hX : X < 60 ^ 146) (hk : digsN X k) : X / 60 ^ k = 0 := by
  have : ∀ n j, j + n = 146 → k ≤ j → X / 60 ^ j = 0 := by
    intro n
    induction n with
    | zero => intro j hj _; rw [show j = 146 by omega]; exact Nat.div_eq_of_lt hX
    | succ n ih =>
      intro j hj hkj
      rw [dig_up, ih (j + 1) (by omega) (by omega), hk.2.1 j hkj (by omega)]
  exact this (146 - k) k (by have := hk.1; omega) (Nat.le_refl _)
/-- the digits of a number up to the most significant one -/
def usL (X k : Nat) : List Int := (numD X).take k
theorem usL_len {X k : Nat} (h : k ≤ 146) : (usL X k).length = k := by rw [usL, List.length_take, numD_len]; omega
theorem usL_get {X k j : Nat} (h : j < (usL X k).length) : (usL X k)[j] = ((X / 60 ^ j % 60 : Nat) : Int) := by
  have h1 : ((numD X).take k)[j]? = some (usL X k)[j] := List.getElem?_eq_getElem (l := usL X k) h
  have hjk : j < k := by rw [usL, List.length_take] at h; omega
  have hj : j < (numD X).length := by rw [usL, List.length_take] at h; omega
  rw [List.getElem?_take, if_pos hjk, List.getElem?_eq_getElem hj, numD_get] at h1
  exact (Option.some.inj h1).symm
theorem usL_in {H : AHeap} {X k b e c : Nat} {rw' : Bool} (hk : k ≤ 146) (hc : k ≤ capLo c) (hb : b < H.next) (hg : H.get b = some (.cells (ints .u8 (numD X)) e rw')) : SlIn encB 1 e H (.slice (some ⟨b, 0, none⟩) k c) (usL X k) := by
  refine ⟨_, c, by rw [usL_len hk], by rw [usL_len hk]; exact hc, fun _ => ⟨b, 0, _, rw', rfl, hb, hg, fun i hi => ?_⟩⟩
  have hi' : i < 146 := by rw [usL_len hk] at hi; omega
  have := num_at X i hi'
  rw [Nat.zero_add, Nat.mul_one, usL_get]
  have hl : i + 1 ≤ (ints .u8 (numD X)).length := by rw [num_len]; omega
  rw [cut_len hl]
  rw [at_eq] at this
  have h2 := List.drop_eq_getElem_cons (l := ints .u8 (numD X)) (i := i) (by omega)
  rw [List.getElem?_eq_getElem (by omega)] at this
  rw [h2, Option.some.inj this]
  rfl
set_option maxRecDepth 100000 in
set_option maxHeartbeats 8000000 in
theorem toint_w (X : Nat) (hX : X < 60 ^ 146) (h : AHeap) :
    Wc pr (.func 62) [numV X] h fun r h' => r = .tuple #[.int .i64 (if X ≤ 1099511627776 then (X : Int) else 0), .int .i64 (if X ≤ 1099511627776 then 0 else 6)] ∧ Gr h h' := by
  have wu := fun H => used_w X H
  rw [num_cells] at wu ⊢
  have hcut : takeN 146 (ints .u8 (numD X)) = some (ints .u8 (numD X)) := num_cut X
  have hf := ints_flat .u8 (numD X)
  refine wc_func Tryz.func62 rfl rfl rfl rfl ?_
  generalize hC : ints .u8 (numD X) = C at *
  repeat' (first
    | ((with_reducible first | refine optP_id ?_ | refine condP_id ?_ | refine resP_id ?_ | refine callT_of ?_); conv => { arg 1; simp (disch := first | assumption | omega) only [push_cast, ↓reduceIte, reduceIte, Nat.reduceEqDiff, Nat.reduceAdd, Nat.reduceSub, Nat.reduceMul, Nat.reduceBEq, Int.reduceNeg, hf, hcut] }; first | ((with_reducible refine optP_id ?_); refine optP_some ?_) | ((with_reducible refine condP_id ?_); first | refine qcy ?_ | refine qcx ?_ | refine qco ?_ | refine condP_decn (fun hc => ?_) (fun hc => ?_) | refine condP_dec (fun hc => ?_) (fun hc => ?_) | refine qct ?_ | refine qcf ?_ | refine condP_bool (fun hc => ?_) (fun hc => ?_)) | ((with_reducible refine resP_id ?_); refine resP_two ?_) | ((with_reducible refine callT_to ?_); first | refine callP_plain ?_ | refine callP_yield ?_ | (refine callP_func ?_; conv => { arg 3; simp only [push_cast] })))
    | refine wk_seq ?_ | refine wk_region ?_ | refine wk_block ?_ | refine wk_inBlock ?_ | refine wk_skip ?_ | refine wo_nil ?_ | refine wk_exit ?_ | refine exitK_code ?_ | refine exitK_hit ?_ | refine exitK_miss rfl ?_ | refine exitK_inLoop ?_ | refine wk_cond ?_ | refine wk_ret ?_ | refine wk_nil ?_ | refine wo_dst rfl (opR_call ?_) | refine wo_nodst (opR_call ?_) | refine wo_dst rfl (opR_pure ?_) | refine wo_nodst (opR_pure ?_)
    | refine give_ret ?_ | refine give_end ?_)
  refine (wu _).mono ?_
  rintro _ h2 ⟨⟨b, k, rfl, hk, hgb, b1, b2⟩, g2⟩; have n2 := g2.1; have k2 := g2.2; try simp only [next_new, next_set] at n2 k2
  simp only [next_new, next_set] at b1
  have tz := top_zero hX hk
  repeat' (first
    | ((with_reducible first | refine optP_id ?_ | refine condP_id ?_ | refine resP_id ?_ | refine callT_of ?_); conv => { arg 1; simp (disch := first | assumption | omega) only [push_cast, ↓reduceIte, reduceIte, Nat.reduceEqDiff, Nat.reduceAdd, Nat.reduceSub, Nat.reduceMul, Nat.reduceBEq, Int.reduceNeg, k2] }; first | ((with_reducible refine optP_id ?_); refine optP_some ?_) | ((with_reducible refine condP_id ?_); first | refine qcy ?_ | refine qcx ?_ | refine qco ?_ | refine condP_decn (fun hc => ?_) (fun hc => ?_) | refine condP_dec (fun hc => ?_) (fun hc => ?_) | refine qct ?_ | refine qcf ?_ | refine condP_bool (fun hc => ?_) (fun hc => ?_)) | ((with_reducible refine resP_id ?_); refine resP_two ?_) | ((with_reducible refine callT_to ?_); first | refine callP_plain ?_ | refine callP_yield ?_ | (refine callP_func ?_; conv => { arg 3; simp only [push_cast] })))
    | refine wk_seq ?_ | refine wk_region ?_ | refine wk_block ?_ | refine wk_inBlock ?_ | refine wk_skip ?_ | refine wo_nil ?_ | refine wk_exit ?_ | refine exitK_code ?_ | refine exitK_hit ?_ | refine exitK_miss rfl ?_ | refine exitK_inLoop ?_ | refine wk_cond ?_ | refine wk_ret ?_ | refine wk_nil ?_ | refine wo_dst rfl (opR_call ?_) | refine wo_nodst (opR_call ?_) | refine wo_dst rfl (opR_pure ?_) | refine wo_nodst (opR_pure ?_)
    | refine give_ret ?_ | refine give_end ?_)
  refine (back8_w _ _ _ _).mono ?_
  rintro _ h3 ⟨rfl, n3, q3, g3⟩
  have k3 := g3.2
  repeat' (first
    | ((with_reducible first | refine optP_id ?_ | refine condP_id ?_ | refine resP_id ?_ | refine callT_of ?_); conv => { arg 1; simp (disch := first | assumption | omega) only [push_cast, ↓reduceIte, reduceIte, Nat.reduceEqDiff, Nat.reduceAdd, Nat.reduceSub, Nat.reduceMul, Nat.reduceBEq, Int.reduceNeg, k2] }; first | ((with_reducible refine optP_id ?_); refine optP_some ?_) | ((with_reducible refine condP_id ?_); first | refine qcy ?_ | refine qcx ?_ | refine qco ?_ | refine condP_decn (fun hc => ?_) (fun hc => ?_) | refine condP_dec (fun hc => ?_) (fun hc => ?_) | refine qct ?_ | refine qcf ?_ | refine condP_bool (fun hc => ?_) (fun hc => ?_)) | ((with_reducible refine resP_id ?_); refine resP_two ?_) | ((with_reducible refine callT_to ?_); first | refine callP_plain ?_ | refine callP_yield ?_ | (refine callP_func ?_; conv => { arg 3; simp only [push_cast] })))
    | refine wk_seq ?_ | refine wk_region ?_ | refine wk_block ?_ | refine wk_inBlock ?_ | refine wk_skip ?_ | refine wo_nil ?_ | refine wk_exit ?_ | refine exitK_code ?_ | refine exitK_hit ?_ | refine exitK_miss rfl ?_ | refine exitK_inLoop ?_ | refine wk_cond ?_ | refine wk_ret ?_ | refine wk_nil ?_ | refine wo_dst rfl (opR_call ?_) | refine wo_nodst (opR_call ?_) | refine wo_dst rfl (opR_pure ?_) | refine wo_nodst (opR_pure ?_)
    | refine give_ret ?_ | refine give_end ?_)
  have cap : k ≤ capLo (EX + 146) := by rw [capLo_ex 146]; exact hk.1
  have c1 : h3.get (h.next + 1) = some (.cells [.int .i64 0] 3 true) := by rw [k3 _ (by omega), k2 _ (by omega)]; simp (disch := first | assumption | omega) only [push_cast, ↓reduceIte, reduceIte, Nat.reduceEqDiff, Nat.reduceAdd, Nat.reduceSub, Nat.reduceMul, Nat.reduceBEq, Int.reduceNeg]
  have c2 : h3.get (h.next + 1 + 1) = some (.cells [.int .i64 0] 24 true) := by rw [k3 _ (by omega), k2 _ (by omega)]; simp (disch := first | assumption | omega) only [push_cast, ↓reduceIte, reduceIte, Nat.reduceEqDiff, Nat.reduceAdd, Nat.reduceSub, Nat.reduceMul, Nat.reduceBEq, Int.reduceNeg]
  have c4 : h3.get (h.next + 1 + 1 + 1) = some (.cells [.int .i64 0] 3 true) := by rw [k3 _ (by omega), k2 _ (by omega)]; simp (disch := first | assumption | omega) only [push_cast, ↓reduceIte, reduceIte, Nat.reduceEqDiff, Nat.reduceAdd, Nat.reduceSub, Nat.reduceMul, Nat.reduceBEq, Int.reduceNeg]
  have gA : Gr h h3 := ⟨by omega, fun b hb => by rw [k3 _ (by omega), k2 _ (by omega)]; simp (disch := first | assumption | omega) only [push_cast, ↓reduceIte, reduceIte, Nat.reduceEqDiff, Nat.reduceAdd, Nat.reduceSub, Nat.reduceMul, Nat.reduceBEq, Int.reduceNeg]⟩
  refine wk_rangeL rfl ?_
  intro L H lp nH oH dH lH
  conv => { arg 2; simp (disch := first | assumption | omega) only [push_cast, ↓reduceIte, reduceIte, Nat.reduceEqDiff, Nat.reduceAdd, Nat.reduceSub, Nat.reduceMul, Nat.reduceBEq, Int.reduceNeg] }
  refine callP_func ?_
  conv => { arg 3; simp only [push_cast] }
  refine (iter8_w (e := 87) (usL X k) (h3.next + 1) h2.next (.slice (some ⟨b, 0, none⟩) k (EX + 146)) H (by rw [usL_len hk.1]; have := hk.1; omega)
    (fun j H' => H.next ≤ H'.next ∧ (∀ b, b < H.next → b ≠ h3.next + 1 → b ≠ h.next + 1 + 1 + 1 → H'.get b = H.get b) ∧ L H' .ready none ∧ H'.get (h.next + 1 + 1 + 1) = some (.cells [.int .i64 ((X / 60 ^ j : Nat) : Int)] 3 true) ∧ X / 60 ^ j ≤ 1099511627776)
    (fun H' => H.next ≤ H'.next ∧ L H' .done (some .ret) ∧ 1099511627776 < X ∧ H'.get (h.next + 1) = some (.cells [.int .i64 0] 3 true) ∧ H'.get (h.next + 1 + 1) = some (.cells [.int .i64 6] 24 true) ∧ ∀ b, b < H.next → b ≠ h3.next + 1 → b ≠ h.next + 1 → b ≠ h.next + 1 + 1 → b ≠ h.next + 1 + 1 + 1 → H'.get b = H.get b)
    ⟨Nat.le_refl _, fun _ _ _ _ => rfl, lH, by rw [usL_len hk.1, tz, oH _ (by omega)]; exact c4, by rw [usL_len hk.1, tz]; omega⟩ ?_ ?_).mono ?_
  · rintro j H' ⟨p1, p2, p3, p4, p5⟩
    exact ⟨by omega, by rw [p2 _ (by omega) (by omega) (by omega), oH _ (by omega)]; exact q3, usL_in hk.1 cap (by omega) (by rw [hC, p2 _ (by omega) (by omega) (by omega), oH _ (by omega), k3 _ (by omega)]; exact hgb)⟩
  · rintro j hj H' ⟨p1, p2, p3, p4, p5⟩
    rw [usL_get hj]
    have hup := dig_up X j
    have hd : X / 60 ^ j % 60 < 60 := Nat.mod_lt _ (by decide)
    have hle : X / 60 ^ j ≤ X := Nat.div_le_self _ _
    generalize X / 60 ^ j % 60 = d at *
    generalize X / 60 ^ (j + 1) = Y at *
    generalize X / 60 ^ j = Z at *
    subst hup
    refine lp.yield p3 rfl rfl ?_
    rw [putLs2]
    repeat' (first
    | ((with_reducible first | refine optP_id ?_ | refine condP_id ?_ | refine resP_id ?_ | refine callT_of ?_); conv => { arg 1; simp (disch := first | assumption | omega) only [push_cast, ↓reduceIte, reduceIte, Nat.reduceEqDiff, Nat.reduceAdd, Nat.reduceSub, Nat.reduceMul, Nat.reduceBEq, Int.reduceNeg] }; first | ((with_reducible refine optP_id ?_); refine optP_some ?_) | ((with_reducible refine condP_id ?_); first | refine qcy ?_ | refine qcx ?_ | refine qco ?_ | refine condP_decn (fun hc => ?_) (fun hc => ?_) | refine condP_dec (fun hc => ?_) (fun hc => ?_) | refine qct ?_ | refine qcf ?_ | refine condP_bool (fun hc => ?_) (fun hc => ?_)) | ((with_reducible refine resP_id ?_); refine resP_two ?_) | ((with_reducible refine callT_to ?_); first | refine callP_plain ?_ | refine callP_yield ?_ | (refine callP_func ?_; conv => { arg 3; simp only [push_cast] })))
    | refine wk_seq ?_ | refine wk_region ?_ | refine wk_block ?_ | refine wk_inBlock ?_ | refine wk_skip ?_ | refine wo_nil ?_ | refine wk_exit ?_ | refine exitK_code ?_ | refine exitK_hit ?_ | refine exitK_miss rfl ?_ | refine exitK_inLoop ?_ | refine wk_cond ?_ | refine wk_ret ?_ | refine wk_nil ?_ | refine wo_dst rfl (opR_call ?_) | refine wo_nodst (opR_call ?_) | refine wo_dst rfl (opR_pure ?_) | refine wo_nodst (opR_pure ?_)
    | refine give_ret ?_ | refine give_end ?_)
    refine lp.start rfl p3 ?_
    intro H2 m1 m2 m3
    have d1 : H2.get (h.next + 1) = some (.cells [.int .i64 0] 3 true) := by rw [m2 _ (by omega), p2 _ (by omega) (by omega) (by omega), oH _ (by omega)]; exact c1
    have d2 : H2.get (h.next + 1 + 1) = some (.cells [.int .i64 0] 24 true) := by rw [m2 _ (by omega), p2 _ (by omega) (by omega) (by omega), oH _ (by omega)]; exact c2
    have d4 : H2.get (h.next + 1 + 1 + 1) = some (.cells [.int .i64 (Y : Int)] 3 true) := by rw [m2 _ (by omega)]; exact p4
    have ev : ((Y * 60 + d : Nat) : Int) = (Y : Int) * 60 + (d : Int) := by omega
    by_cases hs : 1099511627776 < Y * 60 + d
    · have hs' : (Y : Int) * 60 + (d : Int) > 1099511627776 := by omega
      repeat' (first
    | ((with_reducible first | refine optP_id ?_ | refine condP_id ?_ | refine resP_id ?_ | refine callT_of ?_); conv => { arg 1; simp (disch := first | assumption | omega) only [push_cast, ↓reduceIte, reduceIte, Nat.reduceEqDiff, Nat.reduceAdd, Nat.reduceSub, Nat.reduceMul, Nat.reduceBEq, Int.reduceNeg, d1, d2, d4] }; first | ((with_reducible refine optP_id ?_); refine optP_some ?_) | ((with_reducible refine condP_id ?_); first | refine qcy ?_ | refine qcx ?_ | refine qco ?_ | refine condP_decn (fun hc => ?_) (fun hc => ?_) | refine condP_dec (fun hc => ?_) (fun hc => ?_) | refine qct ?_ | refine qcf ?_ | refine condP_bool (fun hc => ?_) (fun hc => ?_)) | ((with_reducible refine resP_id ?_); refine resP_two ?_) | ((with_reducible refine callT_to ?_); first | refine callP_plain ?_ | refine callP_yield ?_ | (refine callP_func ?_; conv => { arg 3; simp only [push_cast] })))
    | refine wk_seq ?_ | refine wk_region ?_ | refine wk_block ?_ | refine wk_inBlock ?_ | refine wk_skip ?_ | refine wo_nil ?_ | refine wk_exit ?_ | refine exitK_code ?_ | refine exitK_hit ?_ | refine exitK_miss rfl ?_ | refine exitK_inLoop ?_ | refine wk_cond ?_ | refine wk_ret ?_ | refine wk_nil ?_ | refine wo_dst rfl (opR_call ?_) | refine wo_nodst (opR_call ?_) | refine wo_dst rfl (opR_pure ?_) | refine wo_nodst (opR_pure ?_)
    | refine give_ret ?_ | refine give_end ?_)
      refine lp.out (lp.of m3 (by simp (disch := first | assumption | omega) only [push_cast, ↓reduceIte, reduceIte, Nat.reduceEqDiff, Nat.reduceAdd, Nat.reduceSub, Nat.reduceMul, Nat.reduceBEq, Int.reduceNeg])) ?_
      intro H3 t1 t2 t3
      simp only [next_set] at t1
      refine .inr ⟨rfl, by omega, t3, by omega, ?_, ?_, fun b hb n1 n2 n3 n4 => ?_⟩
      · rw [t2 _ (by omega)]; simp (disch := first | assumption | omega) only [push_cast, ↓reduceIte, reduceIte, Nat.reduceEqDiff, Nat.reduceAdd, Nat.reduceSub, Nat.reduceMul, Nat.reduceBEq, Int.reduceNeg]
      · rw [t2 _ (by omega)]; simp (disch := first | assumption | omega) only [push_cast, ↓reduceIte, reduceIte, Nat.reduceEqDiff, Nat.reduceAdd, Nat.reduceSub, Nat.reduceMul, Nat.reduceBEq, Int.reduceNeg]
      · rw [t2 _ n1]
        simp (disch := first | assumption | omega) only [push_cast, ↓reduceIte, reduceIte, Nat.reduceEqDiff, Nat.reduceAdd, Nat.reduceSub, Nat.reduceMul, Nat.reduceBEq, Int.reduceNeg]
        rw [m2 _ n1, p2 _ hb n1 n4]
    · have hs' : ¬ (Y : Int) * 60 + (d : Int) > 1099511627776 := by omega
      repeat' (first
    | ((with_reducible first | refine optP_id ?_ | refine condP_id ?_ | refine resP_id ?_ | refine callT_of ?_); conv => { arg 1; simp (disch := first | assumption | omega) only [push_cast, ↓reduceIte, reduceIte, Nat.reduceEqDiff, Nat.reduceAdd, Nat.reduceSub, Nat.reduceMul, Nat.reduceBEq, Int.reduceNeg, d1, d2, d4] }; first | ((with_reducible refine optP_id ?_); refine optP_some ?_) | ((with_reducible refine condP_id ?_); first | refine qcy ?_ | refine qcx ?_ | refine qco ?_ | refine condP_decn (fun hc => ?_) (fun hc => ?_) | refine condP_dec (fun hc => ?_) (fun hc => ?_) | refine qct ?_ | refine qcf ?_ | refine condP_bool (fun hc => ?_) (fun hc => ?_)) | ((with_reducible refine resP_id ?_); refine resP_two ?_) | ((with_reducible refine callT_to ?_); first | refine callP_plain ?_ | refine callP_yield ?_ | (refine callP_func ?_; conv => { arg 3; simp only [push_cast] })))
    | refine wk_seq ?_ | refine wk_region ?_ | refine wk_block ?_ | refine wk_inBlock ?_ | refine wk_skip ?_ | refine wo_nil ?_ | refine wk_exit ?_ | refine exitK_code ?_ | refine exitK_hit ?_ | refine exitK_miss rfl ?_ | refine exitK_inLoop ?_ | refine wk_cond ?_ | refine wk_ret ?_ | refine wk_nil ?_ | refine wo_dst rfl (opR_call ?_) | refine wo_nodst (opR_call ?_) | refine wo_dst rfl (opR_pure ?_) | refine wo_nodst (opR_pure ?_)
    | refine give_ret ?_ | refine give_end ?_)
      refine lp.next (lp.of m3 (by simp (disch := first | assumption | omega) only [push_cast, ↓reduceIte, reduceIte, Nat.reduceEqDiff, Nat.reduceAdd, Nat.reduceSub, Nat.reduceMul, Nat.reduceBEq, Int.reduceNeg])) ?_
      intro H3 t1 t2 t3
      simp only [next_set] at t1
      refine .inl ⟨rfl, by omega, fun b hb n1 n4 => ?_, t3, ?_, by omega⟩
      · rw [t2 _ n1]
        simp (disch := first | assumption | omega) only [push_cast, ↓reduceIte, reduceIte, Nat.reduceEqDiff, Nat.reduceAdd, Nat.reduceSub, Nat.reduceMul, Nat.reduceBEq, Int.reduceNeg]
        rw [m2 _ n1, p2 _ hb n1 n4]
      · rw [t2 _ (by omega), ev]; simp (disch := first | assumption | omega) only [push_cast, ↓reduceIte, reduceIte, Nat.reduceEqDiff, Nat.reduceAdd, Nat.reduceSub, Nat.reduceMul, Nat.reduceBEq, Int.reduceNeg]
  · rintro _ H' (⟨p1, p2, p3, p4, p5⟩ | ⟨p1, p3, hbig, w1, w2, p2⟩)
    · refine ⟨_, _, by decide, p3, fun H'' t1 t2 => ?_⟩
      rw [todo_none]
      rw [Nat.pow_zero, Nat.div_one] at p4 p5
      have e1 : H''.get (h.next + 1) = some (.cells [.int .i64 0] 3 true) := by rw [t2 _ (by omega), p2 _ (by omega) (by omega) (by omega), oH _ (by omega)]; exact c1
      have e2 : H''.get (h.next + 1 + 1) = some (.cells [.int .i64 0] 24 true) := by rw [t2 _ (by omega), p2 _ (by omega) (by omega) (by omega), oH _ (by omega)]; exact c2
      have e4 : H''.get (h.next + 1 + 1 + 1) = some (.cells [.int .i64 (X : Int)] 3 true) := by rw [t2 _ (by omega)]; exact p4
      have e6 : H''.get h3.next = some (.deferred (some [])) := by rw [t2 _ (by omega), p2 _ (by omega) (by omega) (by omega)]; exact dH
      have gr : Gr h H'' := ⟨by omega, fun b hb => by rw [t2 _ (by omega), p2 _ (by omega) (by omega) (by omega), oH _ (by omega), gA.2 b hb]⟩
      rw [if_pos p5, if_pos p5]
      repeat' (first
    | ((with_reducible first | refine optP_id ?_ | refine condP_id ?_ | refine resP_id ?_ | refine callT_of ?_); conv => { arg 1; simp (disch := first | assumption | omega) only [push_cast, ↓reduceIte, reduceIte, Nat.reduceEqDiff, Nat.reduceAdd, Nat.reduceSub, Nat.reduceMul, Nat.reduceBEq, Int.reduceNeg, e1, e2, e4] }; first | ((with_reducible refine optP_id ?_); refine optP_some ?_) | ((with_reducible refine condP_id ?_); first | refine qcy ?_ | refine qcx ?_ | refine qco ?_ | refine condP_decn (fun hc => ?_) (fun hc => ?_) | refine condP_dec (fun hc => ?_) (fun hc => ?_) | refine qct ?_ | refine qcf ?_ | refine condP_bool (fun hc => ?_) (fun hc => ?_)) | ((with_reducible refine resP_id ?_); refine resP_two ?_) | ((with_reducible refine callT_to ?_); first | refine callP_plain ?_ | refine callP_yield ?_ | (refine callP_func ?_; conv => { arg 3; simp only [push_cast] })))
    | refine wk_seq ?_ | refine wk_region ?_ | refine wk_block ?_ | refine wk_inBlock ?_ | refine wk_skip ?_ | refine wo_nil ?_ | refine wk_exit ?_ | refine exitK_code ?_ | refine exitK_hit ?_ | refine exitK_miss rfl ?_ | refine exitK_inLoop ?_ | refine wk_cond ?_ | refine wk_ret ?_ | refine wk_nil ?_ | refine wo_dst rfl (opR_call ?_) | refine wo_nodst (opR_call ?_) | refine wo_dst rfl (opR_pure ?_) | refine wo_nodst (opR_pure ?_)
    | refine give_ret ?_ | refine give_end ?_)
      refine give_ret1 (by simp (disch := first | assumption | omega) only [push_cast, ↓reduceIte, reduceIte, Nat.reduceEqDiff, Nat.reduceAdd, Nat.reduceSub, Nat.reduceMul, Nat.reduceBEq, Int.reduceNeg, e6]) ?_
      repeat' (first
    | ((with_reducible first | refine optP_id ?_ | refine condP_id ?_ | refine resP_id ?_ | refine callT_of ?_); conv => { arg 1; simp (disch := first | assumption | omega) only [push_cast, ↓reduceIte, reduceIte, Nat.reduceEqDiff, Nat.reduceAdd, Nat.reduceSub, Nat.reduceMul, Nat.reduceBEq, Int.reduceNeg, e1, e2, e4] }; first | ((with_reducible refine optP_id ?_); refine optP_some ?_) | ((with_reducible refine condP_id ?_); first | refine qcy ?_ | refine qcx ?_ | refine qco ?_ | refine condP_decn (fun hc => ?_) (fun hc => ?_) | refine condP_dec (fun hc => ?_) (fun hc => ?_) | refine qct ?_ | refine qcf ?_ | refine condP_bool (fun hc => ?_) (fun hc => ?_)) | ((with_reducible refine resP_id ?_); refine resP_two ?_) | ((with_reducible refine callT_to ?_); first | refine callP_plain ?_ | refine callP_yield ?_ | (refine callP_func ?_; conv => { arg 3; simp only [push_cast] })))
    | refine wk_seq ?_ | refine wk_region ?_ | refine wk_block ?_ | refine wk_inBlock ?_ | refine wk_skip ?_ | refine wo_nil ?_ | refine wk_exit ?_ | refine exitK_code ?_ | refine exitK_hit ?_ | refine exitK_miss rfl ?_ | refine exitK_inLoop ?_ | refine wk_cond ?_ | refine wk_ret ?_ | refine wk_nil ?_ | refine wo_dst rfl (opR_call ?_) | refine wo_nodst (opR_call ?_) | refine wo_dst rfl (opR_pure ?_) | refine wo_nodst (opR_pure ?_)
    | refine give_ret ?_ | refine give_end ?_)
      exact ⟨rfl, by (repeat (first | exact Gr.refl _ | assumption | (refine Gr.trans ?_ (by assumption)) | refine Gr.set ?_ (by first | exact Nat.le_refl _ | omega | (simp only [next_new, next_set]; omega)) _ | refine Gr.new ?_ _))⟩
    · refine ⟨_, _, by decide, p3, fun H'' t1 t2 => ?_⟩
      rw [todo_some]
      have e1 : H''.get (h.next + 1) = some (.cells [.int .i64 0] 3 true) := by rw [t2 _ (by omega)]; exact w1
      have e2 : H''.get (h.next + 1 + 1) = some (.cells [.int .i64 6] 24 true) := by rw [t2 _ (by omega)]; exact w2
      have e6 : H''.get h3.next = some (.deferred (some [])) := by rw [t2 _ (by omega), p2 _ (by omega) (by omega) (by omega) (by omega) (by omega)]; exact dH
      have gr : Gr h H'' := ⟨by omega, fun b hb => by rw [t2 _ (by omega), p2 _ (by omega) (by omega) (by omega) (by omega) (by omega), oH _ (by omega), gA.2 b hb]⟩
      rw [if_neg (by omega), if_neg (by omega)]
      repeat' (first
    | ((with_reducible first | refine optP_id ?_ | refine condP_id ?_ | refine resP_id ?_ | refine callT_of ?_); conv => { arg 1; simp (disch := first | assumption | omega) only [push_cast, ↓reduceIte, reduceIte, Nat.reduceEqDiff, Nat.reduceAdd, Nat.reduceSub, Nat.reduceMul, Nat.reduceBEq, Int.reduceNeg, e1, e2] }; first | ((with_reducible refine optP_id ?_); refine optP_some ?_) | ((with_reducible refine condP_id ?_); first | refine qcy ?_ | refine qcx ?_ | refine qco ?_ | refine condP_decn (fun hc => ?_) (fun hc => ?_) | refine condP_dec (fun hc => ?_) (fun hc => ?_) | refine qct ?_ | refine qcf ?_ | refine condP_bool (fun hc => ?_) (fun hc => ?_)) | ((with_reducible refine resP_id ?_); refine resP_two ?_) | ((with_reducible refine callT_to ?_); first | refine callP_plain ?_ | refine callP_yield ?_ | (refine callP_func ?_; conv => { arg 3; simp only [push_cast] })))
    | refine wk_seq ?_ | refine wk_region ?_ | refine wk_block ?_ | refine wk_inBlock ?_ | refine wk_skip ?_ | refine wo_nil ?_ | refine wk_exit ?_ | refine exitK_code ?_ | refine exitK_hit ?_ | refine exitK_miss rfl ?_ | refine exitK_inLoop ?_ | refine wk_cond ?_ | refine wk_ret ?_ | refine wk_nil ?_ | refine wo_dst rfl (opR_call ?_) | refine wo_nodst (opR_call ?_) | refine wo_dst rfl (opR_pure ?_) | refine wo_nodst (opR_pure ?_)
    | refine give_ret ?_ | refine give_end ?_)
      refine give_ret1 (by simp (disch := first | assumption | omega) only [push_cast, ↓reduceIte, reduceIte, Nat.reduceEqDiff, Nat.reduceAdd, Nat.reduceSub, Nat.reduceMul, Nat.reduceBEq, Int.reduceNeg, e6]) ?_
      repeat' (first
    | ((with_reducible first | refine optP_id ?_ | refine condP_id ?_ | refine resP_id ?_ | refine callT_of ?_); conv => { arg 1; simp (disch := first | assumption | omega) only [push_cast, ↓reduceIte, reduceIte, Nat.reduceEqDiff, Nat.reduceAdd, Nat.reduceSub, Nat.reduceMul, Nat.reduceBEq, Int.reduceNeg, e1, e2] }; first | ((with_reducible refine optP_id ?_); refine optP_some ?_) | ((with_reducible refine condP_id ?_); first | refine qcy ?_ | refine qcx ?_ | refine qco ?_ | refine condP_decn (fun hc => ?_) (fun hc => ?_) | refine condP_dec (fun hc => ?_) (fun hc => ?_) | refine qct ?_ | refine qcf ?_ | refine condP_bool (fun hc => ?_) (fun hc => ?_)) | ((with_reducible refine resP_id ?_); refine resP_two ?_) | ((with_reducible refine callT_to ?_); first | refine callP_plain ?_ | refine callP_yield ?_ | (refine callP_func ?_; conv => { arg 3; simp only [push_cast] })))
    | refine wk_seq ?_ | refine wk_region ?_ | refine wk_block ?_ | refine wk_inBlock ?_ | refine wk_skip ?_ | refine wo_nil ?_ | refine wk_exit ?_ | refine exitK_code ?_ | refine exitK_hit ?_ | refine exitK_miss rfl ?_ | refine exitK_inLoop ?_ | refine wk_cond ?_ | refine wk_ret ?_ | refine wk_nil ?_ | refine wo_dst rfl (opR_call ?_) | refine wo_nodst (opR_call ?_) | refine wo_dst rfl (opR_pure ?_) | refine wo_nodst (opR_pure ?_)
    | refine give_ret ?_ | refine give_end ?_)
      exact ⟨rfl, by (repeat (first | exact Gr.refl _ | assumption | (refine Gr.trans ?_ (by assumption)) | refine Gr.set ?_ (by first | exact Nat.le_refl _ | omega | (simp only [next_new, next_set]; omega)) _ | refine Gr.new ?_ _))⟩
end Go.Proofs.YtelepfablohdmaaGreatDoor
/- Contract: numberFrom. -/
namespace Go.Proofs.YtelepfablohdmaaGreatDoor
open Go.Ev
/-- the whole number that digits stand for -/
def valN : List Int → Nat
  | [] => 0
  | d :: t => d.toNat * 60 ^ t.length + valN t
theorem valN_lt : ∀ {l : List Int}, digs l → valN l < 60 ^ l.length
  | [], _ => by decide
  | d :: t, h => by
    have h1 := h d (.head _)
    have h2 := valN_lt fun x hx => h x (.tail _ hx)
    have h3 : d.toNat + 1 ≤ 60 := by omega
    have h4 := Nat.mul_le_mul_right (60 ^ t.length) h3
    rw [Nat.add_mul, Nat.one_mul] at h4
    rw [List.length_cons, Nat.pow_succ, valN]
    omega
theorem valN_drop {l : List Int} {j : Nat} (h : j < l.length) : valN (l.drop j) = l[j].toNat * 60 ^ (l.length - 1 - j) + valN (l.drop (j + 1)) := by
  rw [List.drop_eq_getElem_cons h, valN, List.length_drop]
  congr 3
  omega
theorem num_put {W p d : Nat} (hW : W < 60 ^ p) (hd : d < 60) : numD (d * 60 ^ p + W) = (numD W).set p (d : Int) := by
  have hp : 0 < 60 ^ p := Nat.pow_pos (by decide)
  have h1 : (d * 60 ^ p + W) % 60 ^ p = W := by rw [Nat.add_comm, Nat.add_mul_mod_self_right, Nat.mod_eq_of_lt hW]
  have h2 : (d * 60 ^ p + W) / 60 ^ p = d := by rw [Nat.add_comm, Nat.add_mul_div_right _ _ hp, Nat.div_eq_of_lt hW, Nat.zero_add]
  have h3 : d * 60 ^ p + W < 60 ^ (p + 1) := by
    have h4 : (d + 1) * 60 ^ p ≤ 60 * 60 ^ p := Nat.mul_le_mul_right _ (by omega)
    rw [Nat.add_mul, Nat.one_mul] at h4
    rw [Nat.pow_succ, Nat.mul_comm (60 ^ p)]
    omega
  have := numD_step (d * 60 ^ p + W) p
  rw [Nat.mod_eq_of_lt h3, h1, h2, Nat.mod_eq_of_lt hd] at this
  exact this
theorem from_step {l : List Int} (hd : digs l) {z j : Nat} (hj : j < l.length) : numD (valN (l.drop j) * 60 ^ z) = (numD (valN (l.drop (j + 1)) * 60 ^ z)).set (z + l.length - 1 - j) l[j] := by
  have hl := hd _ (List.getElem_mem hj)
  have hlt := valN_lt (l := l.drop (j + 1)) (fun x hx => hd x (List.mem_of_mem_drop hx))
  rw [List.length_drop] at hlt
  have e : valN (l.drop j) * 60 ^ z = l[j].toNat * 60 ^ (z + l.length - 1 - j) + valN (l.drop (j + 1)) * 60 ^ z := by
    rw [valN_drop hj, Nat.add_mul, Nat.mul_assoc, ← Nat.pow_add]
    congr 3
    omega
  have hW : valN (l.drop (j + 1)) * 60 ^ z < 60 ^ (z + l.length - 1 - j) := by
    have : z + l.length - 1 - j = (l.length - (j + 1)) + z := by omega
    rw [this, Nat.pow_add]
    exact Nat.mul_lt_mul_of_pos_right hlt (Nat.pow_pos (by decide))
  rw [e, num_put hW (by omega)]
  congr 1
  omega
set_option maxRecDepth 100000 in
set_option maxHeartbeats 8000000 in
theorem numfrom_w (l : List Int) (hd : digs l) (z : Nat) (hz : z + l.length ≤ 146) (v : Value) (h : AHeap) (hv : IIn h v l) :
    Wc pr (.func 61) [v, .int .i64 (z : Int)] h fun r h' => r = numV (valN l * 60 ^ z) ∧ Gr h h' := by
  have hv0 := hv
  obtain ⟨a, c, rfl, hc, hv⟩ := hv
  refine wc_func Tryz.func61 rfl rfl rfl rfl ?_
  generalize hZ : ints .u8 (numD 0) = Z
  have zv : zeroV Tryz.prog 87 = some (.agg Z.toArray) := by rw [← hZ]; exact zv87
  repeat' (first
    | ((with_reducible first | refine optP_id ?_ | refine resP_id ?_ | refine callT_of ?_); conv => { arg 1; simp (disch := first | assumption | omega) only [push_cast, ↓reduceIte, reduceIte, Nat.reduceEqDiff, Nat.reduceAdd, Nat.reduceSub, Nat.reduceMul, Nat.reduceBEq, Int.reduceNeg, zv] }; first | ((with_reducible refine optP_id ?_); refine optP_some ?_) | ((with_reducible refine resP_id ?_); refine resP_one ?_) | ((with_reducible refine callT_to ?_); first | refine callP_plain ?_ | refine callP_yield ?_ | (refine callP_func ?_; conv => { arg 3; simp only [push_cast] })))
    | refine wk_seq ?_ | refine wk_region ?_ | refine wk_block ?_ | refine wk_inBlock ?_ | refine wo_nil ?_ | refine wk_exit ?_ | refine exitK_code ?_ | refine exitK_hit ?_ | refine exitK_miss rfl ?_ | refine exitK_inLoop ?_ | refine wk_ret ?_ | refine wk_nil ?_ | refine wo_dst rfl (opR_call ?_) | refine wo_nodst (opR_call ?_) | refine wo_dst rfl (opR_pure ?_) | refine wo_nodst (opR_pure ?_)
    | refine give_ret ?_ | refine give_end ?_)
  refine (backi_w _ _ _ _).mono ?_
  rintro _ h3 ⟨rfl, n3, q3, g3⟩
  have k3 := g3.2
  simp only [next_new] at n3 q3 k3
  repeat' (first
    | ((with_reducible first | refine optP_id ?_ | refine resP_id ?_ | refine callT_of ?_); conv => { arg 1; simp (disch := first | assumption | omega) only [push_cast, ↓reduceIte, reduceIte, Nat.reduceEqDiff, Nat.reduceAdd, Nat.reduceSub, Nat.reduceMul, Nat.reduceBEq, Int.reduceNeg, k3] }; first | ((with_reducible refine optP_id ?_); refine optP_some ?_) | ((with_reducible refine resP_id ?_); refine resP_one ?_) | ((with_reducible refine callT_to ?_); first | refine callP_plain ?_ | refine callP_yield ?_ | (refine callP_func ?_; conv => { arg 3; simp only [push_cast] })))
    | refine wk_seq ?_ | refine wk_region ?_ | refine wk_block ?_ | refine wk_inBlock ?_ | refine wo_nil ?_ | refine wk_exit ?_ | refine exitK_code ?_ | refine exitK_hit ?_ | refine exitK_miss rfl ?_ | refine exitK_inLoop ?_ | refine wk_ret ?_ | refine wk_nil ?_ | refine wo_dst rfl (opR_call ?_) | refine wo_nodst (opR_call ?_) | refine wo_dst rfl (opR_pure ?_) | refine wo_nodst (opR_pure ?_)
    | refine give_ret ?_ | refine give_end ?_)
  have c0 : h3.get h.next = some (.cells [.slice a l.length c] 22 true) := by rw [k3 _ (by omega)]; simp (disch := first | assumption | omega) only [push_cast, ↓reduceIte, reduceIte, Nat.reduceEqDiff, Nat.reduceAdd, Nat.reduceSub, Nat.reduceMul, Nat.reduceBEq, Int.reduceNeg]
  have c1 : h3.get (h.next + 1) = some (.cells [.int .i64 (z : Int)] 3 true) := by rw [k3 _ (by omega)]; simp (disch := first | assumption | omega) only [push_cast, ↓reduceIte, reduceIte, Nat.reduceEqDiff, Nat.reduceAdd, Nat.reduceSub, Nat.reduceMul, Nat.reduceBEq, Int.reduceNeg]
  have c2 : h3.get (h.next + 1 + 1) = some (.cells Z 87 true) := by rw [k3 _ (by omega)]; simp (disch := first | assumption | omega) only [push_cast, ↓reduceIte, reduceIte, Nat.reduceEqDiff, Nat.reduceAdd, Nat.reduceSub, Nat.reduceMul, Nat.reduceBEq, Int.reduceNeg]
  have c5 : h3.get (h.next + 1 + 1 + 1) = some (.cells Z 87 true) := by rw [k3 _ (by omega)]; simp (disch := first | assumption | omega) only [push_cast, ↓reduceIte, reduceIte, Nat.reduceEqDiff, Nat.reduceAdd, Nat.reduceSub, Nat.reduceMul, Nat.reduceBEq, Int.reduceNeg]
  have gA : Gr h h3 := ⟨by omega, fun b hb => by rw [k3 _ (by omega)]; simp (disch := first | assumption | omega) only [push_cast, ↓reduceIte, reduceIte, Nat.reduceEqDiff, Nat.reduceAdd, Nat.reduceSub, Nat.reduceMul, Nat.reduceBEq, Int.reduceNeg]⟩
  refine wk_rangeL rfl ?_
  intro L H lp nH oH dH lH
  conv => { arg 2; simp (disch := first | assumption | omega) only [push_cast, ↓reduceIte, reduceIte, Nat.reduceEqDiff, Nat.reduceAdd, Nat.reduceSub, Nat.reduceMul, Nat.reduceBEq, Int.reduceNeg] }
  refine callP_func ?_
  conv => { arg 3; simp only [push_cast] }
  refine (iteri_w l (h3.next + 1) (h.next + 1 + 1 + 1 + 1) (.slice a l.length c) H (by omega)
    (fun j H' => H.next ≤ H'.next ∧ (∀ b, b < H.next → b ≠ h3.next + 1 → b ≠ h.next + 1 + 1 + 1 → H'.get b = H.get b) ∧ L H' .ready none ∧ H'.get (h.next + 1 + 1 + 1) = some (.cells (ints .u8 (numD (valN (l.drop j) * 60 ^ z))) 87 true))
    (fun H' => False)
    ⟨Nat.le_refl _, fun _ _ _ _ => rfl, lH, by rw [List.drop_length, valN, Nat.zero_mul, hZ, oH _ (by omega)]; exact c5⟩ ?_ ?_).mono ?_
  · rintro j H' ⟨p1, p2, p3, p4⟩
    refine ⟨by omega, by rw [p2 _ (by omega) (by omega) (by omega), oH _ (by omega)]; exact q3, SlIn.gr hv0 ⟨by omega, fun b hb => ?_⟩⟩
    rw [p2 _ (by omega) (by omega) (by omega), oH _ (by omega), gA.2 b hb]
  · rintro j hj H' ⟨p1, p2, p3, p4⟩
    have hdj := hd _ (List.getElem_mem hj)
    have o1 : over (ints .u8 (numD (valN (l.drop (j + 1)) * 60 ^ z))) (z + l.length - 1 - j) [.int .u8 l[j]] = some (ints .u8 (numD (valN (l.drop j) * 60 ^ z))) := by
      rw [from_step hd hj]; exact ints_over .u8 _ (by rw [numD_len]; omega)
    have ep : (z : Int) + (l.length : Int) - 1 - (j : Int) = ((z + l.length - 1 - j : Nat) : Int) := by omega
    have hP : z + l.length - 1 - j < 146 := by omega
    generalize z + l.length - 1 - j = P at *
    generalize l[j] = d at *
    generalize ints .u8 (numD (valN (l.drop (j + 1)) * 60 ^ z)) = C at *
    generalize hC' : ints .u8 (numD (valN (l.drop j) * 60 ^ z)) = C' at *
    refine lp.yield p3 rfl rfl ?_
    rw [putLs2]
    repeat' (first
    | ((with_reducible first | refine optP_id ?_ | refine resP_id ?_ | refine callT_of ?_); conv => { arg 1; simp (disch := first | assumption | omega) only [push_cast, ↓reduceIte, reduceIte, Nat.reduceEqDiff, Nat.reduceAdd, Nat.reduceSub, Nat.reduceMul, Nat.reduceBEq, Int.reduceNeg] }; first | ((with_reducible refine optP_id ?_); refine optP_some ?_) | ((with_reducible refine resP_id ?_); refine resP_one ?_) | ((with_reducible refine callT_to ?_); first | refine callP_plain ?_ | refine callP_yield ?_ | (refine callP_func ?_; conv => { arg 3; simp only [push_cast] })))
    | refine wk_seq ?_ | refine wk_region ?_ | refine wk_block ?_ | refine wk_inBlock ?_ | refine wo_nil ?_ | refine wk_exit ?_ | refine exitK_code ?_ | refine exitK_hit ?_ | refine exitK_miss rfl ?_ | refine exitK_inLoop ?_ | refine wk_ret ?_ | refine wk_nil ?_ | refine wo_dst rfl (opR_call ?_) | refine wo_nodst (opR_call ?_) | refine wo_dst rfl (opR_pure ?_) | refine wo_nodst (opR_pure ?_)
    | refine give_ret ?_ | refine give_end ?_)
    refine lp.start rfl p3 ?_
    intro H2 m1 m2 m3
    have d0 : H2.get h.next = some (.cells [.slice a l.length c] 22 true) := by rw [m2 _ (by omega), p2 _ (by omega) (by omega) (by omega), oH _ (by omega)]; exact c0
    have d1 : H2.get (h.next + 1) = some (.cells [.int .i64 (z : Int)] 3 true) := by rw [m2 _ (by omega), p2 _ (by omega) (by omega) (by omega), oH _ (by omega)]; exact c1
    have d5 : H2.get (h.next + 1 + 1 + 1) = some (.cells C 87 true) := by rw [m2 _ (by omega)]; exact p4
    repeat' (first
    | ((with_reducible first | refine optP_id ?_ | refine resP_id ?_ | refine callT_of ?_); conv => { arg 1; simp (disch := first | assumption | omega) only [push_cast, ↓reduceIte, reduceIte, Nat.reduceEqDiff, Nat.reduceAdd, Nat.reduceSub, Nat.reduceMul, Nat.reduceBEq, Int.reduceNeg, d0, d1, d5, ep, o1] }; first | ((with_reducible refine optP_id ?_); refine optP_some ?_) | ((with_reducible refine resP_id ?_); refine resP_one ?_) | ((with_reducible refine callT_to ?_); first | refine callP_plain ?_ | refine callP_yield ?_ | (refine callP_func ?_; conv => { arg 3; simp only [push_cast] })))
    | refine wk_seq ?_ | refine wk_region ?_ | refine wk_block ?_ | refine wk_inBlock ?_ | refine wo_nil ?_ | refine wk_exit ?_ | refine exitK_code ?_ | refine exitK_hit ?_ | refine exitK_miss rfl ?_ | refine exitK_inLoop ?_ | refine wk_ret ?_ | refine wk_nil ?_ | refine wo_dst rfl (opR_call ?_) | refine wo_nodst (opR_call ?_) | refine wo_dst rfl (opR_pure ?_) | refine wo_nodst (opR_pure ?_)
    | refine give_ret ?_ | refine give_end ?_)
    refine lp.next (lp.of m3 (by simp (disch := first | assumption | omega) only [push_cast, ↓reduceIte, reduceIte, Nat.reduceEqDiff, Nat.reduceAdd, Nat.reduceSub, Nat.reduceMul, Nat.reduceBEq, Int.reduceNeg])) ?_
    intro H3 t1 t2 t3
    simp only [next_set] at t1
    refine .inl ⟨rfl, by omega, fun b hb n1 n4 => ?_, t3, ?_⟩
    · rw [t2 _ n1]
      simp (disch := first | assumption | omega) only [push_cast, ↓reduceIte, reduceIte, Nat.reduceEqDiff, Nat.reduceAdd, Nat.reduceSub, Nat.reduceMul, Nat.reduceBEq, Int.reduceNeg]
      rw [m2 _ n1, p2 _ hb n1 n4]
    · rw [t2 _ (by omega)]; simp (disch := first | assumption | omega) only [push_cast, ↓reduceIte, reduceIte, Nat.reduceEqDiff, Nat.reduceAdd, Nat.reduceSub, Nat.reduceMul, Nat.reduceBEq, Int.reduceNeg]
  · rintro _ H' (⟨p1, p2, p3, p4⟩ | hF)
    · refine ⟨_, _, by decide, p3, fun H'' t1 t2 => ?_⟩
      rw [todo_none]
      rw [List.drop_zero] at p4
      have e2 : H''.get (h.next + 1 + 1) = some (.cells Z 87 true) := by rw [t2 _ (by omega), p2 _ (by omega) (by omega) (by omega), oH _ (by omega)]; exact c2
      have e5 : H''.get (h.next + 1 + 1 + 1) = some (.cells (ints .u8 (numD (valN l * 60 ^ z))) 87 true) := by rw [t2 _ (by omega)]; exact p4
      have e6 : H''.get h3.next = some (.deferred (some [])) := by rw [t2 _ (by omega), p2 _ (by omega) (by omega) (by omega)]; exact dH
      have gr : Gr h H'' := ⟨by omega, fun b hb => by rw [t2 _ (by omega), p2 _ (by omega) (by omega) (by omega), oH _ (by omega), gA.2 b hb]⟩
      have hcut : takeN 146 (ints .u8 (numD (valN l * 60 ^ z))) = some (ints .u8 (numD (valN l * 60 ^ z))) := num_cut _
      have hov : over0 (ints .u8 (numD (valN l * 60 ^ z))) Z = some (ints .u8 (numD (valN l * 60 ^ z))) := over_all (by rw [← hZ, num_len, num_len])
      have hst := storeK_all (num_ne _) (num_len _) (ints_flat _ _) e2 hov
      rw [num_cells]
      generalize ints .u8 (numD (valN l * 60 ^ z)) = C at *
      repeat' (first
    | ((with_reducible first | refine optP_id ?_ | refine resP_id ?_ | refine callT_of ?_); conv => { arg 1; simp (disch := first | assumption | omega) only [push_cast, ↓reduceIte, reduceIte, Nat.reduceEqDiff, Nat.reduceAdd, Nat.reduceSub, Nat.reduceMul, Nat.reduceBEq, Int.reduceNeg, e2, e5, hcut, hst] }; first | ((with_reducible refine optP_id ?_); refine optP_some ?_) | ((with_reducible refine resP_id ?_); refine resP_one ?_) | ((with_reducible refine callT_to ?_); first | refine callP_plain ?_ | refine callP_yield ?_ | (refine callP_func ?_; conv => { arg 3; simp only [push_cast] })))
    | refine wk_seq ?_ | refine wk_region ?_ | refine wk_block ?_ | refine wk_inBlock ?_ | refine wo_nil ?_ | refine wk_exit ?_ | refine exitK_code ?_ | refine exitK_hit ?_ | refine exitK_miss rfl ?_ | refine exitK_inLoop ?_ | refine wk_ret ?_ | refine wk_nil ?_ | refine wo_dst rfl (opR_call ?_) | refine wo_nodst (opR_call ?_) | refine wo_dst rfl (opR_pure ?_) | refine wo_nodst (opR_pure ?_)
    | refine give_ret ?_ | refine give_end ?_)
      refine give_ret1 (by simp (disch := first | assumption | omega) only [push_cast, ↓reduceIte, reduceIte, Nat.reduceEqDiff, Nat.reduceAdd, Nat.reduceSub, Nat.reduceMul, Nat.reduceBEq, Int.reduceNeg, e6]) ?_
      repeat' (first
    | ((with_reducible first | refine optP_id ?_ | refine resP_id ?_ | refine callT_of ?_); conv => { arg 1; simp (disch := first | assumption | omega) only [push_cast, ↓reduceIte, reduceIte, Nat.reduceEqDiff, Nat.reduceAdd, Nat.reduceSub, Nat.reduceMul, Nat.reduceBEq, Int.reduceNeg, hcut] }; first | ((with_reducible refine optP_id ?_); refine optP_some ?_) | ((with_reducible refine resP_id ?_); refine resP_one ?_) | ((with_reducible refine callT_to ?_); first | refine callP_plain ?_ | refine callP_yield ?_ | (refine callP_func ?_; conv => { arg 3; simp only [push_cast] })))
    | refine wk_seq ?_ | refine wk_region ?_ | refine wk_block ?_ | refine wk_inBlock ?_ | refine wo_nil ?_ | refine wk_exit ?_ | refine exitK_code ?_ | refine exitK_hit ?_ | refine exitK_miss rfl ?_ | refine exitK_inLoop ?_ | refine wk_ret ?_ | refine wk_nil ?_ | refine wo_dst rfl (opR_call ?_) | refine wo_nodst (opR_call ?_) | refine wo_dst rfl (opR_pure ?_) | refine wo_nodst (opR_pure ?_)
    | refine give_ret ?_ | refine give_end ?_)
      exact ⟨rfl, by (repeat (first | exact Gr.refl _ | assumption | (refine Gr.trans ?_ (by assumption)) | refine Gr.set ?_ (by first | exact Nat.le_refl _ | omega | (simp only [next_new, next_set]; omega)) _ | refine Gr.new ?_ _))⟩
    · exact hF.elim
end Go.Proofs.YtelepfablohdmaaGreatDoor
namespace Go.Proofs.YtelepfablohdmaaGreatDoor
open Go.Ev
theorem valN_snoc (d : Int) : ∀ l : List Int, valN (l ++ [d]) = valN l * 60 + d.toNat
  | [] => by simp [valN]
  | x :: l => by
    rw [List.cons_append, valN, valN_snoc d l, valN, List.length_append, List.length_singleton, Nat.pow_succ, Nat.add_mul, Nat.mul_assoc, Nat.add_assoc]
/-- the digits from j on, reversed -/
def revL (X k j : Nat) : List Int := ((usL X k).drop j).reverse
theorem revL_step {X k j : Nat} (hk : k ≤ 146) (hj : j < k) : revL X k j = revL X k (j + 1) ++ [((X / 60 ^ j % 60 : Nat) : Int)] := by
  have h : j < (usL X k).length := by rw [usL_len hk]; exact hj
  unfold revL
  rw [List.drop_eq_getElem_cons h, List.reverse_cons, usL_get]
theorem revL_top {X k : Nat} (hk : k ≤ 146) : revL X k k = [] := by
  unfold revL
  rw [List.drop_of_length_le (by rw [usL_len hk]; exact Nat.le_refl _)]; rfl
theorem revL_len {X k j : Nat} (hk : k ≤ 146) : (revL X k j).length = k - j := by
  unfold revL
  rw [List.length_reverse, List.length_drop, usL_len hk]
theorem revL_val {X k : Nat} (hX : X < 60 ^ 146) (hk : digsN X k) : ∀ n j, j + n = k → valN (revL X k j) = X / 60 ^ j
  | 0, j, h => by
    have : j = k := by omega
    subst this
    rw [revL_top hk.1, top_zero hX hk]; rfl
  | n + 1, j, h => by
    rw [revL_step hk.1 (by omega), valN_snoc, revL_val hX hk n (j + 1) (by omega), Int.toNat_natCast]
    exact (dig_up X j).symm
theorem revL_digs {X k j : Nat} (hk : k ≤ 146) : digs (revL X k j) := by
  intro x hx
  unfold revL at hx
  have hx := List.mem_of_mem_drop (List.mem_reverse.1 hx)
  obtain ⟨i, hi, rfl⟩ := List.getElem_of_mem hx
  rw [usL_get]
  have : X / 60 ^ i % 60 < 60 := Nat.mod_lt _ (by decide)
  omega
theorem low_zero {X : Nat} : ∀ e, (∀ i, i < e → X / 60 ^ i % 60 = 0) → X / 60 ^ e * 60 ^ e = X
  | 0, _ => by simp
  | e + 1, h => by
    have h1 := low_zero e fun i hi => h i (by omega)
    have h2 := dig_up X e
    rw [h e (by omega), Nat.add_zero] at h2
    generalize X / 60 ^ (e + 1) = Q at *
    rw [Nat.pow_succ, Nat.mul_comm (60 ^ e), ← Nat.mul_assoc, ← h2, h1]
theorem revL_valid {X k e : Nat} (hk : digsN X k) (he : e < k) (h0 : X / 60 ^ e % 60 ≠ 0) : valid (revL X k e) := by
  refine ⟨revL_digs hk.1, ?_, fun _ => ?_⟩
  · have h1 : (revL X k e)[0]? = some ((X / 60 ^ (k - 1) % 60 : Nat) : Int) := by
      unfold revL
      rw [List.getElem?_reverse (by rw [List.length_drop, usL_len hk.1]; omega), List.length_drop, usL_len hk.1, List.getElem?_drop]
      have : e + (k - e - 1 - 0) = k - 1 := by omega
      rw [this, List.getElem?_eq_getElem (by rw [usL_len hk.1]; omega), usL_get]
    rw [h1]
    intro hh
    have := Option.some.inj hh
    rcases hk.2.2 with h | h
    · omega
    · omega
  · rw [revL_step hk.1 he]
    have : (revL X k (e + 1) ++ [((X / 60 ^ e % 60 : Nat) : Int)]).length - 1 = (revL X k (e + 1)).length := by simp
    rw [this, List.getElem?_append_right (Nat.le_refl _), Nat.sub_self]
    intro hh
    have := Option.some.inj hh
    omega
end Go.Proofs.YtelepfablohdmaaGreatDoor
