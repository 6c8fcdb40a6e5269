/- Contracts: multiply of bytes by integers, multiple, scaled. -/
import Derived.Test.YtelepfablohdmaaDoorVF
set_option linter.unusedSimpArgs false
set_option linter.unusedVariables false
/- Contracts: times, Mul. -/
namespace Go.Proofs.YtelepfablohdmaaDoor
open Go.Ev
theorem digsN_le {X k K : Nat} (h : digsN X k) (hX : X < 60 ^ K) : k ≤ K := by
  rcases h.2.2 with q | q
  · omega
  · apply Classical.byContradiction
    intro hh
    apply q
    have : 60 ^ K ≤ 60 ^ (k - 1) := Nat.pow_le_pow_right (by decide) (by omega)
    rw [Nat.div_eq_of_lt (by omega)]
theorem digsN_lt {X k : Nat} (hX : X < 60 ^ 146) (h : digsN X k) : X < 60 ^ k := by
  have := top_zero hX h
  rcases Nat.lt_or_ge X (60 ^ k) with q | q
  · exact q
  · have := Nat.div_pos q (pow60_pos k)
    omega
theorem ints_okL (k : IntKind) : ∀ l : List Int, okL (ints k l) = true
  | [] => rfl
  | x :: l => by
    show (okC (.int k x) && okL (ints k l)) = true
    rw [ints_okL k l]; rfl
theorem same_ints (k : IntKind) (l : List Int) : same (.agg (ints k l).toArray) (.agg (ints k l).toArray) = true := same_of rfl (ints_okL k l)
set_option maxRecDepth 100000 in
set_option maxHeartbeats 8000000 in
theorem times_w (X Y K J : Nat) (hX : X < 60 ^ K) (hY : Y < 60 ^ J) (hKJ : K + J ≤ 146) (h : AHeap) :
    Wc pr (.func 56) [numV X, numV Y] h fun r h' => r = numV (X * Y) ∧ Gr h h' := by
  have hX146 : X < 60 ^ 146 := Nat.lt_of_lt_of_le hX (Nat.pow_le_pow_right (by decide) (by omega))
  have hY146 : Y < 60 ^ 146 := Nat.lt_of_lt_of_le hY (Nat.pow_le_pow_right (by decide) (by omega))
  have wx := fun H => used_w X H
  have wy := fun H => used_w Y H
  rw [num_cells] at wx wy
  rw [num_cells X, num_cells Y]
  have hcx : takeN 146 (ints .u8 (numD X)) = some (ints .u8 (numD X)) := num_cut X
  have hcy : takeN 146 (ints .u8 (numD Y)) = some (ints .u8 (numD Y)) := num_cut Y
  have hfx := ints_flat .u8 (numD X)
  have hfy := ints_flat .u8 (numD Y)
  have hsy := same_ints .u8 (numD Y)
  refine wc_func Tryd.func56 rfl rfl rfl rfl ?_
  generalize hZ : ints .u8 (numD 0) = Z
  have zv : zeroV Tryd.prog 91 = some (.agg Z.toArray) := by rw [← hZ]; exact zv91
  generalize hCX : ints .u8 (numD X) = CX at *
  generalize hCY : ints .u8 (numD Y) = CY at *
  repeat' (first
    | ((with_reducible first | refine optP_id ?_ | refine resP_id ?_ | refine callT_of ?_); conv => { arg 1; simp (disch := first | assumption | omega) only [push_cast, ↓reduceIte, reduceIte, Nat.reduceEqDiff, Nat.reduceAdd, Nat.reduceSub, Nat.reduceMul, Nat.reduceBEq, Int.reduceNeg, hfx, hfy, hcx, hcy, zv] }; first | ((with_reducible refine optP_id ?_); refine optP_some ?_) | ((with_reducible refine resP_id ?_); first | refine resP_one ?_ | refine resP_two ?_ | refine resP_three ?_ | refine resP_four ?_ | refine resP_zero ?_) | ((with_reducible refine callT_to ?_); first | refine callP_plain ?_ | refine callP_yield ?_ | (refine callP_func ?_; conv => { arg 3; simp only [push_cast] })))
    | refine wk_seq ?_ | refine wk_region ?_ | refine wk_draw (by kernel_rfl) (by decide +kernel) ?_ | refine wk_drawn [(2, 1)] (by kernel_rfl) (by decide +kernel) ?_ | refine wo_nil ?_ | refine wk_ret ?_ | refine wk_nil ?_ | refine wo_dst rfl (opR_call ?_) | refine wo_nodst (opR_call ?_) | refine wo_dst rfl (opR_pure ?_) | refine wo_nodst (opR_pure ?_)
    | refine wd_dst rfl (opR_call ?_) | refine wd_nodst (opR_call ?_) | refine wd_dst rfl (opR_pick ?_) | refine wd_guard rfl rfl ?_ | refine wd_guardn rfl ?_ | refine wd_dst rfl (opR_pure ?_) | refine wd_nodst (opR_pure ?_) | refine opR_call ?_ | refine opR_pick ?_ | refine opR_pure ?_ | (refine wd_nil ?_; refine doneD rfl rfl ?_ ?_) | refine again_nil | refine again_cons ?_ ?_ | refine again_plain rfl rfl rfl ?_ | refine again_guard rfl rfl rfl rfl ?_ | exact same_undef | exact same_of rfl rfl | refine give_ret ?_ | refine give_end ?_)
  refine (wx _).mono ?_
  rintro _ h1 ⟨⟨b1, kx, rfl, hkx, hgx, p1, p2⟩, g1⟩; have n1 := g1.1; have k1 := g1.2; try simp only [next_new, next_set] at n1 k1
  simp only [next_new] at p1
  repeat' (first
    | ((with_reducible first | refine optP_id ?_ | refine resP_id ?_ | refine callT_of ?_); conv => { arg 1; simp (disch := first | assumption | omega) only [push_cast, ↓reduceIte, reduceIte, Nat.reduceEqDiff, Nat.reduceAdd, Nat.reduceSub, Nat.reduceMul, Nat.reduceBEq, Int.reduceNeg, hcy, k1] }; first | ((with_reducible refine optP_id ?_); refine optP_some ?_) | ((with_reducible refine resP_id ?_); first | refine resP_one ?_ | refine resP_two ?_ | refine resP_three ?_ | refine resP_four ?_ | refine resP_zero ?_) | ((with_reducible refine callT_to ?_); first | refine callP_plain ?_ | refine callP_yield ?_ | (refine callP_func ?_; conv => { arg 3; simp only [push_cast] })))
    | refine wk_seq ?_ | refine wk_region ?_ | refine wk_draw (by kernel_rfl) (by decide +kernel) ?_ | refine wk_drawn [(2, 1)] (by kernel_rfl) (by decide +kernel) ?_ | refine wo_nil ?_ | refine wk_ret ?_ | refine wk_nil ?_ | refine wo_dst rfl (opR_call ?_) | refine wo_nodst (opR_call ?_) | refine wo_dst rfl (opR_pure ?_) | refine wo_nodst (opR_pure ?_)
    | refine wd_dst rfl (opR_call ?_) | refine wd_nodst (opR_call ?_) | refine wd_dst rfl (opR_pick ?_) | refine wd_guard rfl rfl ?_ | refine wd_guardn rfl ?_ | refine wd_dst rfl (opR_pure ?_) | refine wd_nodst (opR_pure ?_) | refine opR_call ?_ | refine opR_pick ?_ | refine opR_pure ?_ | (refine wd_nil ?_; refine doneD rfl rfl ?_ ?_) | refine again_nil | refine again_cons ?_ ?_ | refine again_plain rfl rfl rfl ?_ | refine again_guard rfl rfl rfl rfl ?_ | exact same_undef | exact same_of rfl rfl | refine give_ret ?_ | refine give_end ?_)
  refine (wy _).mono ?_
  rintro _ h2 ⟨⟨b2, ky, rfl, hky, hgy, p3, p4⟩, g2⟩; have n2 := g2.1; have k2 := g2.2; try simp only [next_new, next_set] at n2 k2
  repeat' (first
    | ((with_reducible first | refine optP_id ?_ | refine resP_id ?_ | refine callT_of ?_); conv => { arg 1; simp (disch := first | assumption | omega) only [push_cast, ↓reduceIte, reduceIte, Nat.reduceEqDiff, Nat.reduceAdd, Nat.reduceSub, Nat.reduceMul, Nat.reduceBEq, Int.reduceNeg, k1, k2] }; first | ((with_reducible refine optP_id ?_); refine optP_some ?_) | ((with_reducible refine resP_id ?_); first | refine resP_one ?_ | refine resP_two ?_ | refine resP_three ?_ | refine resP_four ?_ | refine resP_zero ?_) | ((with_reducible refine callT_to ?_); first | refine callP_plain ?_ | refine callP_yield ?_ | (refine callP_func ?_; conv => { arg 3; simp only [push_cast] })))
    | refine wk_seq ?_ | refine wk_region ?_ | refine wk_draw (by kernel_rfl) (by decide +kernel) ?_ | refine wk_drawn [(2, 1)] (by kernel_rfl) (by decide +kernel) ?_ | refine wo_nil ?_ | refine wk_ret ?_ | refine wk_nil ?_ | refine wo_dst rfl (opR_call ?_) | refine wo_nodst (opR_call ?_) | refine wo_dst rfl (opR_pure ?_) | refine wo_nodst (opR_pure ?_)
    | refine wd_dst rfl (opR_call ?_) | refine wd_nodst (opR_call ?_) | refine wd_dst rfl (opR_pick ?_) | refine wd_guard rfl rfl ?_ | refine wd_guardn rfl ?_ | refine wd_dst rfl (opR_pure ?_) | refine wd_nodst (opR_pure ?_) | refine opR_call ?_ | refine opR_pick ?_ | refine opR_pure ?_ | (refine wd_nil ?_; refine doneD rfl rfl ?_ ?_) | refine again_nil | refine again_cons ?_ ?_ | refine again_plain rfl rfl rfl ?_ | refine again_guard rfl rfl rfl rfl ?_ | exact same_undef | exact same_of rfl rfl | refine give_ret ?_ | refine give_end ?_)
  have lkx := digsN_le hkx hX
  have lky := digsN_le hky hY
  have inx : SlIn encB 1 91 h2 (.slice (some ⟨b1, 0, none⟩) kx (EX + 146)) (usL X kx) := usL_in hkx.1 (by rw [capLo_ex]; exact hkx.1) (by omega) (by rw [hCX, k2 _ (by omega)]; exact hgx)
  have iny : SlIn encB 1 91 h2 (.slice (some ⟨b2, 0, none⟩) ky (EX + 146)) (usL Y ky) := usL_in hky.1 (by rw [capLo_ex]; exact hky.1) (by omega) (by rw [hCY]; exact hgy)
  refine (mul8_w (usL X kx) (usL Y ky) (usL_digs hkx.1) (usL_digs hky.1) (by rw [usL_len hkx.1]; omega) (by rw [usL_len hky.1]; omega) _ _ _ inx iny).mono ?_
  rintro _ h3 ⟨⟨L, bl, rfl, d1, d2, d3, d4⟩, g3⟩; have n3 := g3.1; have k3 := g3.2; try simp only [next_new, next_set] at n3 k3
  rw [usL_len hkx.1, usL_len hky.1] at d3
  rw [usL_eq hkx.1 (digsN_lt hX146 hkx), usL_eq hky.1 (digsN_lt hY146 hky)] at d2
  repeat' (first
    | ((with_reducible first | refine optP_id ?_ | refine resP_id ?_ | refine callT_of ?_); conv => { arg 1; simp (disch := first | assumption | omega) only [push_cast, ↓reduceIte, reduceIte, Nat.reduceEqDiff, Nat.reduceAdd, Nat.reduceSub, Nat.reduceMul, Nat.reduceBEq, Int.reduceNeg, k1, k2, k3] }; first | ((with_reducible refine optP_id ?_); refine optP_some ?_) | ((with_reducible refine resP_id ?_); first | refine resP_one ?_ | refine resP_two ?_ | refine resP_three ?_ | refine resP_four ?_ | refine resP_zero ?_) | ((with_reducible refine callT_to ?_); first | refine callP_plain ?_ | refine callP_yield ?_ | (refine callP_func ?_; conv => { arg 3; simp only [push_cast] })))
    | refine wk_seq ?_ | refine wk_region ?_ | refine wk_draw (by kernel_rfl) (by decide +kernel) ?_ | refine wk_drawn [(2, 1)] (by kernel_rfl) (by decide +kernel) ?_ | refine wo_nil ?_ | refine wk_ret ?_ | refine wk_nil ?_ | refine wo_dst rfl (opR_call ?_) | refine wo_nodst (opR_call ?_) | refine wo_dst rfl (opR_pure ?_) | refine wo_nodst (opR_pure ?_)
    | refine wd_dst rfl (opR_call ?_) | refine wd_nodst (opR_call ?_) | refine wd_dst rfl (opR_pick ?_) | refine wd_guard rfl rfl ?_ | refine wd_guardn rfl ?_ | refine wd_dst rfl (opR_pure ?_) | refine wd_nodst (opR_pure ?_) | refine opR_call ?_ | refine opR_pick ?_ | refine opR_pure ?_ | (refine wd_nil ?_; refine doneD rfl rfl ?_ ?_) | refine again_nil | refine again_cons ?_ ?_ | refine again_plain rfl rfl rfl ?_ | refine again_guard rfl rfl rfl rfl ?_ | exact same_undef | exact same_of rfl rfl | refine give_ret ?_ | refine give_end ?_)
  refine (held_w (e := 5) L d1 (by omega) _ _ (own_in encB_len (by rw [(capLo_small (c := L.length) (by unfold EX; omega)).1]; exact Nat.le_refl _) (fun hn => (d4 hn).1) (fun hn => ⟨true, (d4 hn).2⟩))).mono ?_
  rintro _ h4 ⟨rfl, g4⟩; have n4 := g4.1; have k4 := g4.2; try simp only [next_new, next_set] at n4 k4
  rw [d2, num_cells]
  have e4 : h4.get (h.next + 1 + 1) = some (.cells Z 91 true) := by rw [k4 _ (by omega), k3 _ (by omega), k2 _ (by omega), k1 _ (by omega)]; simp (disch := first | assumption | omega) only [push_cast, ↓reduceIte, reduceIte, Nat.reduceEqDiff, Nat.reduceAdd, Nat.reduceSub, Nat.reduceMul, Nat.reduceBEq, Int.reduceNeg]
  have hcz : takeN 146 (ints .u8 (numD (X * Y))) = some (ints .u8 (numD (X * Y))) := num_cut _
  have hov : over0 (ints .u8 (numD (X * Y))) Z = some (ints .u8 (numD (X * Y))) := over_all (by rw [← hZ, num_len, num_len])
  have hst := storeK_all (num_ne _) (num_len _) (ints_flat _ _) e4 hov
  generalize ints .u8 (numD (X * Y)) = CZ at *
  repeat' (first
    | ((with_reducible first | refine optP_id ?_ | refine resP_id ?_ | refine callT_of ?_); conv => { arg 1; simp (disch := first | assumption | omega) only [push_cast, ↓reduceIte, reduceIte, Nat.reduceEqDiff, Nat.reduceAdd, Nat.reduceSub, Nat.reduceMul, Nat.reduceBEq, Int.reduceNeg, k1, k2, k3, k4, e4, hst, hcz, hcx, hcy] }; first | ((with_reducible refine optP_id ?_); refine optP_some ?_) | ((with_reducible refine resP_id ?_); first | refine resP_one ?_ | refine resP_two ?_ | refine resP_three ?_ | refine resP_four ?_ | refine resP_zero ?_) | ((with_reducible refine callT_to ?_); first | refine callP_plain ?_ | refine callP_yield ?_ | (refine callP_func ?_; conv => { arg 3; simp only [push_cast] })))
    | refine wk_seq ?_ | refine wk_region ?_ | refine wk_draw (by kernel_rfl) (by decide +kernel) ?_ | refine wk_drawn [(2, 1)] (by kernel_rfl) (by decide +kernel) ?_ | refine wo_nil ?_ | refine wk_ret ?_ | refine wk_nil ?_ | refine wo_dst rfl (opR_call ?_) | refine wo_nodst (opR_call ?_) | refine wo_dst rfl (opR_pure ?_) | refine wo_nodst (opR_pure ?_)
    | refine wd_dst rfl (opR_call ?_) | refine wd_nodst (opR_call ?_) | refine wd_dst rfl (opR_pick ?_) | refine wd_guard rfl rfl ?_ | refine wd_guardn rfl ?_ | refine wd_dst rfl (opR_pure ?_) | refine wd_nodst (opR_pure ?_) | refine opR_call ?_ | refine opR_pick ?_ | refine opR_pure ?_ | (refine wd_nil ?_; refine doneD rfl rfl ?_ ?_) | refine again_nil | refine again_cons ?_ ?_ | refine again_plain rfl rfl rfl ?_ | refine again_guard rfl rfl rfl rfl ?_ | exact same_undef | exact same_of rfl rfl | refine give_ret ?_ | refine give_end ?_)
  · exact hsy
  · exact ⟨rfl, by (repeat (first | exact Gr.refl _ | assumption | (refine Gr.trans ?_ (by assumption)) | refine Gr.set ?_ (by first | exact Nat.le_refl _ | omega | (simp only [next_new, next_set]; omega)) _ | refine Gr.new ?_ _))⟩
theorem valN_lt16 {l : List Int} (hv : valid l) (hl : l.length ≤ 16) : valN l < 60 ^ 16 := Nat.lt_of_lt_of_le (valN_lt hv.1) (Nat.pow_le_pow_right (by decide) hl)
/-- what a function of digits returns: the digits of X, or that they are too many -/
def digR (X : Nat) (r : Value) (h' : AHeap) : Prop := ∃ d w, nf X d ∧ ((d.length ≤ 16 ∧ r = .tuple #[w, .int .i64 0] ∧ IIn h' w d) ∨ (16 < d.length ∧ r = .tuple #[.slice none 0 0, .int .i64 3]))
theorem place_len {l : List Int} {e X K : Nat} (hl : valid l) (hn : l ≠ []) (h : valN l * 60 ^ e = X) (hX : X < 60 ^ K) : l.length + e ≤ K := by
  have h1 := valid_ge hl hn
  have h2 := Nat.mul_le_mul_right (60 ^ e) h1
  rw [← Nat.pow_add, h] at h2
  have := (Nat.pow_lt_pow_iff_right (by decide : 1 < 60)).1 (Nat.lt_of_le_of_lt h2 hX)
  have := List.length_pos_iff.2 hn
  omega
theorem placeE_zero {l : List Int} {s : Int} (hv : valid l) (hn : l ≠ []) (h1 : -64 ≤ s) (h2 : s ≤ 64) : (l.length ≤ 16 → placeE l s = 0) ∧ (16 < l.length → placeE l s ≠ 0) := by
  refine ⟨fun h => ?_, fun h => ?_⟩
  · rw [placeE, if_neg (fun h3 => h3 (valid_check hv h)), if_neg (fun h3 => h3 ⟨h1, h2⟩), if_neg (fun h3 => hn h3.1)]
  · have : checkE l = 3 := by rw [checkE, if_pos h]
    rw [placeE, this, if_pos (by decide)]
    decide
set_option maxRecDepth 100000 in
set_option maxHeartbeats 8000000 in
theorem mul_w (l m : List Int) (hl : valid l) (hm : valid m) (ll : l.length ≤ 16) (lm : m.length ≤ 16) (v u : Value) (h : AHeap) (hv : IIn h v l) (hu : IIn h u m) :
    Wc pr (.func 19) [v, u] h fun r h' => digR (valN l * valN m) r h' ∧ Gr h h' := by
  have xl := valN_lt16 hl ll
  have xm := valN_lt16 hm lm
  have hX32 : valN l * valN m < 60 ^ 32 := by
    have := Nat.mul_lt_mul'' xl xm
    rw [← Nat.pow_add] at this
    exact this
  have hX : valN l * valN m < 60 ^ 146 := Nat.lt_of_lt_of_le hX32 (Nat.pow_le_pow_right (by decide) (by omega))
  have wl := fun H hi => numfrom_w l hl.1 0 (by omega) v H hi
  have wm := fun H hi => numfrom_w m hm.1 0 (by omega) u H hi
  rw [Nat.pow_zero, Nat.mul_one] at wl wm
  have hv0 := hv
  have hu0 := hu
  obtain ⟨a, c, rfl, _⟩ := hv
  obtain ⟨a', c', rfl, _⟩ := hu
  refine wc_func Tryd.func19 rfl rfl rfl rfl ?_
  repeat' (first
    | ((with_reducible first | refine optP_id ?_ | refine condP_id ?_ | refine resP_id ?_ | refine callT_of ?_); conv => { arg 1; simp (disch := first | assumption | omega) only [push_cast, ↓reduceIte, reduceIte, Nat.reduceEqDiff, Nat.reduceAdd, Nat.reduceSub, Nat.reduceMul, Nat.reduceBEq, Int.reduceNeg] }; first | ((with_reducible refine optP_id ?_); refine optP_some ?_) | ((with_reducible refine condP_id ?_); first | refine qcy ?_ | refine qcx ?_ | refine qco ?_ | refine condP_decn (fun hc => ?_) (fun hc => ?_) | refine condP_dec (fun hc => ?_) (fun hc => ?_) | refine qct ?_ | refine qcf ?_ | refine condP_bool (fun hc => ?_) (fun hc => ?_)) | ((with_reducible refine resP_id ?_); first | refine resP_one ?_ | refine resP_two ?_ | refine resP_three ?_ | refine resP_four ?_ | refine resP_zero ?_) | ((with_reducible refine callT_to ?_); first | refine callP_plain ?_ | refine callP_yield ?_ | (refine callP_func ?_; conv => { arg 3; simp only [push_cast] })))
    | refine wk_seq ?_ | refine wk_region ?_ | refine wk_skip ?_ | refine wo_nil ?_ | refine wk_cond ?_ | refine wk_ret ?_ | refine wk_nil ?_ | refine wo_dst rfl (opR_call ?_) | refine wo_nodst (opR_call ?_) | refine wo_dst rfl (opR_pure ?_) | refine wo_nodst (opR_pure ?_)
    | refine give_ret ?_ | refine give_end ?_)
  refine (check_w l _ _ hv0 (by omega)).mono ?_
  rintro _ _ ⟨rfl, rfl⟩
  rw [valid_check hl ll]
  repeat' (first
    | ((with_reducible first | refine optP_id ?_ | refine condP_id ?_ | refine resP_id ?_ | refine callT_of ?_); conv => { arg 1; simp (disch := first | assumption | omega) only [push_cast, ↓reduceIte, reduceIte, Nat.reduceEqDiff, Nat.reduceAdd, Nat.reduceSub, Nat.reduceMul, Nat.reduceBEq, Int.reduceNeg] }; first | ((with_reducible refine optP_id ?_); refine optP_some ?_) | ((with_reducible refine condP_id ?_); first | refine qcy ?_ | refine qcx ?_ | refine qco ?_ | refine condP_decn (fun hc => ?_) (fun hc => ?_) | refine condP_dec (fun hc => ?_) (fun hc => ?_) | refine qct ?_ | refine qcf ?_ | refine condP_bool (fun hc => ?_) (fun hc => ?_)) | ((with_reducible refine resP_id ?_); first | refine resP_one ?_ | refine resP_two ?_ | refine resP_three ?_ | refine resP_four ?_ | refine resP_zero ?_) | ((with_reducible refine callT_to ?_); first | refine callP_plain ?_ | refine callP_yield ?_ | (refine callP_func ?_; conv => { arg 3; simp only [push_cast] })))
    | refine wk_seq ?_ | refine wk_region ?_ | refine wk_skip ?_ | refine wo_nil ?_ | refine wk_cond ?_ | refine wk_ret ?_ | refine wk_nil ?_ | refine wo_dst rfl (opR_call ?_) | refine wo_nodst (opR_call ?_) | refine wo_dst rfl (opR_pure ?_) | refine wo_nodst (opR_pure ?_)
    | refine give_ret ?_ | refine give_end ?_)
  refine (check_w m _ _ hu0 (by omega)).mono ?_
  rintro _ _ ⟨rfl, rfl⟩
  rw [valid_check hm lm]
  repeat' (first
    | ((with_reducible first | refine optP_id ?_ | refine condP_id ?_ | refine resP_id ?_ | refine callT_of ?_); conv => { arg 1; simp (disch := first | assumption | omega) only [push_cast, ↓reduceIte, reduceIte, Nat.reduceEqDiff, Nat.reduceAdd, Nat.reduceSub, Nat.reduceMul, Nat.reduceBEq, Int.reduceNeg] }; first | ((with_reducible refine optP_id ?_); refine optP_some ?_) | ((with_reducible refine condP_id ?_); first | refine qcy ?_ | refine qcx ?_ | refine qco ?_ | refine condP_decn (fun hc => ?_) (fun hc => ?_) | refine condP_dec (fun hc => ?_) (fun hc => ?_) | refine qct ?_ | refine qcf ?_ | refine condP_bool (fun hc => ?_) (fun hc => ?_)) | ((with_reducible refine resP_id ?_); first | refine resP_one ?_ | refine resP_two ?_ | refine resP_three ?_ | refine resP_four ?_ | refine resP_zero ?_) | ((with_reducible refine callT_to ?_); first | refine callP_plain ?_ | refine callP_yield ?_ | (refine callP_func ?_; conv => { arg 3; simp only [push_cast] })))
    | refine wk_seq ?_ | refine wk_region ?_ | refine wk_skip ?_ | refine wo_nil ?_ | refine wk_cond ?_ | refine wk_ret ?_ | refine wk_nil ?_ | refine wo_dst rfl (opR_call ?_) | refine wo_nodst (opR_call ?_) | refine wo_dst rfl (opR_pure ?_) | refine wo_nodst (opR_pure ?_)
    | refine give_ret ?_ | refine give_end ?_)
  refine (or_w 0 0 _ _ _ (by simp (disch := first | assumption | omega) only [push_cast, ↓reduceIte, reduceIte, Nat.reduceEqDiff, Nat.reduceAdd, Nat.reduceSub, Nat.reduceMul, Nat.reduceBEq, Int.reduceNeg])).mono ?_
  rintro _ _ ⟨rfl, rfl⟩
  rw [if_neg (fun h => h rfl)]
  repeat' (first
    | ((with_reducible first | refine optP_id ?_ | refine condP_id ?_ | refine resP_id ?_ | refine callT_of ?_); conv => { arg 1; simp (disch := first | assumption | omega) only [push_cast, ↓reduceIte, reduceIte, Nat.reduceEqDiff, Nat.reduceAdd, Nat.reduceSub, Nat.reduceMul, Nat.reduceBEq, Int.reduceNeg] }; first | ((with_reducible refine optP_id ?_); refine optP_some ?_) | ((with_reducible refine condP_id ?_); first | refine qcy ?_ | refine qcx ?_ | refine qco ?_ | refine condP_decn (fun hc => ?_) (fun hc => ?_) | refine condP_dec (fun hc => ?_) (fun hc => ?_) | refine qct ?_ | refine qcf ?_ | refine condP_bool (fun hc => ?_) (fun hc => ?_)) | ((with_reducible refine resP_id ?_); first | refine resP_one ?_ | refine resP_two ?_ | refine resP_three ?_ | refine resP_four ?_ | refine resP_zero ?_) | ((with_reducible refine callT_to ?_); first | refine callP_plain ?_ | refine callP_yield ?_ | (refine callP_func ?_; conv => { arg 3; simp only [push_cast] })))
    | refine wk_seq ?_ | refine wk_region ?_ | refine wk_skip ?_ | refine wo_nil ?_ | refine wk_cond ?_ | refine wk_ret ?_ | refine wk_nil ?_ | refine wo_dst rfl (opR_call ?_) | refine wo_nodst (opR_call ?_) | refine wo_dst rfl (opR_pure ?_) | refine wo_nodst (opR_pure ?_)
    | refine give_ret ?_ | refine give_end ?_)
  refine (wl _ (SlIn.gr hv0 (by (repeat (first | exact Gr.refl _ | assumption | (refine Gr.trans ?_ (by assumption)) | refine Gr.set ?_ (by first | exact Nat.le_refl _ | omega | (simp only [next_new, next_set]; omega)) _ | refine Gr.new ?_ _))))).mono ?_
  rintro _ h1 ⟨rfl, g1⟩; have n1 := g1.1; have k1 := g1.2; try simp only [next_new, next_set] at n1 k1
  repeat' (first
    | ((with_reducible first | refine optP_id ?_ | refine condP_id ?_ | refine resP_id ?_ | refine callT_of ?_); conv => { arg 1; simp (disch := first | assumption | omega) only [push_cast, ↓reduceIte, reduceIte, Nat.reduceEqDiff, Nat.reduceAdd, Nat.reduceSub, Nat.reduceMul, Nat.reduceBEq, Int.reduceNeg, k1] }; first | ((with_reducible refine optP_id ?_); refine optP_some ?_) | ((with_reducible refine condP_id ?_); first | refine qcy ?_ | refine qcx ?_ | refine qco ?_ | refine condP_decn (fun hc => ?_) (fun hc => ?_) | refine condP_dec (fun hc => ?_) (fun hc => ?_) | refine qct ?_ | refine qcf ?_ | refine condP_bool (fun hc => ?_) (fun hc => ?_)) | ((with_reducible refine resP_id ?_); first | refine resP_one ?_ | refine resP_two ?_ | refine resP_three ?_ | refine resP_four ?_ | refine resP_zero ?_) | ((with_reducible refine callT_to ?_); first | refine callP_plain ?_ | refine callP_yield ?_ | (refine callP_func ?_; conv => { arg 3; simp only [push_cast] })))
    | refine wk_seq ?_ | refine wk_region ?_ | refine wk_skip ?_ | refine wo_nil ?_ | refine wk_cond ?_ | refine wk_ret ?_ | refine wk_nil ?_ | refine wo_dst rfl (opR_call ?_) | refine wo_nodst (opR_call ?_) | refine wo_dst rfl (opR_pure ?_) | refine wo_nodst (opR_pure ?_)
    | refine give_ret ?_ | refine give_end ?_)
  refine (wm _ (SlIn.gr hu0 (by (repeat (first | exact Gr.refl _ | assumption | (refine Gr.trans ?_ (by assumption)) | refine Gr.set ?_ (by first | exact Nat.le_refl _ | omega | (simp only [next_new, next_set]; omega)) _ | refine Gr.new ?_ _))))).mono ?_
  rintro _ h2 ⟨rfl, g2⟩; have n2 := g2.1; have k2 := g2.2; try simp only [next_new, next_set] at n2 k2
  repeat' (first
    | ((with_reducible first | refine optP_id ?_ | refine condP_id ?_ | refine resP_id ?_ | refine callT_of ?_); conv => { arg 1; simp (disch := first | assumption | omega) only [push_cast, ↓reduceIte, reduceIte, Nat.reduceEqDiff, Nat.reduceAdd, Nat.reduceSub, Nat.reduceMul, Nat.reduceBEq, Int.reduceNeg, k1, k2] }; first | ((with_reducible refine optP_id ?_); refine optP_some ?_) | ((with_reducible refine condP_id ?_); first | refine qcy ?_ | refine qcx ?_ | refine qco ?_ | refine condP_decn (fun hc => ?_) (fun hc => ?_) | refine condP_dec (fun hc => ?_) (fun hc => ?_) | refine qct ?_ | refine qcf ?_ | refine condP_bool (fun hc => ?_) (fun hc => ?_)) | ((with_reducible refine resP_id ?_); first | refine resP_one ?_ | refine resP_two ?_ | refine resP_three ?_ | refine resP_four ?_ | refine resP_zero ?_) | ((with_reducible refine callT_to ?_); first | refine callP_plain ?_ | refine callP_yield ?_ | (refine callP_func ?_; conv => { arg 3; simp only [push_cast] })))
    | refine wk_seq ?_ | refine wk_region ?_ | refine wk_skip ?_ | refine wo_nil ?_ | refine wk_cond ?_ | refine wk_ret ?_ | refine wk_nil ?_ | refine wo_dst rfl (opR_call ?_) | refine wo_nodst (opR_call ?_) | refine wo_dst rfl (opR_pure ?_) | refine wo_nodst (opR_pure ?_)
    | refine give_ret ?_ | refine give_end ?_)
  refine (times_w _ _ 16 16 xl xm (by omega) _).mono ?_
  rintro _ h3 ⟨rfl, g3⟩; have n3 := g3.1; have k3 := g3.2; try simp only [next_new, next_set] at n3 k3
  repeat' (first
    | ((with_reducible first | refine optP_id ?_ | refine condP_id ?_ | refine resP_id ?_ | refine callT_of ?_); conv => { arg 1; simp (disch := first | assumption | omega) only [push_cast, ↓reduceIte, reduceIte, Nat.reduceEqDiff, Nat.reduceAdd, Nat.reduceSub, Nat.reduceMul, Nat.reduceBEq, Int.reduceNeg, k1, k2, k3] }; first | ((with_reducible refine optP_id ?_); refine optP_some ?_) | ((with_reducible refine condP_id ?_); first | refine qcy ?_ | refine qcx ?_ | refine qco ?_ | refine condP_decn (fun hc => ?_) (fun hc => ?_) | refine condP_dec (fun hc => ?_) (fun hc => ?_) | refine qct ?_ | refine qcf ?_ | refine condP_bool (fun hc => ?_) (fun hc => ?_)) | ((with_reducible refine resP_id ?_); first | refine resP_one ?_ | refine resP_two ?_ | refine resP_three ?_ | refine resP_four ?_ | refine resP_zero ?_) | ((with_reducible refine callT_to ?_); first | refine callP_plain ?_ | refine callP_yield ?_ | (refine callP_func ?_; conv => { arg 3; simp only [push_cast] })))
    | refine wk_seq ?_ | refine wk_region ?_ | refine wk_skip ?_ | refine wo_nil ?_ | refine wk_cond ?_ | refine wk_ret ?_ | refine wk_nil ?_ | refine wo_dst rfl (opR_call ?_) | refine wo_nodst (opR_call ?_) | refine wo_dst rfl (opR_pure ?_) | refine wo_nodst (opR_pure ?_)
    | refine give_ret ?_ | refine give_end ?_)
  refine (place_w _ hX 0 (by omega) (by omega) _).mono ?_
  rintro _ h4 ⟨hp, g4⟩; have n4 := g4.1; have k4 := g4.2; try simp only [next_new, next_set] at n4 k4
  generalize valN l * valN m = X at *
  rcases hp with ⟨h0, rfl⟩ | ⟨h0, d, e, w, hd, hn, hval, hle, ⟨hE, rfl, hin⟩ | ⟨hE, rfl⟩⟩
  · repeat' (first
    | ((with_reducible first | refine optP_id ?_ | refine condP_id ?_ | refine resP_id ?_ | refine callT_of ?_); conv => { arg 1; simp (disch := first | assumption | omega) only [push_cast, ↓reduceIte, reduceIte, Nat.reduceEqDiff, Nat.reduceAdd, Nat.reduceSub, Nat.reduceMul, Nat.reduceBEq, Int.reduceNeg, k1, k2, k3, k4] }; first | ((with_reducible refine optP_id ?_); refine optP_some ?_) | ((with_reducible refine condP_id ?_); first | refine qcy ?_ | refine qcx ?_ | refine qco ?_ | refine condP_decn (fun hc => ?_) (fun hc => ?_) | refine condP_dec (fun hc => ?_) (fun hc => ?_) | refine qct ?_ | refine qcf ?_ | refine condP_bool (fun hc => ?_) (fun hc => ?_)) | ((with_reducible refine resP_id ?_); first | refine resP_one ?_ | refine resP_two ?_ | refine resP_three ?_ | refine resP_four ?_ | refine resP_zero ?_) | ((with_reducible refine callT_to ?_); first | refine callP_plain ?_ | refine callP_yield ?_ | (refine callP_func ?_; conv => { arg 3; simp only [push_cast] })))
    | refine wk_seq ?_ | refine wk_region ?_ | refine wk_skip ?_ | refine wo_nil ?_ | refine wk_cond ?_ | refine wk_ret ?_ | refine wk_nil ?_ | refine wo_dst rfl (opR_call ?_) | refine wo_nodst (opR_call ?_) | refine wo_dst rfl (opR_pure ?_) | refine wo_nodst (opR_pure ?_)
    | refine give_ret ?_ | refine give_end ?_)
    exact ⟨⟨[], _, ⟨valid_nil, ⟨fun _ => h0, fun _ => rfl⟩, 0, by rw [h0]; rfl⟩, .inl ⟨by simp, rfl, ⟨none, 0, rfl, Nat.zero_le _, fun h => absurd rfl h⟩⟩⟩, by (repeat (first | exact Gr.refl _ | assumption | (refine Gr.trans ?_ (by assumption)) | refine Gr.set ?_ (by first | exact Nat.le_refl _ | omega | (simp only [next_new, next_set]; omega)) _ | refine Gr.new ?_ _))⟩
  · obtain ⟨aw, cw, rfl, q⟩ := id hin
    have hl2 := place_len hd hn hval hX32
    have hpz := placeE_zero (s := 0 + (e : Int)) hd hn (by omega) (by omega)
    repeat' (first
    | ((with_reducible first | refine optP_id ?_ | refine condP_id ?_ | refine resP_id ?_ | refine callT_of ?_); conv => { arg 1; simp (disch := first | assumption | omega) only [push_cast, ↓reduceIte, reduceIte, Nat.reduceEqDiff, Nat.reduceAdd, Nat.reduceSub, Nat.reduceMul, Nat.reduceBEq, Int.reduceNeg, k1, k2, k3, k4] }; first | ((with_reducible refine optP_id ?_); refine optP_some ?_) | ((with_reducible refine condP_id ?_); first | refine qcy ?_ | refine qcx ?_ | refine qco ?_ | refine condP_decn (fun hc => ?_) (fun hc => ?_) | refine condP_dec (fun hc => ?_) (fun hc => ?_) | refine qct ?_ | refine qcf ?_ | refine condP_bool (fun hc => ?_) (fun hc => ?_)) | ((with_reducible refine resP_id ?_); first | refine resP_one ?_ | refine resP_two ?_ | refine resP_three ?_ | refine resP_four ?_ | refine resP_zero ?_) | ((with_reducible refine callT_to ?_); first | refine callP_plain ?_ | refine callP_yield ?_ | (refine callP_func ?_; conv => { arg 3; simp only [push_cast] })))
    | refine wk_seq ?_ | refine wk_region ?_ | refine wk_skip ?_ | refine wo_nil ?_ | refine wk_cond ?_ | refine wk_ret ?_ | refine wk_nil ?_ | refine wo_dst rfl (opR_call ?_) | refine wo_nodst (opR_call ?_) | refine wo_dst rfl (opR_pure ?_) | refine wo_nodst (opR_pure ?_)
    | refine give_ret ?_ | refine give_end ?_)
    exact ⟨⟨d, _, ⟨hd, ⟨fun h => absurd h hn, fun h => absurd h h0⟩, e, hval⟩, .inl ⟨by
      apply Classical.byContradiction
      intro hh
      exact hpz.2 (by omega) hE, rfl, SlIn.gr hin (by (repeat (first | exact Gr.refl _ | assumption | (refine Gr.trans ?_ (by assumption)) | refine Gr.set ?_ (by first | exact Nat.le_refl _ | omega | (simp only [next_new, next_set]; omega)) _ | refine Gr.new ?_ _)))⟩⟩, by (repeat (first | exact Gr.refl _ | assumption | (refine Gr.trans ?_ (by assumption)) | refine Gr.set ?_ (by first | exact Nat.le_refl _ | omega | (simp only [next_new, next_set]; omega)) _ | refine Gr.new ?_ _))⟩
  · have hl2 := place_len hd hn hval hX32
    have hpz := placeE_zero (s := 0 + (e : Int)) hd hn (by omega) (by omega)
    repeat' (first
    | ((with_reducible first | refine optP_id ?_ | refine condP_id ?_ | refine resP_id ?_ | refine callT_of ?_); conv => { arg 1; simp (disch := first | assumption | omega) only [push_cast, ↓reduceIte, reduceIte, Nat.reduceEqDiff, Nat.reduceAdd, Nat.reduceSub, Nat.reduceMul, Nat.reduceBEq, Int.reduceNeg, k1, k2, k3, k4] }; first | ((with_reducible refine optP_id ?_); refine optP_some ?_) | ((with_reducible refine condP_id ?_); first | refine qcy ?_ | refine qcx ?_ | refine qco ?_ | refine condP_decn (fun hc => ?_) (fun hc => ?_) | refine condP_dec (fun hc => ?_) (fun hc => ?_) | refine qct ?_ | refine qcf ?_ | refine condP_bool (fun hc => ?_) (fun hc => ?_)) | ((with_reducible refine resP_id ?_); first | refine resP_one ?_ | refine resP_two ?_ | refine resP_three ?_ | refine resP_four ?_ | refine resP_zero ?_) | ((with_reducible refine callT_to ?_); first | refine callP_plain ?_ | refine callP_yield ?_ | (refine callP_func ?_; conv => { arg 3; simp only [push_cast] })))
    | refine wk_seq ?_ | refine wk_region ?_ | refine wk_skip ?_ | refine wo_nil ?_ | refine wk_cond ?_ | refine wk_ret ?_ | refine wk_nil ?_ | refine wo_dst rfl (opR_call ?_) | refine wo_nodst (opR_call ?_) | refine wo_dst rfl (opR_pure ?_) | refine wo_nodst (opR_pure ?_)
    | refine give_ret ?_ | refine give_end ?_)
    exact ⟨⟨d, .bool true, ⟨hd, ⟨fun h => absurd h hn, fun h => absurd h h0⟩, e, hval⟩, .inr ⟨by
      apply Classical.byContradiction
      intro hh
      exact hE (hpz.1 (by omega)), rfl⟩⟩, by (repeat (first | exact Gr.refl _ | assumption | (refine Gr.trans ?_ (by assumption)) | refine Gr.set ?_ (by first | exact Nat.le_refl _ | omega | (simp only [next_new, next_set]; omega)) _ | refine Gr.new ?_ _))⟩
theorem lt_mul {a b : List Int} {i j k : Nat} (ha : valid a) (hb : valid b) (la : a.length ≤ i) (lb : b.length ≤ j) (h : i + j ≤ k) : valN a * valN b < 60 ^ k := by
  have h1 := Nat.lt_of_lt_of_le (valN_lt ha.1) (Nat.pow_le_pow_right (n := 60) (by decide) la)
  have h2 := Nat.lt_of_lt_of_le (valN_lt hb.1) (Nat.pow_le_pow_right (n := 60) (by decide) lb)
  have h3 := Nat.mul_lt_mul'' h1 h2
  rw [← Nat.pow_add] at h3
  exact Nat.lt_of_lt_of_le h3 (Nat.pow_le_pow_right (by decide) h)
end Go.Proofs.YtelepfablohdmaaDoor
namespace Go.Proofs.YtelepfablohdmaaDoor
open Go.Ev
set_option maxRecDepth 100000 in
set_option maxHeartbeats 8000000 in
theorem muli_w {e1 : Nat} (ua ub : List Int) (ha : digs ua) (hb : digs ub) (la : ua.length ≤ 200) (lb : ub.length ≤ 200) (va vb : Value) (h : AHeap) (hva : SlIn encB 1 e1 h va ua) (hvb : IIn h vb ub) :
    Wc pr (.func 122) [va, vb] h fun r h' => (∃ L b, r = .slice (ownB L b) L.length L.length ∧ digs L ∧ leN L = leN ua * leN ub ∧ L.length ≤ ua.length + ub.length ∧ (L ≠ [] → b < h'.next ∧ h'.get b = some (.cells (flatE encB L) 5 true))) ∧ Gr h h' := by
  obtain ⟨aa, ca, rfl, _, _⟩ := id hva
  obtain ⟨ab, cb, rfl, _, hv⟩ := id hvb
  refine wc_func Tryd.func122 rfl rfl rfl rfl ?_
  repeat' (first
    | ((with_reducible first | refine optP_id ?_ | refine condP_id ?_ | refine resP_id ?_ | refine callT_of ?_); conv => { arg 1; simp (disch := first | assumption | omega) only [push_cast, ↓reduceIte, reduceIte, Nat.reduceEqDiff, Nat.reduceAdd, Nat.reduceSub, Nat.reduceMul, Nat.reduceBEq, Int.reduceNeg] }; first | ((with_reducible refine optP_id ?_); refine optP_some ?_) | ((with_reducible refine condP_id ?_); first | refine qcy ?_ | refine qcx ?_ | refine qco ?_ | refine condP_decn (fun hc => ?_) (fun hc => ?_) | refine condP_dec (fun hc => ?_) (fun hc => ?_) | refine qct ?_ | refine qcf ?_ | refine condP_bool (fun hc => ?_) (fun hc => ?_)) | ((with_reducible refine resP_id ?_); first | refine resP_one ?_ | refine resP_two ?_ | refine resP_three ?_ | refine resP_four ?_ | refine resP_zero ?_) | ((with_reducible refine callT_to ?_); first | refine callP_plain ?_ | refine callP_yield ?_ | (refine callP_func ?_; conv => { arg 3; simp only [push_cast] })))
    | refine wk_seq ?_ | refine wk_region ?_ | refine wk_block ?_ | refine wk_inBlock ?_ | refine wk_skip ?_ | refine wo_nil ?_ | refine wk_exit ?_ | refine exitK_code ?_ | refine exitK_hit ?_ | refine exitK_miss rfl ?_ | refine exitK_inLoop ?_ | refine wk_cond ?_ | refine wk_ret ?_ | refine wk_nil ?_ | refine wo_dst rfl (opR_call ?_) | refine wo_nodst (opR_call ?_) | refine wo_dst rfl (opR_pure ?_) | refine wo_nodst (opR_pure ?_)
    | refine give_ret ?_ | refine give_end ?_)
  refine wk_loop (fun n E H => ∃ (i b : Nat) (L : List Int), n = ub.length - i ∧ i ≤ ub.length ∧ digs L ∧ leN L = leN ua * leN (ub.take i) ∧ L.length ≤ ua.length + i ∧ OwnB [] 0 h.next H L b ∧ Gr h H ∧ E.look 0 top = .slice aa ua.length ca ∧ E.look 5 top = .slice (ownB L b) L.length L.length ∧ E.look 8 top = .slice ab ub.length cb ∧ E.look 9 top = .int .i64 (ub.length : Int) ∧ E.look 10 top = .int .i64 (i : Int)) ub.length
    ⟨0, 0, [], by omega, by omega, digs_nil, by simp [leN], by simp, fun hn => absurd rfl hn, by (repeat (first | exact Gr.refl _ | assumption | (refine Gr.trans ?_ (by assumption)) | refine Gr.set ?_ (by first | exact Nat.le_refl _ | omega | (simp only [next_new, next_set]; omega)) _ | refine Gr.new ?_ _)), by simp (disch := first | assumption | omega) only [push_cast, ↓reduceIte, reduceIte, Nat.reduceEqDiff, Nat.reduceAdd, Nat.reduceSub, Nat.reduceMul, Nat.reduceBEq, Int.reduceNeg], by simp (disch := first | assumption | omega) only [push_cast, ↓reduceIte, reduceIte, Nat.reduceEqDiff, Nat.reduceAdd, Nat.reduceSub, Nat.reduceMul, Nat.reduceBEq, Int.reduceNeg, ownB_nil, List.length_nil], by simp (disch := first | assumption | omega) only [push_cast, ↓reduceIte, reduceIte, Nat.reduceEqDiff, Nat.reduceAdd, Nat.reduceSub, Nat.reduceMul, Nat.reduceBEq, Int.reduceNeg], by simp (disch := first | assumption | omega) only [push_cast, ↓reduceIte, reduceIte, Nat.reduceEqDiff, Nat.reduceAdd, Nat.reduceSub, Nat.reduceMul, Nat.reduceBEq, Int.reduceNeg], by simp (disch := first | assumption | omega) only [push_cast, ↓reduceIte, reduceIte, Nat.reduceEqDiff, Nat.reduceAdd, Nat.reduceSub, Nat.reduceMul, Nat.reduceBEq, Int.reduceNeg, Int.natCast_zero]⟩ ?_
  rintro n E H ⟨i, b, L, rfl, hi, hL, hLv, hLl, hown, gr, e0, e5, e8, e9, e10⟩ next
  by_cases hlt : i < ub.length
  · have ilt : (i : Int) < (ub.length : Int) := by omega
    obtain ⟨bu, offu, allu, rwu, hab, hbu, hgu, htu⟩ := hv (by intro h; rw [h] at hlt; exact absurd hlt (Nat.not_lt_zero _))
    have hguH : H.get bu = some (.cells allu 3 rwu) := by rw [gr.2 bu hbu]; exact hgu
    have h1 := at_cut1 _ _ _ (htu i hlt)
    rw [Nat.mul_one] at h1
    have e8' : E.look 8 top = .slice (some ⟨bu, offu, none⟩) ub.length cb := by rw [e8, hab]
    have hd := hb _ (List.getElem_mem hlt)
    have ht := leN_take hlt
    obtain ⟨d, hde⟩ : ∃ d : Nat, ub[i] = (d : Int) := ⟨ub[i].toNat, by omega⟩
    rw [hde, Int.toNat_natCast] at ht
    rw [hde] at h1 hd
    have gn := gr.1
    repeat' (first
    | ((with_reducible first | refine optP_id ?_ | refine condP_id ?_ | refine resP_id ?_ | refine callT_of ?_); conv => { arg 1; simp (disch := first | assumption | omega) only [push_cast, ↓reduceIte, reduceIte, Nat.reduceEqDiff, Nat.reduceAdd, Nat.reduceSub, Nat.reduceMul, Nat.reduceBEq, Int.reduceNeg, e0, e5, e8', e9, e10, hguH, h1, Nat.mul_one] }; first | ((with_reducible refine optP_id ?_); refine optP_some ?_) | ((with_reducible refine condP_id ?_); first | refine qcy ?_ | refine qcx ?_ | refine qco ?_ | refine condP_decn (fun hc => ?_) (fun hc => ?_) | refine condP_dec (fun hc => ?_) (fun hc => ?_) | refine qct ?_ | refine qcf ?_ | refine condP_bool (fun hc => ?_) (fun hc => ?_)) | ((with_reducible refine resP_id ?_); first | refine resP_one ?_ | refine resP_two ?_ | refine resP_three ?_ | refine resP_four ?_ | refine resP_zero ?_) | ((with_reducible refine callT_to ?_); first | refine callP_plain ?_ | refine callP_yield ?_ | (refine callP_func ?_; conv => { arg 3; simp only [push_cast] })))
    | refine wk_seq ?_ | refine wk_region ?_ | refine wk_block ?_ | refine wk_inBlock ?_ | refine wk_skip ?_ | refine wo_nil ?_ | refine wk_exit ?_ | refine exitK_code ?_ | refine exitK_hit ?_ | refine exitK_miss rfl ?_ | refine exitK_inLoop ?_ | refine wk_cond ?_ | refine wk_ret ?_ | refine wk_nil ?_ | refine wo_dst rfl (opR_call ?_) | refine wo_nodst (opR_call ?_) | refine wo_dst rfl (opR_pure ?_) | refine wo_nodst (opR_pure ?_)
    | refine give_ret ?_ | refine give_end ?_)
    refine (add_w (e := e1) L ua d i b hL ha (by omega) (by omega) (by omega) (by omega) _ H (fun hn => ⟨(hown hn).1, (hown hn).2.1⟩) (fun H' fr => SlIn.gr hva ⟨by have := fr.1; omega, fun c hc => by
      rw [fr.2 c (by omega) (fun hn => by
        rcases (hown hn).2.2 with q | ⟨q, _⟩
        · omega
        · exact absurd rfl q), gr.2 c hc]⟩)).mono ?_
    rintro _ H2 ⟨⟨L2, b2, rfl, k1, k2, k3, k4, k5⟩, fr⟩
    have fn := fr.1
    repeat' (first
    | ((with_reducible first | refine optP_id ?_ | refine condP_id ?_ | refine resP_id ?_ | refine callT_of ?_); conv => { arg 1; simp (disch := first | assumption | omega) only [push_cast, ↓reduceIte, reduceIte, Nat.reduceEqDiff, Nat.reduceAdd, Nat.reduceSub, Nat.reduceMul, Nat.reduceBEq, Int.reduceNeg, e0, e5, e8', e9, e10] }; first | ((with_reducible refine optP_id ?_); refine optP_some ?_) | ((with_reducible refine condP_id ?_); first | refine qcy ?_ | refine qcx ?_ | refine qco ?_ | refine condP_decn (fun hc => ?_) (fun hc => ?_) | refine condP_dec (fun hc => ?_) (fun hc => ?_) | refine qct ?_ | refine qcf ?_ | refine condP_bool (fun hc => ?_) (fun hc => ?_)) | ((with_reducible refine resP_id ?_); first | refine resP_one ?_ | refine resP_two ?_ | refine resP_three ?_ | refine resP_four ?_ | refine resP_zero ?_) | ((with_reducible refine callT_to ?_); first | refine callP_plain ?_ | refine callP_yield ?_ | (refine callP_func ?_; conv => { arg 3; simp only [push_cast] })))
    | refine wk_seq ?_ | refine wk_region ?_ | refine wk_block ?_ | refine wk_inBlock ?_ | refine wk_skip ?_ | refine wo_nil ?_ | refine wk_exit ?_ | refine exitK_code ?_ | refine exitK_hit ?_ | refine exitK_miss rfl ?_ | refine exitK_inLoop ?_ | refine wk_cond ?_ | refine wk_ret ?_ | refine wk_nil ?_ | refine wo_dst rfl (opR_call ?_) | refine wo_nodst (opR_call ?_) | refine wo_dst rfl (opR_pure ?_) | refine wo_nodst (opR_pure ?_)
    | refine give_ret ?_ | refine give_end ?_)
    refine next (ub.length - (i + 1)) _ _ (by omega) ⟨i + 1, b2, L2, rfl, by omega, k1, ?_, by omega, fun hn => ?_, ⟨by omega, fun c hc => ?_⟩, by simp (disch := first | assumption | omega) only [push_cast, ↓reduceIte, reduceIte, Nat.reduceEqDiff, Nat.reduceAdd, Nat.reduceSub, Nat.reduceMul, Nat.reduceBEq, Int.reduceNeg, e0], by simp (disch := first | assumption | omega) only [push_cast, ↓reduceIte, reduceIte, Nat.reduceEqDiff, Nat.reduceAdd, Nat.reduceSub, Nat.reduceMul, Nat.reduceBEq, Int.reduceNeg], by simp (disch := first | assumption | omega) only [push_cast, ↓reduceIte, reduceIte, Nat.reduceEqDiff, Nat.reduceAdd, Nat.reduceSub, Nat.reduceMul, Nat.reduceBEq, Int.reduceNeg, e8], by simp (disch := first | assumption | omega) only [push_cast, ↓reduceIte, reduceIte, Nat.reduceEqDiff, Nat.reduceAdd, Nat.reduceSub, Nat.reduceMul, Nat.reduceBEq, Int.reduceNeg, e9], by simp (disch := first | assumption | omega) only [push_cast, ↓reduceIte, reduceIte, Nat.reduceEqDiff, Nat.reduceAdd, Nat.reduceSub, Nat.reduceMul, Nat.reduceBEq, Int.reduceNeg, Int.natCast_add, Int.natCast_one]⟩
    · rw [k2, ht, hLv]
      generalize leN ua = A
      generalize leN (ub.take i) = B
      generalize 60 ^ i = C
      grind
    · obtain ⟨q1, q2, q3⟩ := k5 hn
      refine ⟨q1, q2, .inl ?_⟩
      rcases q3 with q | ⟨q, q4⟩
      · omega
      · rcases (hown q).2.2 with q | ⟨q, _⟩
        · omega
        · exact absurd rfl q
    · rw [fr.2 c (by omega) (fun hn => by
        rcases (hown hn).2.2 with q | ⟨q, _⟩
        · omega
        · exact absurd rfl q), gr.2 c hc]
  · have ilt : ¬ (i : Int) < (ub.length : Int) := by omega
    repeat' (first
    | ((with_reducible first | refine optP_id ?_ | refine condP_id ?_ | refine resP_id ?_ | refine callT_of ?_); conv => { arg 1; simp (disch := first | assumption | omega) only [push_cast, ↓reduceIte, reduceIte, Nat.reduceEqDiff, Nat.reduceAdd, Nat.reduceSub, Nat.reduceMul, Nat.reduceBEq, Int.reduceNeg, e0, e5, e8, e9, e10] }; first | ((with_reducible refine optP_id ?_); refine optP_some ?_) | ((with_reducible refine condP_id ?_); first | refine qcy ?_ | refine qcx ?_ | refine qco ?_ | refine condP_decn (fun hc => ?_) (fun hc => ?_) | refine condP_dec (fun hc => ?_) (fun hc => ?_) | refine qct ?_ | refine qcf ?_ | refine condP_bool (fun hc => ?_) (fun hc => ?_)) | ((with_reducible refine resP_id ?_); first | refine resP_one ?_ | refine resP_two ?_ | refine resP_three ?_ | refine resP_four ?_ | refine resP_zero ?_) | ((with_reducible refine callT_to ?_); first | refine callP_plain ?_ | refine callP_yield ?_ | (refine callP_func ?_; conv => { arg 3; simp only [push_cast] })))
    | refine wk_seq ?_ | refine wk_region ?_ | refine wk_block ?_ | refine wk_inBlock ?_ | refine wk_skip ?_ | refine wo_nil ?_ | refine wk_exit ?_ | refine exitK_code ?_ | refine exitK_hit ?_ | refine exitK_miss rfl ?_ | refine exitK_inLoop ?_ | refine wk_cond ?_ | refine wk_ret ?_ | refine wk_nil ?_ | refine wo_dst rfl (opR_call ?_) | refine wo_nodst (opR_call ?_) | refine wo_dst rfl (opR_pure ?_) | refine wo_nodst (opR_pure ?_)
    | refine give_ret ?_ | refine give_end ?_)
    rw [List.take_of_length_le (by omega)] at hLv
    exact ⟨⟨L, b, rfl, hL, hLv, by omega, fun hn => ⟨(hown hn).1, (hown hn).2.1⟩⟩, gr⟩
theorem onei_in {H : AHeap} {b : Nat} {x : Int} (hb : b < H.next) (hg : H.get b = some (.cells [.int .i64 x] 3 true)) : IIn H (.slice (some ⟨b, 0, none⟩) 1 (EX + 1)) [x] :=
  own_in (l := [x]) (b := b) (c := EX + 1) encI_len (by rw [capLo_ex]; exact Nat.le_refl _) (fun _ => hb) (fun _ => ⟨true, hg⟩)
set_option maxRecDepth 100000 in
set_option maxHeartbeats 8000000 in
theorem multiple_w (X n : Nat) (hX : X < 60 ^ 145) (hn : n ≤ 59) (h : AHeap) :
    Wc pr (.func 110) [numV X, .int .i64 (n : Int)] h fun r h' => r = numV (X * n) ∧ Gr h h' := by
  have hX146 : X < 60 ^ 146 := Nat.lt_of_lt_of_le hX (Nat.pow_le_pow_right (by decide) (by omega))
  have wx := fun H => used_w X H
  rw [num_cells] at wx
  rw [num_cells X]
  have hcx : takeN 146 (ints .u8 (numD X)) = some (ints .u8 (numD X)) := num_cut X
  have hfx := ints_flat .u8 (numD X)
  refine wc_func Tryd.func110 rfl rfl rfl rfl ?_
  generalize hZ : ints .u8 (numD 0) = Z
  have zv : zeroV Tryd.prog 91 = some (.agg Z.toArray) := by rw [← hZ]; exact zv91
  generalize hCX : ints .u8 (numD X) = CX at *
  repeat' (first
    | ((with_reducible first | refine optP_id ?_ | refine resP_id ?_ | refine callT_of ?_); conv => { arg 1; simp (disch := first | assumption | omega) only [push_cast, ↓reduceIte, reduceIte, Nat.reduceEqDiff, Nat.reduceAdd, Nat.reduceSub, Nat.reduceMul, Nat.reduceBEq, Int.reduceNeg, hfx, hcx, zv] }; first | ((with_reducible refine optP_id ?_); refine optP_some ?_) | ((with_reducible refine resP_id ?_); first | refine resP_one ?_ | refine resP_two ?_ | refine resP_three ?_ | refine resP_four ?_ | refine resP_zero ?_) | ((with_reducible refine callT_to ?_); first | refine callP_plain ?_ | refine callP_yield ?_ | (refine callP_func ?_; conv => { arg 3; simp only [push_cast] })))
    | refine wk_seq ?_ | refine wk_region ?_ | refine wo_nil ?_ | refine wk_ret ?_ | refine wk_nil ?_ | refine wo_dst rfl (opR_call ?_) | refine wo_nodst (opR_call ?_) | refine wo_dst rfl (opR_pure ?_) | refine wo_nodst (opR_pure ?_)
    | refine give_ret ?_ | refine give_end ?_)
  refine (wx _).mono ?_
  rintro _ h1 ⟨⟨b1, kx, rfl, hkx, hgx, p1, p2⟩, g1⟩; have n1 := g1.1; have k1 := g1.2; try simp only [next_new, next_set] at n1 k1
  simp only [next_new] at p1
  repeat' (first
    | ((with_reducible first | refine optP_id ?_ | refine resP_id ?_ | refine callT_of ?_); conv => { arg 1; simp (disch := first | assumption | omega) only [push_cast, ↓reduceIte, reduceIte, Nat.reduceEqDiff, Nat.reduceAdd, Nat.reduceSub, Nat.reduceMul, Nat.reduceBEq, Int.reduceNeg, k1] }; first | ((with_reducible refine optP_id ?_); refine optP_some ?_) | ((with_reducible refine resP_id ?_); first | refine resP_one ?_ | refine resP_two ?_ | refine resP_three ?_ | refine resP_four ?_ | refine resP_zero ?_) | ((with_reducible refine callT_to ?_); first | refine callP_plain ?_ | refine callP_yield ?_ | (refine callP_func ?_; conv => { arg 3; simp only [push_cast] })))
    | refine wk_seq ?_ | refine wk_region ?_ | refine wo_nil ?_ | refine wk_ret ?_ | refine wk_nil ?_ | refine wo_dst rfl (opR_call ?_) | refine wo_nodst (opR_call ?_) | refine wo_dst rfl (opR_pure ?_) | refine wo_nodst (opR_pure ?_)
    | refine give_ret ?_ | refine give_end ?_)
  have lkx := digsN_le hkx hX
  have inx : SlIn encB 1 91 (h1.new (.cells [.int .i64 (n : Int)] 3 true)) (.slice (some ⟨b1, 0, none⟩) kx (EX + 146)) (usL X kx) := usL_in hkx.1 (by rw [capLo_ex]; exact hkx.1) (by simp only [next_new]; omega) (by rw [hCX]; simp (disch := first | assumption | omega) only [push_cast, ↓reduceIte, reduceIte, Nat.reduceEqDiff, Nat.reduceAdd, Nat.reduceSub, Nat.reduceMul, Nat.reduceBEq, Int.reduceNeg]; exact hgx)
  have inn : IIn (h1.new (.cells [.int .i64 (n : Int)] 3 true)) (.slice (some ⟨h1.next, 0, none⟩) 1 (EX + 1)) [(n : Int)] := onei_in (by simp only [next_new]; omega) (by simp (disch := first | assumption | omega) only [push_cast, ↓reduceIte, reduceIte, Nat.reduceEqDiff, Nat.reduceAdd, Nat.reduceSub, Nat.reduceMul, Nat.reduceBEq, Int.reduceNeg])
  refine (muli_w (usL X kx) [(n : Int)] (usL_digs hkx.1) (fun x hx => by rw [List.mem_singleton.1 hx]; omega) (by rw [usL_len hkx.1]; omega) (by simp) _ _ _ inx inn).mono ?_
  rintro _ h3 ⟨⟨L, bl, rfl, d1, d2, d3, d4⟩, g3⟩; have n3 := g3.1; have k3 := g3.2; try simp only [next_new, next_set] at n3 k3
  rw [usL_len hkx.1, List.length_singleton] at d3
  have hl1 : leN [(n : Int)] = n := by simp [leN]
  rw [usL_eq hkx.1 (digsN_lt hX146 hkx), hl1] at d2
  repeat' (first
    | ((with_reducible first | refine optP_id ?_ | refine resP_id ?_ | refine callT_of ?_); conv => { arg 1; simp (disch := first | assumption | omega) only [push_cast, ↓reduceIte, reduceIte, Nat.reduceEqDiff, Nat.reduceAdd, Nat.reduceSub, Nat.reduceMul, Nat.reduceBEq, Int.reduceNeg, k1, k3] }; first | ((with_reducible refine optP_id ?_); refine optP_some ?_) | ((with_reducible refine resP_id ?_); first | refine resP_one ?_ | refine resP_two ?_ | refine resP_three ?_ | refine resP_four ?_ | refine resP_zero ?_) | ((with_reducible refine callT_to ?_); first | refine callP_plain ?_ | refine callP_yield ?_ | (refine callP_func ?_; conv => { arg 3; simp only [push_cast] })))
    | refine wk_seq ?_ | refine wk_region ?_ | refine wo_nil ?_ | refine wk_ret ?_ | refine wk_nil ?_ | refine wo_dst rfl (opR_call ?_) | refine wo_nodst (opR_call ?_) | refine wo_dst rfl (opR_pure ?_) | refine wo_nodst (opR_pure ?_)
    | refine give_ret ?_ | refine give_end ?_)
  refine (held_w (e := 5) L d1 (by omega) _ _ (own_in encB_len (by rw [(capLo_small (c := L.length) (by unfold EX; omega)).1]; exact Nat.le_refl _) (fun hn => (d4 hn).1) (fun hn => ⟨true, (d4 hn).2⟩))).mono ?_
  rintro _ h4 ⟨rfl, g4⟩; have n4 := g4.1; have k4 := g4.2; try simp only [next_new, next_set] at n4 k4
  rw [d2, num_cells]
  have e4 : h4.get (h.next + 1) = some (.cells Z 91 true) := by rw [k4 _ (by omega), k3 _ (by omega)]; simp (disch := first | assumption | omega) only [push_cast, ↓reduceIte, reduceIte, Nat.reduceEqDiff, Nat.reduceAdd, Nat.reduceSub, Nat.reduceMul, Nat.reduceBEq, Int.reduceNeg]; rw [k1 _ (by omega)]; simp (disch := first | assumption | omega) only [push_cast, ↓reduceIte, reduceIte, Nat.reduceEqDiff, Nat.reduceAdd, Nat.reduceSub, Nat.reduceMul, Nat.reduceBEq, Int.reduceNeg]
  have hcz : takeN 146 (ints .u8 (numD (X * n))) = some (ints .u8 (numD (X * n))) := num_cut _
  have hov : over0 (ints .u8 (numD (X * n))) Z = some (ints .u8 (numD (X * n))) := over_all (by rw [← hZ, num_len, num_len])
  have hst := storeK_all (num_ne _) (num_len _) (ints_flat _ _) e4 hov
  generalize ints .u8 (numD (X * n)) = CZ at *
  repeat' (first
    | ((with_reducible first | refine optP_id ?_ | refine resP_id ?_ | refine callT_of ?_); conv => { arg 1; simp (disch := first | assumption | omega) only [push_cast, ↓reduceIte, reduceIte, Nat.reduceEqDiff, Nat.reduceAdd, Nat.reduceSub, Nat.reduceMul, Nat.reduceBEq, Int.reduceNeg, k1, k3, k4, e4, hst, hcz, hcx] }; first | ((with_reducible refine optP_id ?_); refine optP_some ?_) | ((with_reducible refine resP_id ?_); first | refine resP_one ?_ | refine resP_two ?_ | refine resP_three ?_ | refine resP_four ?_ | refine resP_zero ?_) | ((with_reducible refine callT_to ?_); first | refine callP_plain ?_ | refine callP_yield ?_ | (refine callP_func ?_; conv => { arg 3; simp only [push_cast] })))
    | refine wk_seq ?_ | refine wk_region ?_ | refine wo_nil ?_ | refine wk_ret ?_ | refine wk_nil ?_ | refine wo_dst rfl (opR_call ?_) | refine wo_nodst (opR_call ?_) | refine wo_dst rfl (opR_pure ?_) | refine wo_nodst (opR_pure ?_)
    | refine give_ret ?_ | refine give_end ?_)
  exact ⟨rfl, by (repeat (first | exact Gr.refl _ | assumption | (refine Gr.trans ?_ (by assumption)) | refine Gr.set ?_ (by first | exact Nat.le_refl _ | omega | (simp only [next_new, next_set]; omega)) _ | refine Gr.new ?_ _))⟩
end Go.Proofs.YtelepfablohdmaaDoor
