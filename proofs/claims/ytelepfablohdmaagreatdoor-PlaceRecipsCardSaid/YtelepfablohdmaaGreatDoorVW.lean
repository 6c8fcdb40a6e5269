/- The walk of the law PlaceRecips: Steps of both sides for any list, and the law. -/
import Derived.Test.YtelepfablohdmaaGreatDoorVQ
set_option linter.unusedSimpArgs false
set_option linter.unusedVariables false
/- The walk of the law PlaceRecips. -/
namespace Go.Proofs.YtelepfablohdmaaGreatDoor
open Go.Ev
theorem at_cut2 : ∀ (cs : List Value) (off : Nat) (u v : Value), cut cs off 2 = some [u, v] → at? cs off = some u ∧ at? cs (off + 1) = some v
  | [], 0, u, v, h => by cases h
  | [x], 0, u, v, h => by cases h
  | x :: y :: cs, 0, u, v, h => by
    have h2 : some [x, y] = some [u, v] := h
    cases h2; exact ⟨rfl, rfl⟩
  | [], off + 1, u, v, h => by cases h
  | x :: cs, off + 1, u, v, h => at_cut2 cs off u v h
theorem pair_uniq {f : Nat} {A B A' B' : List Int} (h : isPair f A B) (h' : isPair f A' B') : A = A' ∧ B = B' := by
  obtain ⟨h1, h2, h3, h4, h5, h6, h7, E, h8⟩ := h
  obtain ⟨k1, k2, k3, k4, k5, k6, k7, E', k8⟩ := h'
  have f0 : 0 < f := by rw [← h4]; exact valN_pos h1 h2
  refine ⟨valN_inj h1 k1 (h4.trans k4.symm), recipD_uniq f0 ⟨h5, h6, 0, E, by rw [Nat.pow_zero, Nat.mul_one]; exact h8⟩ ⟨k5, k6, 0, E', by rw [Nat.pow_zero, Nat.mul_one]; exact k8⟩⟩
/-- a list of pairs, in its block -/
def lsV (H : AHeap) (v : Value) (F : List Nat) : Prop := ∃ W bo, v = .slice (ownB W bo) W.length W.length ∧ (W ≠ [] → bo < H.next ∧ H.get bo = some (.cells (flatE encV W) 69 true)) ∧ elsV 0 H W F
theorem lsV.gr {H H' : AHeap} {v : Value} {F : List Nat} (h : lsV H v F) (g : Gr H H') : lsV H' v F := by
  obtain ⟨W, bo, h1, h2, h3⟩ := h
  exact ⟨W, bo, h1, fun hn => ⟨Nat.lt_of_lt_of_le (h2 hn).1 g.1, by rw [g.2 _ (h2 hn).1]; exact (h2 hn).2⟩, h3.keep (KeepI.gr g)⟩
theorem lsV_nil (H : AHeap) : lsV H (.slice none 0 0) [] := ⟨[], 0, rfl, fun hn => absurd rfl hn, elsV_nil _ _⟩
set_option maxRecDepth 100000 in
set_option maxHeartbeats 8000000 in
theorem samepairs_w (F : List Nat) (hF : F.length ≤ 96) (v u : Value) (h : AHeap) (hv : lsV h v F) (hu : lsV h u F) :
    Wc pr (.func 33) [v, u] h fun r h' => r = .bool true ∧ h = h' := by
  obtain ⟨W, bo, rfl, hB, hW⟩ := hv
  obtain ⟨U, bu, rfl, hC, hU⟩ := hu
  have e1 := hW.1
  have e2 := hU.1
  refine wc_func Tryz.func33 rfl rfl rfl rfl ?_
  have il : (W.length : Int) = (U.length : Int) := by omega
  repeat' (first
    | ((with_reducible first | refine optP_id ?_ | refine condP_id ?_ | refine condO_id ?_ | refine resP_id ?_ | refine callT_of ?_); conv => { arg 1; simp (disch := first | assumption | omega) only [push_cast, ↓reduceIte, reduceIte, Nat.reduceEqDiff, Nat.reduceAdd, Nat.reduceSub, Nat.reduceMul, Nat.reduceBEq, Int.reduceNeg] }; first | ((with_reducible refine optP_id ?_); refine optP_some ?_) | ((with_reducible refine condP_id ?_); first | refine qcy ?_ | refine qcx ?_ | refine qco ?_ | refine condP_decn (fun hc => ?_) (fun hc => ?_) | refine condP_dec (fun hc => ?_) (fun hc => ?_) | refine qct ?_ | refine qcf ?_ | refine condP_bool (fun hc => ?_) (fun hc => ?_)) | ((with_reducible refine condO_id ?_); refine condO_some ?_) | ((with_reducible refine resP_id ?_); refine resP_one ?_) | ((with_reducible refine callT_to ?_); refine callP_plain ?_))
    | refine wk_seq ?_ | refine wk_region ?_ | refine wk_block ?_ | refine wk_inBlock ?_ | refine wk_skip ?_ | refine wk_draw (by kernel_rfl) (by decide +kernel) ?_ | refine wo_nil ?_ | refine wk_exit ?_ | refine exitK_code ?_ | refine exitK_hit ?_ | refine exitK_miss rfl ?_ | refine exitK_inLoop ?_ | refine wk_cond ?_ | refine wk_ret ?_ | refine wk_nil ?_ | refine wo_dst rfl (opR_call ?_) | refine wo_nodst (opR_call ?_) | refine wo_dst rfl (opR_pick ?_) | refine wo_guard rfl rfl ?_ | refine wo_guardn rfl ?_ | refine wo_dst rfl (opR_pure ?_) | refine wo_nodst (opR_pure ?_)
    | refine give_ret ?_ | refine give_end ?_)
  refine wk_loop (fun n E H => ∃ i : Nat, n = W.length - i ∧ i ≤ W.length ∧ h = H ∧ E.look 0 top = .slice (ownB W bo) W.length W.length ∧ E.look 1 top = .slice (ownB U bu) U.length U.length ∧ E.look 5 top = .int .i64 (i : Int)) W.length
    ⟨0, rfl, by omega, rfl, by simp (disch := first | assumption | omega) only [push_cast, ↓reduceIte, reduceIte, Nat.reduceEqDiff, Nat.reduceAdd, Nat.reduceSub, Nat.reduceMul, Nat.reduceBEq, Int.reduceNeg], by simp (disch := first | assumption | omega) only [push_cast, ↓reduceIte, reduceIte, Nat.reduceEqDiff, Nat.reduceAdd, Nat.reduceSub, Nat.reduceMul, Nat.reduceBEq, Int.reduceNeg], by simp (disch := first | assumption | omega) only [push_cast, ↓reduceIte, reduceIte, Nat.reduceEqDiff, Nat.reduceAdd, Nat.reduceSub, Nat.reduceMul, Nat.reduceBEq, Int.reduceNeg, Int.natCast_zero]⟩ ?_
  rintro n E _ ⟨i, rfl, hi, rfl, y0, y1, y5⟩ next
  by_cases hlt : i < W.length
  · have ilt : (i : Int) < (W.length : Int) := by omega
    have hUi : i < U.length := by omega
    have hFi : i < F.length := by omega
    have hWn : W ≠ [] := fun hh => by rw [hh] at hlt; exact absurd hlt (Nat.not_lt_zero _)
    have hUn : U ≠ [] := fun hh => by rw [hh] at hUi; exact absurd hUi (Nat.not_lt_zero _)
    obtain ⟨b1, b2⟩ := hB hWn
    obtain ⟨c1, c2⟩ := hC hUn
    obtain ⟨A1, B1, a1, a2, p1, p2, hWe, hA1, hB1, hpr, _, _⟩ := hW.2 i hlt hFi
    obtain ⟨A2, B2, a3, a4, p3, p4, hUe, hA2, hB2, hpr2, _, _⟩ := hU.2 i hUi hFi
    obtain ⟨rfl, rfl⟩ := pair_uniq hpr hpr2
    have hl8 : A1.length ≤ 8 ∧ B1.length ≤ 4 := ⟨hpr.2.2.1, hpr.2.2.2.2.2.2.1⟩
    have hct := flatE_cut encV_len W hlt
    have hcu := flatE_cut encV_len U hUi
    rw [hWe] at hct
    rw [hUe] at hcu
    obtain ⟨w0, w1⟩ := at_cut2 _ _ _ _ hct
    obtain ⟨u0, u1⟩ := at_cut2 _ _ _ _ hcu
    rw [ownB_ne hWn] at y0
    rw [ownB_ne hUn] at y1
    generalize flatE encV W = CW at *
    generalize flatE encV U = CU at *
    repeat' (first
    | ((with_reducible first | refine optP_id ?_ | refine condP_id ?_ | refine condO_id ?_ | refine resP_id ?_ | refine callT_of ?_); conv => { arg 1; simp (disch := first | assumption | omega) only [push_cast, ↓reduceIte, reduceIte, Nat.reduceEqDiff, Nat.reduceAdd, Nat.reduceSub, Nat.reduceMul, Nat.reduceBEq, Int.reduceNeg, y0, y1, y5, b2, c2, w0, w1, u0, u1, Nat.zero_add, Nat.add_zero] }; first | ((with_reducible refine optP_id ?_); refine optP_some ?_) | ((with_reducible refine condP_id ?_); first | refine qcy ?_ | refine qcx ?_ | refine qco ?_ | refine condP_decn (fun hc => ?_) (fun hc => ?_) | refine condP_dec (fun hc => ?_) (fun hc => ?_) | refine qct ?_ | refine qcf ?_ | refine condP_bool (fun hc => ?_) (fun hc => ?_)) | ((with_reducible refine condO_id ?_); refine condO_some ?_) | ((with_reducible refine resP_id ?_); refine resP_one ?_) | ((with_reducible refine callT_to ?_); refine callP_plain ?_))
    | refine wk_seq ?_ | refine wk_region ?_ | refine wk_block ?_ | refine wk_inBlock ?_ | refine wk_skip ?_ | refine wk_draw (by kernel_rfl) (by decide +kernel) ?_ | refine wo_nil ?_ | refine wk_exit ?_ | refine exitK_code ?_ | refine exitK_hit ?_ | refine exitK_miss rfl ?_ | refine exitK_inLoop ?_ | refine wk_cond ?_ | refine wk_ret ?_ | refine wk_nil ?_ | refine wo_dst rfl (opR_call ?_) | refine wo_nodst (opR_call ?_) | refine wo_dst rfl (opR_pick ?_) | refine wo_guard rfl rfl ?_ | refine wo_guardn rfl ?_ | refine wo_dst rfl (opR_pure ?_) | refine wo_nodst (opR_pure ?_)
    | refine give_ret ?_ | refine give_end ?_)
    refine (eqints_w A1 A1 _ _ _ hA1 hA2 (by omega)).mono ?_
    rintro _ _ ⟨rfl, rfl⟩
    rw [decide_eq_true rfl]
    repeat' (first
    | ((with_reducible first | refine optP_id ?_ | refine condP_id ?_ | refine condO_id ?_ | refine resP_id ?_ | refine callT_of ?_); conv => { arg 1; simp (disch := first | assumption | omega) only [push_cast, ↓reduceIte, reduceIte, Nat.reduceEqDiff, Nat.reduceAdd, Nat.reduceSub, Nat.reduceMul, Nat.reduceBEq, Int.reduceNeg, y0, y1, y5, b2, c2, w0, w1, u0, u1, Nat.zero_add, Nat.add_zero] }; first | ((with_reducible refine optP_id ?_); refine optP_some ?_) | ((with_reducible refine condP_id ?_); first | refine qcy ?_ | refine qcx ?_ | refine qco ?_ | refine condP_decn (fun hc => ?_) (fun hc => ?_) | refine condP_dec (fun hc => ?_) (fun hc => ?_) | refine qct ?_ | refine qcf ?_ | refine condP_bool (fun hc => ?_) (fun hc => ?_)) | ((with_reducible refine condO_id ?_); refine condO_some ?_) | ((with_reducible refine resP_id ?_); refine resP_one ?_) | ((with_reducible refine callT_to ?_); refine callP_plain ?_))
    | refine wk_seq ?_ | refine wk_region ?_ | refine wk_block ?_ | refine wk_inBlock ?_ | refine wk_skip ?_ | refine wk_draw (by kernel_rfl) (by decide +kernel) ?_ | refine wo_nil ?_ | refine wk_exit ?_ | refine exitK_code ?_ | refine exitK_hit ?_ | refine exitK_miss rfl ?_ | refine exitK_inLoop ?_ | refine wk_cond ?_ | refine wk_ret ?_ | refine wk_nil ?_ | refine wo_dst rfl (opR_call ?_) | refine wo_nodst (opR_call ?_) | refine wo_dst rfl (opR_pick ?_) | refine wo_guard rfl rfl ?_ | refine wo_guardn rfl ?_ | refine wo_dst rfl (opR_pure ?_) | refine wo_nodst (opR_pure ?_)
    | refine give_ret ?_ | refine give_end ?_)
    refine (eqints_w B1 B1 _ _ _ hB1 hB2 (by omega)).mono ?_
    rintro _ _ ⟨rfl, rfl⟩
    rw [decide_eq_true rfl]
    repeat' (first
    | ((with_reducible first | refine optP_id ?_ | refine condP_id ?_ | refine condO_id ?_ | refine resP_id ?_ | refine callT_of ?_); conv => { arg 1; simp (disch := first | assumption | omega) only [push_cast, ↓reduceIte, reduceIte, Nat.reduceEqDiff, Nat.reduceAdd, Nat.reduceSub, Nat.reduceMul, Nat.reduceBEq, Int.reduceNeg, y0, y1, y5] }; first | ((with_reducible refine optP_id ?_); refine optP_some ?_) | ((with_reducible refine condP_id ?_); first | refine qcy ?_ | refine qcx ?_ | refine qco ?_ | refine condP_decn (fun hc => ?_) (fun hc => ?_) | refine condP_dec (fun hc => ?_) (fun hc => ?_) | refine qct ?_ | refine qcf ?_ | refine condP_bool (fun hc => ?_) (fun hc => ?_)) | ((with_reducible refine condO_id ?_); refine condO_some ?_) | ((with_reducible refine resP_id ?_); refine resP_one ?_) | ((with_reducible refine callT_to ?_); refine callP_plain ?_))
    | refine wk_seq ?_ | refine wk_region ?_ | refine wk_block ?_ | refine wk_inBlock ?_ | refine wk_skip ?_ | refine wk_draw (by kernel_rfl) (by decide +kernel) ?_ | refine wo_nil ?_ | refine wk_exit ?_ | refine exitK_code ?_ | refine exitK_hit ?_ | refine exitK_miss rfl ?_ | refine exitK_inLoop ?_ | refine wk_cond ?_ | refine wk_ret ?_ | refine wk_nil ?_ | refine wo_dst rfl (opR_call ?_) | refine wo_nodst (opR_call ?_) | refine wo_dst rfl (opR_pick ?_) | refine wo_guard rfl rfl ?_ | refine wo_guardn rfl ?_ | refine wo_dst rfl (opR_pure ?_) | refine wo_nodst (opR_pure ?_)
    | refine give_ret ?_ | refine give_end ?_)
    exact next (W.length - (i + 1)) _ _ (by omega) ⟨i + 1, rfl, by omega, rfl, by rw [ownB_ne hWn]; simp (disch := first | assumption | omega) only [push_cast, ↓reduceIte, reduceIte, Nat.reduceEqDiff, Nat.reduceAdd, Nat.reduceSub, Nat.reduceMul, Nat.reduceBEq, Int.reduceNeg, y0], by rw [ownB_ne hUn]; simp (disch := first | assumption | omega) only [push_cast, ↓reduceIte, reduceIte, Nat.reduceEqDiff, Nat.reduceAdd, Nat.reduceSub, Nat.reduceMul, Nat.reduceBEq, Int.reduceNeg, y1], by simp (disch := first | assumption | omega) only [push_cast, ↓reduceIte, reduceIte, Nat.reduceEqDiff, Nat.reduceAdd, Nat.reduceSub, Nat.reduceMul, Nat.reduceBEq, Int.reduceNeg, Int.natCast_add, Int.natCast_one]⟩
  · have ilt : ¬ (i : Int) < (W.length : Int) := by omega
    repeat' (first
    | ((with_reducible first | refine optP_id ?_ | refine condP_id ?_ | refine condO_id ?_ | refine resP_id ?_ | refine callT_of ?_); conv => { arg 1; simp (disch := first | assumption | omega) only [push_cast, ↓reduceIte, reduceIte, Nat.reduceEqDiff, Nat.reduceAdd, Nat.reduceSub, Nat.reduceMul, Nat.reduceBEq, Int.reduceNeg, y0, y1, y5] }; first | ((with_reducible refine optP_id ?_); refine optP_some ?_) | ((with_reducible refine condP_id ?_); first | refine qcy ?_ | refine qcx ?_ | refine qco ?_ | refine condP_decn (fun hc => ?_) (fun hc => ?_) | refine condP_dec (fun hc => ?_) (fun hc => ?_) | refine qct ?_ | refine qcf ?_ | refine condP_bool (fun hc => ?_) (fun hc => ?_)) | ((with_reducible refine condO_id ?_); refine condO_some ?_) | ((with_reducible refine resP_id ?_); refine resP_one ?_) | ((with_reducible refine callT_to ?_); refine callP_plain ?_))
    | refine wk_seq ?_ | refine wk_region ?_ | refine wk_block ?_ | refine wk_inBlock ?_ | refine wk_skip ?_ | refine wk_draw (by kernel_rfl) (by decide +kernel) ?_ | refine wo_nil ?_ | refine wk_exit ?_ | refine exitK_code ?_ | refine exitK_hit ?_ | refine exitK_miss rfl ?_ | refine exitK_inLoop ?_ | refine wk_cond ?_ | refine wk_ret ?_ | refine wk_nil ?_ | refine wo_dst rfl (opR_call ?_) | refine wo_nodst (opR_call ?_) | refine wo_dst rfl (opR_pick ?_) | refine wo_guard rfl rfl ?_ | refine wo_guardn rfl ?_ | refine wo_dst rfl (opR_pure ?_) | refine wo_nodst (opR_pure ?_)
    | refine give_ret ?_ | refine give_end ?_)
    exact ⟨rfl, rfl⟩
/-- what Steps returns, of any list -/
def stA (l : List Int) (r : Value) (H : AHeap) : Prop :=
  (∃ e : Int, e ≠ 0 ∧ regA l (.tuple #[.int .i64 0, .int .i64 0, .int .i64 0, .int .i64 e]) ∧ r = .tuple #[.slice none 0 0, .int .i64 e]) ∨
  (checkE l = 0 ∧ l ≠ [] ∧ (∃ a b c, valN l = 2 ^ a * 3 ^ b * 5 ^ c) ∧ ∃ F w, isG (valN l) F ∧ F.length ≤ 96 ∧ r = .tuple #[w, .int .i64 0] ∧ lsV H w F)
theorem regA_shape {l : List Int} {r : Value} (h : regA l r) : (∃ e : Int, e ≠ 0 ∧ r = .tuple #[.int .i64 0, .int .i64 0, .int .i64 0, .int .i64 e]) ∨ (checkE l = 0 ∧ l ≠ [] ∧ (∃ a b c, valN l = 2 ^ a * 3 ^ b * 5 ^ c) ∧ ∃ a b c : Nat, r = .tuple #[.int .i64 (a : Int), .int .i64 (b : Int), .int .i64 (c : Int), .int .i64 0]) := by
  rcases h with ⟨q, rfl⟩ | ⟨hE, ⟨q, rfl⟩ | ⟨hn, ⟨a, b, c, e, _, _, _, rfl⟩ | ⟨q, rfl⟩⟩⟩
  · exact .inl ⟨_, q, rfl⟩
  · exact .inl ⟨9, by decide, rfl⟩
  · exact .inr ⟨hE, hn, ⟨a, b, c, e⟩, a, b, c, rfl⟩
  · exact .inl ⟨31, by decide, rfl⟩
end Go.Proofs.YtelepfablohdmaaGreatDoor
namespace Go.Proofs.YtelepfablohdmaaGreatDoor
open Go.Ev
attribute [push_cast] Tryz.results5
set_option maxRecDepth 100000 in
set_option maxHeartbeats 8000000 in
theorem stepsany_w (l : List Int) (hl : l.length ≤ 4611686018427387904) (v : Value) (h : AHeap) (hv : IIn h v l) :
    Wc pr (.func 31) [v] h fun r h' => stA l r h' ∧ Gr h h' := by
  by_cases hr : checkE l = 0 ∧ l ≠ [] ∧ ∃ a b c, valN l = 2 ^ a * 3 ^ b * 5 ^ c
  · obtain ⟨hE, hn, a, b, c, e⟩ := hr
    obtain ⟨v1, l1⟩ := check_valid' hE
    refine (steps_w l a b c v1 hn l1 (by rw [e]; exact Nat.dvd_refl _) v h hv).mono fun r h' ⟨⟨F, W, bo, q1, q2, q3, q4, q5, q6⟩, q7⟩ => ⟨.inr ⟨hE, hn, ⟨a, b, c, e⟩, F, _, q6, ?_, q1, W, bo, rfl, fun hW => (q2 hW).2, q3.weak (Nat.zero_le _)⟩, q7⟩
    exact facs_len (M := 1) q4 (by rw [Nat.one_mul, q5]) (by omega) (valN_lt16 v1 l1)
  · have hv0 := hv
    obtain ⟨av, cv, rfl, _⟩ := hv
    refine wc_func Tryz.func31 rfl rfl rfl rfl ?_
    repeat' (first
    | ((with_reducible first | refine optP_id ?_ | refine condP_id ?_ | refine resP_id ?_ | refine callT_of ?_); conv => { arg 1; simp (disch := first | assumption | omega) only [push_cast, ↓reduceIte, reduceIte, Nat.reduceEqDiff, Nat.reduceAdd, Nat.reduceSub, Nat.reduceMul, Nat.reduceBEq, Int.reduceNeg] }; first | ((with_reducible refine optP_id ?_); refine optP_some ?_) | ((with_reducible refine condP_id ?_); first | refine qcy ?_ | refine qcx ?_ | refine qco ?_ | refine condP_decn (fun hc => ?_) (fun hc => ?_) | refine condP_dec (fun hc => ?_) (fun hc => ?_) | refine qct ?_ | refine qcf ?_ | refine condP_bool (fun hc => ?_) (fun hc => ?_)) | ((with_reducible refine resP_id ?_); refine resP_two ?_) | ((with_reducible refine callT_to ?_); first | refine callP_plain ?_ | refine callP_yield ?_ | (refine callP_func ?_; conv => { arg 3; simp only [push_cast] })))
    | refine wk_seq ?_ | refine wk_region ?_ | refine wk_block ?_ | refine wk_inBlock ?_ | refine wk_skip ?_ | refine wk_draw (by kernel_rfl) (by decide +kernel) ?_ | refine wk_drawn [(0, 4)] (by kernel_rfl) (by decide +kernel) ?_ | refine wo_nil ?_ | refine wk_exit ?_ | refine exitK_code ?_ | refine exitK_hit ?_ | refine exitK_miss rfl ?_ | refine exitK_inLoop ?_ | refine wk_cond ?_ | refine wk_ret ?_ | refine wk_nil ?_ | refine wo_dst rfl (opR_call ?_) | refine wo_nodst (opR_call ?_) | refine wo_dst rfl (opR_pure ?_) | refine wo_nodst (opR_pure ?_)
    | refine wd_dst rfl (opR_call ?_) | refine wd_nodst (opR_call ?_) | refine wd_dst rfl (opR_pick ?_) | refine wd_guard rfl rfl ?_ | refine wd_guardn rfl ?_ | refine wd_dst rfl (opR_pure ?_) | refine wd_nodst (opR_pure ?_) | refine opR_call ?_ | refine opR_pick ?_ | refine opR_pure ?_ | (refine wd_nil ?_; refine doneD rfl rfl ?_ ?_) | refine again_nil | refine again_cons ?_ ?_ | refine again_plain rfl rfl rfl ?_ | refine again_guard rfl rfl rfl rfl ?_ | exact same_undef | exact same_of rfl rfl | refine give_ret ?_ | refine give_end ?_)
    refine (regany_w l hl _ _ hv0).mono ?_
    rintro _ h1 ⟨hra, g1⟩; have n1 := g1.1; have k1 := g1.2; try simp only [next_new, next_set] at n1 k1
    rcases regA_shape hra with ⟨e, he, rfl⟩ | ⟨q1, q2, q3, _⟩
    · repeat' (first
    | ((with_reducible first | refine optP_id ?_ | refine condP_id ?_ | refine resP_id ?_ | refine callT_of ?_); conv => { arg 1; simp (disch := first | assumption | omega) only [push_cast, ↓reduceIte, reduceIte, Nat.reduceEqDiff, Nat.reduceAdd, Nat.reduceSub, Nat.reduceMul, Nat.reduceBEq, Int.reduceNeg, k1] }; first | ((with_reducible refine optP_id ?_); refine optP_some ?_) | ((with_reducible refine condP_id ?_); first | refine qcy ?_ | refine qcx ?_ | refine qco ?_ | refine condP_decn (fun hc => ?_) (fun hc => ?_) | refine condP_dec (fun hc => ?_) (fun hc => ?_) | refine qct ?_ | refine qcf ?_ | refine condP_bool (fun hc => ?_) (fun hc => ?_)) | ((with_reducible refine resP_id ?_); refine resP_two ?_) | ((with_reducible refine callT_to ?_); first | refine callP_plain ?_ | refine callP_yield ?_ | (refine callP_func ?_; conv => { arg 3; simp only [push_cast] })))
    | refine wk_seq ?_ | refine wk_region ?_ | refine wk_block ?_ | refine wk_inBlock ?_ | refine wk_skip ?_ | refine wk_draw (by kernel_rfl) (by decide +kernel) ?_ | refine wk_drawn [(0, 4)] (by kernel_rfl) (by decide +kernel) ?_ | refine wo_nil ?_ | refine wk_exit ?_ | refine exitK_code ?_ | refine exitK_hit ?_ | refine exitK_miss rfl ?_ | refine exitK_inLoop ?_ | refine wk_cond ?_ | refine wk_ret ?_ | refine wk_nil ?_ | refine wo_dst rfl (opR_call ?_) | refine wo_nodst (opR_call ?_) | refine wo_dst rfl (opR_pure ?_) | refine wo_nodst (opR_pure ?_)
    | refine wd_dst rfl (opR_call ?_) | refine wd_nodst (opR_call ?_) | refine wd_dst rfl (opR_pick ?_) | refine wd_guard rfl rfl ?_ | refine wd_guardn rfl ?_ | refine wd_dst rfl (opR_pure ?_) | refine wd_nodst (opR_pure ?_) | refine opR_call ?_ | refine opR_pick ?_ | refine opR_pure ?_ | (refine wd_nil ?_; refine doneD rfl rfl ?_ ?_) | refine again_nil | refine again_cons ?_ ?_ | refine again_plain rfl rfl rfl ?_ | refine again_guard rfl rfl rfl rfl ?_ | exact same_undef | exact same_of rfl rfl | refine give_ret ?_ | refine give_end ?_)
      exact ⟨.inl ⟨e, he, hra, rfl⟩, by (repeat (first | exact Gr.refl _ | assumption | (refine Gr.trans ?_ (by assumption)) | refine Gr.set ?_ (by first | exact Nat.le_refl _ | omega | (simp only [next_new, next_set]; omega)) _ | refine Gr.new ?_ _))⟩
    · exact absurd ⟨q1, q2, q3⟩ hr
set_option maxRecDepth 100000 in
set_option maxHeartbeats 8000000 in
theorem rstepsany_w (l : List Int) (hl : l.length ≤ 4611686018427387904) (v : Value) (h : AHeap) (hv : IIn h v l) :
    Wc pr (.func 32) [v] h fun r h' => stA l r h' ∧ Gr h h' := by
  by_cases hr : checkE l = 0 ∧ l ≠ [] ∧ ∃ a b c, valN l = 2 ^ a * 3 ^ b * 5 ^ c
  · obtain ⟨hE, hn, a, b, c, e⟩ := hr
    obtain ⟨v1, l1⟩ := check_valid' hE
    exact (rsteps_w l a b c v1 hn l1 (by rw [e]; exact Nat.dvd_refl _) v h hv).mono fun r h' ⟨⟨F, W, bo, q1, q2, q3, q4, q5⟩, q7⟩ => ⟨.inr ⟨hE, hn, ⟨a, b, c, e⟩, F, _, q4, q5, q1, W, bo, rfl, fun hW => (q2 hW).2, q3⟩, q7⟩
  · have hv0 := hv
    obtain ⟨av, cv, rfl, _⟩ := hv
    refine wc_func Tryz.func32 rfl rfl rfl rfl ?_
    repeat' (first
    | ((with_reducible first | refine optP_id ?_ | refine condP_id ?_ | refine condO_id ?_ | refine resP_id ?_ | refine callT_of ?_); conv => { arg 1; simp (disch := first | assumption | omega) only [push_cast, ↓reduceIte, reduceIte, Nat.reduceEqDiff, Nat.reduceAdd, Nat.reduceSub, Nat.reduceMul, Nat.reduceBEq, Int.reduceNeg] }; first | ((with_reducible refine optP_id ?_); refine optP_some ?_) | ((with_reducible refine condP_id ?_); first | refine qcy ?_ | refine qcx ?_ | refine qco ?_ | refine condP_decn (fun hc => ?_) (fun hc => ?_) | refine condP_dec (fun hc => ?_) (fun hc => ?_) | refine qct ?_ | refine qcf ?_ | refine condP_bool (fun hc => ?_) (fun hc => ?_)) | ((with_reducible refine condO_id ?_); refine condO_some ?_) | ((with_reducible refine resP_id ?_); refine resP_two ?_) | ((with_reducible refine callT_to ?_); refine callP_plain ?_))
    | refine wk_seq ?_ | refine wk_region ?_ | refine wk_block ?_ | refine wk_inBlock ?_ | refine wk_skip ?_ | refine wo_nil ?_ | refine wk_exit ?_ | refine exitK_code ?_ | refine exitK_hit ?_ | refine exitK_miss rfl ?_ | refine exitK_inLoop ?_ | refine wk_cond ?_ | refine wk_ret ?_ | refine wk_nil ?_ | refine wo_dst rfl (opR_call ?_) | refine wo_nodst (opR_call ?_) | refine wo_dst rfl (opR_pick ?_) | refine wo_guard rfl rfl ?_ | refine wo_guardn rfl ?_ | refine wo_dst rfl (opR_pure ?_) | refine wo_nodst (opR_pure ?_)
    | refine give_ret ?_ | refine give_end ?_)
    refine (rreg_w l hl _ _ hv0).mono ?_
    rintro _ h1 ⟨hra, g1⟩; have n1 := g1.1; have k1 := g1.2; try simp only [next_new, next_set] at n1 k1
    rcases regA_shape hra with ⟨e, he, rfl⟩ | ⟨q1, q2, q3, _⟩
    · repeat' (first
    | ((with_reducible first | refine optP_id ?_ | refine condP_id ?_ | refine condO_id ?_ | refine resP_id ?_ | refine callT_of ?_); conv => { arg 1; simp (disch := first | assumption | omega) only [push_cast, ↓reduceIte, reduceIte, Nat.reduceEqDiff, Nat.reduceAdd, Nat.reduceSub, Nat.reduceMul, Nat.reduceBEq, Int.reduceNeg, k1] }; first | ((with_reducible refine optP_id ?_); refine optP_some ?_) | ((with_reducible refine condP_id ?_); first | refine qcy ?_ | refine qcx ?_ | refine qco ?_ | refine condP_decn (fun hc => ?_) (fun hc => ?_) | refine condP_dec (fun hc => ?_) (fun hc => ?_) | refine qct ?_ | refine qcf ?_ | refine condP_bool (fun hc => ?_) (fun hc => ?_)) | ((with_reducible refine condO_id ?_); refine condO_some ?_) | ((with_reducible refine resP_id ?_); refine resP_two ?_) | ((with_reducible refine callT_to ?_); refine callP_plain ?_))
    | refine wk_seq ?_ | refine wk_region ?_ | refine wk_block ?_ | refine wk_inBlock ?_ | refine wk_skip ?_ | refine wo_nil ?_ | refine wk_exit ?_ | refine exitK_code ?_ | refine exitK_hit ?_ | refine exitK_miss rfl ?_ | refine exitK_inLoop ?_ | refine wk_cond ?_ | refine wk_ret ?_ | refine wk_nil ?_ | refine wo_dst rfl (opR_call ?_) | refine wo_nodst (opR_call ?_) | refine wo_dst rfl (opR_pick ?_) | refine wo_guard rfl rfl ?_ | refine wo_guardn rfl ?_ | refine wo_dst rfl (opR_pure ?_) | refine wo_nodst (opR_pure ?_)
    | refine give_ret ?_ | refine give_end ?_)
      exact ⟨.inl ⟨e, he, hra, rfl⟩, by (repeat (first | exact Gr.refl _ | assumption | (refine Gr.trans ?_ (by assumption)) | refine Gr.set ?_ (by first | exact Nat.le_refl _ | omega | (simp only [next_new, next_set]; omega)) _ | refine Gr.new ?_ _))⟩
    · exact absurd ⟨q1, q2, q3⟩ hr
theorem rec_same {l : List Int} {r s : Value} {H H' : AHeap} (h : recA l r H) (h' : recA l s H') : (∃ e : Int, e ≠ 0 ∧ r = .tuple #[.slice none 0 0, .int .i64 e] ∧ s = .tuple #[.slice none 0 0, .int .i64 e]) ∨ (∃ (d : List Int) (a b : Option Addr) (c k : Nat), d.length ≤ 16 ∧ r = .tuple #[.slice a d.length c, .int .i64 0] ∧ s = .tuple #[.slice b d.length k, .int .i64 0] ∧ IIn H (.slice a d.length c) d ∧ IIn H' (.slice b d.length k) d) := by
  rcases h with ⟨q, e⟩ | ⟨q, q2, e⟩ | ⟨q, q2, q3, e⟩ | ⟨q, q2, ⟨x, y, z, q3⟩, d, hd, hr⟩
  · rcases h' with ⟨_, e'⟩ | ⟨p, _⟩ | ⟨p, _⟩ | ⟨p, _⟩
    · exact .inl ⟨_, q, e, e'⟩
    all_goals exact absurd p q
  · rcases h' with ⟨p, _⟩ | ⟨_, _, e'⟩ | ⟨_, p, _⟩ | ⟨_, p, _⟩
    · exact absurd q p
    · exact .inl ⟨9, by decide, e, e'⟩
    all_goals exact absurd q2 p
  · rcases h' with ⟨p, _⟩ | ⟨_, p, _⟩ | ⟨_, _, _, e'⟩ | ⟨_, _, ⟨x, y, z, p⟩, _⟩
    · exact absurd q p
    · exact absurd p q2
    · exact .inl ⟨31, by decide, e, e'⟩
    · rw [p] at q3; exact (irr_no q3).elim
  · rcases h' with ⟨p, _⟩ | ⟨_, p, _⟩ | ⟨_, _, p, _⟩ | ⟨_, _, _, d', hd', hr'⟩
    · exact absurd q p
    · exact absurd p q2
    · rw [q3] at p; exact (irr_no p).elim
    · have hX : 0 < valN l := by rw [q3]; exact Nat.mul_pos (Nat.mul_pos (Nat.pow_pos (by decide)) (Nat.pow_pos (by decide))) (Nat.pow_pos (by decide))
      obtain rfl := recipD_uniq hX hd hd'
      rcases hr with ⟨h16, e⟩ | ⟨h16, a, c, e, hin⟩
      · rcases hr' with ⟨_, e'⟩ | ⟨p, _⟩
        · exact .inl ⟨3, by decide, e, e'⟩
        · omega
      · rcases hr' with ⟨p, _⟩ | ⟨_, a', c', e', hin'⟩
        · omega
        · exact .inr ⟨d, a, a', c, c', h16, e, e', hin, hin'⟩
theorem rec_same2 {l : List Int} {r s : Value} {H H' : AHeap} (h : recA l r H) (h' : recA l s H') : ∃ (d : List Int) (a b : Option Addr) (c k : Nat) (e : Int), d.length ≤ 16 ∧ r = .tuple #[.slice a d.length c, .int .i64 e] ∧ s = .tuple #[.slice b d.length k, .int .i64 e] ∧ IIn H (.slice a d.length c) d ∧ IIn H' (.slice b d.length k) d := by
  rcases rec_same h h' with ⟨e, _, q1, q2⟩ | ⟨d, a, b, c, k, q0, q1, q2, q3, q4⟩
  · exact ⟨[], none, none, 0, 0, e, by simp, q1, q2, ⟨none, 0, rfl, Nat.zero_le _, fun h => absurd rfl h⟩, ⟨none, 0, rfl, Nat.zero_le _, fun h => absurd rfl h⟩⟩
  · exact ⟨d, a, b, c, k, 0, q0, q1, q2, q3, q4⟩
theorem rec_shape {l : List Int} {r : Value} {H : AHeap} (h : recA l r H) : ∃ (a : Option Addr) (n c : Nat) (e : Int), r = .tuple #[.slice a n c, .int .i64 e] := by
  obtain ⟨d, a, _, c, _, e, _, q, _⟩ := rec_same2 h h
  exact ⟨a, _, c, e, q⟩
theorem st_same {l : List Int} {r s : Value} {H H' : AHeap} (h : stA l r H) (h' : stA l s H') : ∃ (F : List Nat) (w u : Value) (e : Int), F.length ≤ 96 ∧ r = .tuple #[w, .int .i64 e] ∧ s = .tuple #[u, .int .i64 e] ∧ lsV H w F ∧ lsV H' u F := by
  rcases h with ⟨e, he, q, rfl⟩ | ⟨q1, q2, ⟨x, y, z, q3⟩, F, w, q4, q5, rfl, q6⟩
  · rcases h' with ⟨e', he', q', rfl⟩ | ⟨p1, p2, ⟨x, y, z, p3⟩, _⟩
    · have := regA_uniq q q'
      simp at this
      subst this
      exact ⟨[], _, _, e, by simp, rfl, rfl, lsV_nil _, lsV_nil _⟩
    · exfalso
      rcases q with ⟨q, _⟩ | ⟨_, ⟨q, _⟩ | ⟨_, ⟨a, b, c, e2, _, _, _, e3⟩ | ⟨q, _⟩⟩⟩
      · exact q p1
      · exact p2 q
      · simp at e3; exact he e3.2.2.2
      · rw [p3] at q; exact irr_no q
  · rcases h' with ⟨e', he', q', rfl⟩ | ⟨p1, p2, _, F', w', p4, p5, rfl, p6⟩
    · exfalso
      rcases q' with ⟨q, _⟩ | ⟨_, ⟨q, _⟩ | ⟨_, ⟨a, b, c, e2, _, _, _, e3⟩ | ⟨q, _⟩⟩⟩
      · exact q q1
      · exact q2 q
      · simp at e3; exact he' e3.2.2.2
      · rw [q3] at q; exact irr_no q
    · obtain rfl := isG_uniq q4 p4
      exact ⟨F, _, _, 0, q5, rfl, rfl, q6, p6⟩
set_option maxRecDepth 100000 in
set_option maxHeartbeats 8000000 in
theorem recips_w (l : List Int) (hl : l.length ≤ 4611686018427387904) (v : Value) (h : AHeap) (hv : IIn h v l) :
    Wc pr (.func 5) [v] h fun r h' => r = .bool true := by
  have hv0 := hv
  obtain ⟨av, cv, rfl, _⟩ := hv
  refine wc_func Tryz.func5 rfl rfl rfl rfl ?_
  repeat' (first
    | ((with_reducible first | refine optP_id ?_ | refine condP_id ?_ | refine condO_id ?_ | refine resP_id ?_ | refine callT_of ?_); conv => { arg 1; simp (disch := first | assumption | omega) only [push_cast, ↓reduceIte, reduceIte, Nat.reduceEqDiff, Nat.reduceAdd, Nat.reduceSub, Nat.reduceMul, Nat.reduceBEq, Int.reduceNeg] }; first | ((with_reducible refine optP_id ?_); refine optP_some ?_) | ((with_reducible refine condP_id ?_); first | refine qcy ?_ | refine qcx ?_ | refine qco ?_ | refine condP_decn (fun hc => ?_) (fun hc => ?_) | refine condP_dec (fun hc => ?_) (fun hc => ?_) | refine qct ?_ | refine qcf ?_ | refine condP_bool (fun hc => ?_) (fun hc => ?_)) | ((with_reducible refine condO_id ?_); refine condO_some ?_) | ((with_reducible refine resP_id ?_); refine resP_one ?_) | ((with_reducible refine callT_to ?_); refine callP_plain ?_))
    | refine wk_seq ?_ | refine wk_region ?_ | refine wk_skip ?_ | refine wo_nil ?_ | refine wk_cond ?_ | refine wk_ret ?_ | refine wk_nil ?_ | refine wo_dst rfl (opR_call ?_) | refine wo_nodst (opR_call ?_) | refine wo_dst rfl (opR_pick ?_) | refine wo_guard rfl rfl ?_ | refine wo_guardn rfl ?_ | refine wo_dst rfl (opR_pure ?_) | refine wo_nodst (opR_pure ?_)
    | refine give_ret ?_ | refine give_end ?_)
  refine (regany_w l hl _ _ hv0).mono ?_
  rintro r1 h1 ⟨hr1, g1⟩; have n1 := g1.1; have k1 := g1.2; try simp only [next_new, next_set] at n1 k1
  obtain ⟨x0, x1, x2, x3, rfl⟩ : ∃ a b c d : Int, r1 = .tuple #[.int .i64 a, .int .i64 b, .int .i64 c, .int .i64 d] := by
    rcases regA_shape hr1 with ⟨e, _, e1⟩ | ⟨_, _, _, a, b, c, e1⟩
    · exact ⟨_, _, _, _, e1⟩
    · exact ⟨_, _, _, _, e1⟩
  repeat' (first
    | ((with_reducible first | refine optP_id ?_ | refine condP_id ?_ | refine condO_id ?_ | refine resP_id ?_ | refine callT_of ?_); conv => { arg 1; simp (disch := first | assumption | omega) only [push_cast, ↓reduceIte, reduceIte, Nat.reduceEqDiff, Nat.reduceAdd, Nat.reduceSub, Nat.reduceMul, Nat.reduceBEq, Int.reduceNeg, k1] }; first | ((with_reducible refine optP_id ?_); refine optP_some ?_) | ((with_reducible refine condP_id ?_); first | refine qcy ?_ | refine qcx ?_ | refine qco ?_ | refine condP_decn (fun hc => ?_) (fun hc => ?_) | refine condP_dec (fun hc => ?_) (fun hc => ?_) | refine qct ?_ | refine qcf ?_ | refine condP_bool (fun hc => ?_) (fun hc => ?_)) | ((with_reducible refine condO_id ?_); refine condO_some ?_) | ((with_reducible refine resP_id ?_); refine resP_one ?_) | ((with_reducible refine callT_to ?_); refine callP_plain ?_))
    | refine wk_seq ?_ | refine wk_region ?_ | refine wk_skip ?_ | refine wo_nil ?_ | refine wk_cond ?_ | refine wk_ret ?_ | refine wk_nil ?_ | refine wo_dst rfl (opR_call ?_) | refine wo_nodst (opR_call ?_) | refine wo_dst rfl (opR_pick ?_) | refine wo_guard rfl rfl ?_ | refine wo_guardn rfl ?_ | refine wo_dst rfl (opR_pure ?_) | refine wo_nodst (opR_pure ?_)
    | refine give_ret ?_ | refine give_end ?_)
  refine (rreg_w l hl _ _ (SlIn.gr hv0 (by (repeat (first | exact Gr.refl _ | assumption | (refine Gr.trans ?_ (by assumption)) | refine Gr.set ?_ (by first | exact Nat.le_refl _ | omega | (simp only [next_new, next_set]; omega)) _ | refine Gr.new ?_ _))))).mono ?_
  rintro r2 h2 ⟨hr2, g2⟩; have n2 := g2.1; have k2 := g2.2; try simp only [next_new, next_set] at n2 k2
  obtain rfl := regA_uniq hr1 hr2
  clear hr1 hr2
  repeat' (first
    | ((with_reducible first | refine optP_id ?_ | refine condP_id ?_ | refine condO_id ?_ | refine resP_id ?_ | refine callT_of ?_); conv => { arg 1; simp (disch := first | assumption | omega) only [push_cast, ↓reduceIte, reduceIte, Nat.reduceEqDiff, Nat.reduceAdd, Nat.reduceSub, Nat.reduceMul, Nat.reduceBEq, Int.reduceNeg, k1, k2] }; first | ((with_reducible refine optP_id ?_); refine optP_some ?_) | ((with_reducible refine condP_id ?_); first | refine qcy ?_ | refine qcx ?_ | refine qco ?_ | refine condP_decn (fun hc => ?_) (fun hc => ?_) | refine condP_dec (fun hc => ?_) (fun hc => ?_) | refine qct ?_ | refine qcf ?_ | refine condP_bool (fun hc => ?_) (fun hc => ?_)) | ((with_reducible refine condO_id ?_); refine condO_some ?_) | ((with_reducible refine resP_id ?_); refine resP_one ?_) | ((with_reducible refine callT_to ?_); refine callP_plain ?_))
    | refine wk_seq ?_ | refine wk_region ?_ | refine wk_skip ?_ | refine wo_nil ?_ | refine wk_cond ?_ | refine wk_ret ?_ | refine wk_nil ?_ | refine wo_dst rfl (opR_call ?_) | refine wo_nodst (opR_call ?_) | refine wo_dst rfl (opR_pick ?_) | refine wo_guard rfl rfl ?_ | refine wo_guardn rfl ?_ | refine wo_dst rfl (opR_pure ?_) | refine wo_nodst (opR_pure ?_)
    | refine give_ret ?_ | refine give_end ?_)
  refine (recany_w l hl _ _ (SlIn.gr hv0 (by (repeat (first | exact Gr.refl _ | assumption | (refine Gr.trans ?_ (by assumption)) | refine Gr.set ?_ (by first | exact Nat.le_refl _ | omega | (simp only [next_new, next_set]; omega)) _ | refine Gr.new ?_ _))))).mono ?_
  rintro r3 h3 ⟨hr3, g3⟩; have n3 := g3.1; have k3 := g3.2; try simp only [next_new, next_set] at n3 k3
  obtain ⟨a3, n3', c3, e3, rfl⟩ := rec_shape hr3
  repeat' (first
    | ((with_reducible first | refine optP_id ?_ | refine condP_id ?_ | refine condO_id ?_ | refine resP_id ?_ | refine callT_of ?_); conv => { arg 1; simp (disch := first | assumption | omega) only [push_cast, ↓reduceIte, reduceIte, Nat.reduceEqDiff, Nat.reduceAdd, Nat.reduceSub, Nat.reduceMul, Nat.reduceBEq, Int.reduceNeg, k1, k2, k3] }; first | ((with_reducible refine optP_id ?_); refine optP_some ?_) | ((with_reducible refine condP_id ?_); first | refine qcy ?_ | refine qcx ?_ | refine qco ?_ | refine condP_decn (fun hc => ?_) (fun hc => ?_) | refine condP_dec (fun hc => ?_) (fun hc => ?_) | refine qct ?_ | refine qcf ?_ | refine condP_bool (fun hc => ?_) (fun hc => ?_)) | ((with_reducible refine condO_id ?_); refine condO_some ?_) | ((with_reducible refine resP_id ?_); refine resP_one ?_) | ((with_reducible refine callT_to ?_); refine callP_plain ?_))
    | refine wk_seq ?_ | refine wk_region ?_ | refine wk_skip ?_ | refine wo_nil ?_ | refine wk_cond ?_ | refine wk_ret ?_ | refine wk_nil ?_ | refine wo_dst rfl (opR_call ?_) | refine wo_nodst (opR_call ?_) | refine wo_dst rfl (opR_pick ?_) | refine wo_guard rfl rfl ?_ | refine wo_guardn rfl ?_ | refine wo_dst rfl (opR_pure ?_) | refine wo_nodst (opR_pure ?_)
    | refine give_ret ?_ | refine give_end ?_)
  refine (rrec_w l hl _ _ (SlIn.gr hv0 (by (repeat (first | exact Gr.refl _ | assumption | (refine Gr.trans ?_ (by assumption)) | refine Gr.set ?_ (by first | exact Nat.le_refl _ | omega | (simp only [next_new, next_set]; omega)) _ | refine Gr.new ?_ _))))).mono ?_
  rintro r4 h4 ⟨hr4, g4⟩; have n4 := g4.1; have k4 := g4.2; try simp only [next_new, next_set] at n4 k4
  obtain ⟨d, a, b, c, k, e, hd, q1, rfl, i3, i4⟩ := rec_same2 hr3 hr4
  cases q1
  clear hr3 hr4
  repeat' (first
    | ((with_reducible first | refine optP_id ?_ | refine condP_id ?_ | refine condO_id ?_ | refine resP_id ?_ | refine callT_of ?_); conv => { arg 1; simp (disch := first | assumption | omega) only [push_cast, ↓reduceIte, reduceIte, Nat.reduceEqDiff, Nat.reduceAdd, Nat.reduceSub, Nat.reduceMul, Nat.reduceBEq, Int.reduceNeg, k1, k2, k3, k4] }; first | ((with_reducible refine optP_id ?_); refine optP_some ?_) | ((with_reducible refine condP_id ?_); first | refine qcy ?_ | refine qcx ?_ | refine qco ?_ | refine condP_decn (fun hc => ?_) (fun hc => ?_) | refine condP_dec (fun hc => ?_) (fun hc => ?_) | refine qct ?_ | refine qcf ?_ | refine condP_bool (fun hc => ?_) (fun hc => ?_)) | ((with_reducible refine condO_id ?_); refine condO_some ?_) | ((with_reducible refine resP_id ?_); refine resP_one ?_) | ((with_reducible refine callT_to ?_); refine callP_plain ?_))
    | refine wk_seq ?_ | refine wk_region ?_ | refine wk_skip ?_ | refine wo_nil ?_ | refine wk_cond ?_ | refine wk_ret ?_ | refine wk_nil ?_ | refine wo_dst rfl (opR_call ?_) | refine wo_nodst (opR_call ?_) | refine wo_dst rfl (opR_pick ?_) | refine wo_guard rfl rfl ?_ | refine wo_guardn rfl ?_ | refine wo_dst rfl (opR_pure ?_) | refine wo_nodst (opR_pure ?_)
    | refine give_ret ?_ | refine give_end ?_)
  refine (eqints_w d d _ _ _ (SlIn.gr i3 (by (repeat (first | exact Gr.refl _ | assumption | (refine Gr.trans ?_ (by assumption)) | refine Gr.set ?_ (by first | exact Nat.le_refl _ | omega | (simp only [next_new, next_set]; omega)) _ | refine Gr.new ?_ _)))) i4 (by omega)).mono ?_
  rintro _ _ ⟨rfl, rfl⟩
  rw [decide_eq_true rfl]
  repeat' (first
    | ((with_reducible first | refine optP_id ?_ | refine condP_id ?_ | refine condO_id ?_ | refine resP_id ?_ | refine callT_of ?_); conv => { arg 1; simp (disch := first | assumption | omega) only [push_cast, ↓reduceIte, reduceIte, Nat.reduceEqDiff, Nat.reduceAdd, Nat.reduceSub, Nat.reduceMul, Nat.reduceBEq, Int.reduceNeg, k1, k2, k3, k4] }; first | ((with_reducible refine optP_id ?_); refine optP_some ?_) | ((with_reducible refine condP_id ?_); first | refine qcy ?_ | refine qcx ?_ | refine qco ?_ | refine condP_decn (fun hc => ?_) (fun hc => ?_) | refine condP_dec (fun hc => ?_) (fun hc => ?_) | refine qct ?_ | refine qcf ?_ | refine condP_bool (fun hc => ?_) (fun hc => ?_)) | ((with_reducible refine condO_id ?_); refine condO_some ?_) | ((with_reducible refine resP_id ?_); refine resP_one ?_) | ((with_reducible refine callT_to ?_); refine callP_plain ?_))
    | refine wk_seq ?_ | refine wk_region ?_ | refine wk_skip ?_ | refine wo_nil ?_ | refine wk_cond ?_ | refine wk_ret ?_ | refine wk_nil ?_ | refine wo_dst rfl (opR_call ?_) | refine wo_nodst (opR_call ?_) | refine wo_dst rfl (opR_pick ?_) | refine wo_guard rfl rfl ?_ | refine wo_guardn rfl ?_ | refine wo_dst rfl (opR_pure ?_) | refine wo_nodst (opR_pure ?_)
    | refine give_ret ?_ | refine give_end ?_)
  refine (stepsany_w l hl _ _ (SlIn.gr hv0 (by (repeat (first | exact Gr.refl _ | assumption | (refine Gr.trans ?_ (by assumption)) | refine Gr.set ?_ (by first | exact Nat.le_refl _ | omega | (simp only [next_new, next_set]; omega)) _ | refine Gr.new ?_ _))))).mono ?_
  rintro r5 h5 ⟨hr5, g5⟩; have n5 := g5.1; have k5 := g5.2; try simp only [next_new, next_set] at n5 k5
  obtain ⟨_, w5, _, e5, _, rfl, _, _, _⟩ := st_same hr5 hr5
  repeat' (first
    | ((with_reducible first | refine optP_id ?_ | refine condP_id ?_ | refine condO_id ?_ | refine resP_id ?_ | refine callT_of ?_); conv => { arg 1; simp (disch := first | assumption | omega) only [push_cast, ↓reduceIte, reduceIte, Nat.reduceEqDiff, Nat.reduceAdd, Nat.reduceSub, Nat.reduceMul, Nat.reduceBEq, Int.reduceNeg, k1, k2, k3, k4, k5] }; first | ((with_reducible refine optP_id ?_); refine optP_some ?_) | ((with_reducible refine condP_id ?_); first | refine qcy ?_ | refine qcx ?_ | refine qco ?_ | refine condP_decn (fun hc => ?_) (fun hc => ?_) | refine condP_dec (fun hc => ?_) (fun hc => ?_) | refine qct ?_ | refine qcf ?_ | refine condP_bool (fun hc => ?_) (fun hc => ?_)) | ((with_reducible refine condO_id ?_); refine condO_some ?_) | ((with_reducible refine resP_id ?_); refine resP_one ?_) | ((with_reducible refine callT_to ?_); refine callP_plain ?_))
    | refine wk_seq ?_ | refine wk_region ?_ | refine wk_skip ?_ | refine wo_nil ?_ | refine wk_cond ?_ | refine wk_ret ?_ | refine wk_nil ?_ | refine wo_dst rfl (opR_call ?_) | refine wo_nodst (opR_call ?_) | refine wo_dst rfl (opR_pick ?_) | refine wo_guard rfl rfl ?_ | refine wo_guardn rfl ?_ | refine wo_dst rfl (opR_pure ?_) | refine wo_nodst (opR_pure ?_)
    | refine give_ret ?_ | refine give_end ?_)
  refine (rstepsany_w l hl _ _ (SlIn.gr hv0 (by (repeat (first | exact Gr.refl _ | assumption | (refine Gr.trans ?_ (by assumption)) | refine Gr.set ?_ (by first | exact Nat.le_refl _ | omega | (simp only [next_new, next_set]; omega)) _ | refine Gr.new ?_ _))))).mono ?_
  rintro r6 h6 ⟨hr6, g6⟩; have n6 := g6.1; have k6 := g6.2; try simp only [next_new, next_set] at n6 k6
  obtain ⟨F, w, u, e6, hF, q1, rfl, i5, i6⟩ := st_same hr5 hr6
  cases q1
  clear hr5 hr6
  repeat' (first
    | ((with_reducible first | refine optP_id ?_ | refine condP_id ?_ | refine condO_id ?_ | refine resP_id ?_ | refine callT_of ?_); conv => { arg 1; simp (disch := first | assumption | omega) only [push_cast, ↓reduceIte, reduceIte, Nat.reduceEqDiff, Nat.reduceAdd, Nat.reduceSub, Nat.reduceMul, Nat.reduceBEq, Int.reduceNeg, k1, k2, k3, k4, k5, k6] }; first | ((with_reducible refine optP_id ?_); refine optP_some ?_) | ((with_reducible refine condP_id ?_); first | refine qcy ?_ | refine qcx ?_ | refine qco ?_ | refine condP_decn (fun hc => ?_) (fun hc => ?_) | refine condP_dec (fun hc => ?_) (fun hc => ?_) | refine qct ?_ | refine qcf ?_ | refine condP_bool (fun hc => ?_) (fun hc => ?_)) | ((with_reducible refine condO_id ?_); refine condO_some ?_) | ((with_reducible refine resP_id ?_); refine resP_one ?_) | ((with_reducible refine callT_to ?_); refine callP_plain ?_))
    | refine wk_seq ?_ | refine wk_region ?_ | refine wk_skip ?_ | refine wo_nil ?_ | refine wk_cond ?_ | refine wk_ret ?_ | refine wk_nil ?_ | refine wo_dst rfl (opR_call ?_) | refine wo_nodst (opR_call ?_) | refine wo_dst rfl (opR_pick ?_) | refine wo_guard rfl rfl ?_ | refine wo_guardn rfl ?_ | refine wo_dst rfl (opR_pure ?_) | refine wo_nodst (opR_pure ?_)
    | refine give_ret ?_ | refine give_end ?_)
  refine (samepairs_w F hF _ _ _ (i5.gr g6) i6).mono ?_
  rintro _ _ ⟨rfl, rfl⟩
  repeat' (first
    | ((with_reducible first | refine optP_id ?_ | refine condP_id ?_ | refine condO_id ?_ | refine resP_id ?_ | refine callT_of ?_); conv => { arg 1; simp (disch := first | assumption | omega) only [push_cast, ↓reduceIte, reduceIte, Nat.reduceEqDiff, Nat.reduceAdd, Nat.reduceSub, Nat.reduceMul, Nat.reduceBEq, Int.reduceNeg, k1, k2, k3, k4, k5, k6] }; first | ((with_reducible refine optP_id ?_); refine optP_some ?_) | ((with_reducible refine condP_id ?_); first | refine qcy ?_ | refine qcx ?_ | refine qco ?_ | refine condP_decn (fun hc => ?_) (fun hc => ?_) | refine condP_dec (fun hc => ?_) (fun hc => ?_) | refine qct ?_ | refine qcf ?_ | refine condP_bool (fun hc => ?_) (fun hc => ?_)) | ((with_reducible refine condO_id ?_); refine condO_some ?_) | ((with_reducible refine resP_id ?_); refine resP_one ?_) | ((with_reducible refine callT_to ?_); refine callP_plain ?_))
    | refine wk_seq ?_ | refine wk_region ?_ | refine wk_skip ?_ | refine wo_nil ?_ | refine wk_cond ?_ | refine wk_ret ?_ | refine wk_nil ?_ | refine wo_dst rfl (opR_call ?_) | refine wo_nodst (opR_call ?_) | refine wo_dst rfl (opR_pick ?_) | refine wo_guard rfl rfl ?_ | refine wo_guardn rfl ?_ | refine wo_dst rfl (opR_pure ?_) | refine wo_nodst (opR_pure ?_)
    | (refine wc_known rfl ?_)
    | refine give_ret ?_ | refine give_end ?_)
  rfl
end Go.Proofs.YtelepfablohdmaaGreatDoor
