/- Contracts of the reference: times of long numbers, turned, Recip. -/
import Derived.Test.YtelepfablohdmaaGreatDoorVR
import Derived.Test.YtelepfablohdmaaGreatDoorVG
import Derived.Test.YtelepfablohdmaaGreatDoorVK
set_option linter.unusedSimpArgs false
set_option linter.unusedVariables false
/- Contracts of the reference: big with its end, often, compare. -/
namespace Go.Proofs.YtelepfablohdmaaGreatDoor
open Go.Ev
set_option maxRecDepth 100000 in
set_option maxHeartbeats 8000000 in
theorem big2_w (l : List Int) (hd : valid l) (ll : l.length ≤ 16) (v : Value) (h : AHeap) (hv : IIn h v l) :
    Wc pr (.func 64) [v] h fun r h' => (∃ m a c, r = .slice a m.length c ∧ IIn h' (.slice a m.length c) m ∧ digs m ∧ noEnd m ∧ leN m = valN l ∧ m.length ≤ 16) ∧ Gr h h' := by
  obtain ⟨a, c, rfl, _, hv'⟩ := id hv
  refine wc_func Tryz.func64 rfl rfl rfl rfl ?_
  repeat' (first
    | ((with_reducible first | refine optP_id ?_ | refine condP_id ?_ | refine resP_id ?_ | refine callT_of ?_); conv => { arg 1; simp (disch := first | assumption | omega) only [push_cast, ↓reduceIte, reduceIte, Nat.reduceEqDiff, Nat.reduceAdd, Nat.reduceSub, Nat.reduceMul, Nat.reduceBEq, Int.reduceNeg] }; first | ((with_reducible refine optP_id ?_); refine optP_some ?_) | ((with_reducible refine condP_id ?_); first | refine qcy ?_ | refine qcx ?_ | refine qco ?_ | refine condP_decn (fun hc => ?_) (fun hc => ?_) | refine condP_dec (fun hc => ?_) (fun hc => ?_) | refine qct ?_ | refine qcf ?_ | refine condP_bool (fun hc => ?_) (fun hc => ?_)) | ((with_reducible refine resP_id ?_); refine resP_one ?_) | ((with_reducible refine callT_to ?_); refine callP_plain ?_))
    | refine wk_seq ?_ | refine wk_region ?_ | refine wk_block ?_ | refine wk_inBlock ?_ | refine wk_skip ?_ | refine wo_nil ?_ | refine wk_exit ?_ | refine exitK_code ?_ | refine exitK_hit ?_ | refine exitK_miss rfl ?_ | refine exitK_inLoop ?_ | refine wk_cond ?_ | refine wk_ret ?_ | refine wk_nil ?_ | refine wo_dst rfl (opR_call ?_) | refine wo_nodst (opR_call ?_) | refine wo_dst rfl (opR_pure ?_) | refine wo_nodst (opR_pure ?_)
    | refine give_ret ?_ | refine give_end ?_)
  refine wk_loop (fun n E H => ∃ (k b : Nat), n = k ∧ k ≤ l.length ∧ OwnI h.next H (l.drop k).reverse b ∧ Gr h H ∧ E.look 0 top = .slice a l.length c ∧ E.look 3 top = .slice (ownB (l.drop k).reverse b) (l.drop k).reverse.length (l.drop k).reverse.length ∧ E.look 4 top = .int .i64 ((k : Int) - 1)) l.length
    ⟨l.length, 0, rfl, Nat.le_refl _, fun hn => absurd (rdrop_top l) hn, by (repeat (first | exact Gr.refl _ | assumption | (refine Gr.trans ?_ (by assumption)) | refine Gr.set ?_ (by first | exact Nat.le_refl _ | omega | (simp only [next_new, next_set]; omega)) _ | refine Gr.new ?_ _)), by simp (disch := first | assumption | omega) only [push_cast, ↓reduceIte, reduceIte, Nat.reduceEqDiff, Nat.reduceAdd, Nat.reduceSub, Nat.reduceMul, Nat.reduceBEq, Int.reduceNeg], by rw [rdrop_top]; simp (disch := first | assumption | omega) only [push_cast, ↓reduceIte, reduceIte, Nat.reduceEqDiff, Nat.reduceAdd, Nat.reduceSub, Nat.reduceMul, Nat.reduceBEq, Int.reduceNeg, ownB_nil, List.length_nil], by simp (disch := first | assumption | omega) only [push_cast, ↓reduceIte, reduceIte, Nat.reduceEqDiff, Nat.reduceAdd, Nat.reduceSub, Nat.reduceMul, Nat.reduceBEq, Int.reduceNeg]⟩ ?_
  rintro n E H ⟨k, b, rfl, hk, hown, gr, e0, e3, e4⟩ next
  have gn := gr.1
  by_cases hz : n = 0
  · subst hz
    have n0 : ¬ ((((0 : Nat) : Int) - 1) ≥ 0) := by omega
    repeat' (first
    | ((with_reducible first | refine optP_id ?_ | refine condP_id ?_ | refine resP_id ?_ | refine callT_of ?_); conv => { arg 1; simp (disch := first | assumption | omega) only [push_cast, ↓reduceIte, reduceIte, Nat.reduceEqDiff, Nat.reduceAdd, Nat.reduceSub, Nat.reduceMul, Nat.reduceBEq, Int.reduceNeg, e0, e3, e4] }; first | ((with_reducible refine optP_id ?_); refine optP_some ?_) | ((with_reducible refine condP_id ?_); first | refine qcy ?_ | refine qcx ?_ | refine qco ?_ | refine condP_decn (fun hc => ?_) (fun hc => ?_) | refine condP_dec (fun hc => ?_) (fun hc => ?_) | refine qct ?_ | refine qcf ?_ | refine condP_bool (fun hc => ?_) (fun hc => ?_)) | ((with_reducible refine resP_id ?_); refine resP_one ?_) | ((with_reducible refine callT_to ?_); refine callP_plain ?_))
    | refine wk_seq ?_ | refine wk_region ?_ | refine wk_block ?_ | refine wk_inBlock ?_ | refine wk_skip ?_ | refine wo_nil ?_ | refine wk_exit ?_ | refine exitK_code ?_ | refine exitK_hit ?_ | refine exitK_miss rfl ?_ | refine exitK_inLoop ?_ | refine wk_cond ?_ | refine wk_ret ?_ | refine wk_nil ?_ | refine wo_dst rfl (opR_call ?_) | refine wo_nodst (opR_call ?_) | refine wo_dst rfl (opR_pure ?_) | refine wo_nodst (opR_pure ?_)
    | refine give_ret ?_ | refine give_end ?_)
    rw [List.drop_zero] at hown
    have hin := OwnI.inn hown (by rw [List.length_reverse]; omega)
    refine (trim_w _ (by have := digs_rdrop hd.1 0; rwa [List.drop_zero] at this) _ _ hin (by rw [List.length_reverse]; omega)).mono ?_
    rintro _ _ ⟨⟨m, am, cm, rfl, im, dm, em, vm, lm, _⟩, rfl⟩
    rw [List.length_reverse] at lm
    repeat' (first
    | ((with_reducible first | refine optP_id ?_ | refine condP_id ?_ | refine resP_id ?_ | refine callT_of ?_); conv => { arg 1; simp (disch := first | assumption | omega) only [push_cast, ↓reduceIte, reduceIte, Nat.reduceEqDiff, Nat.reduceAdd, Nat.reduceSub, Nat.reduceMul, Nat.reduceBEq, Int.reduceNeg] }; first | ((with_reducible refine optP_id ?_); refine optP_some ?_) | ((with_reducible refine condP_id ?_); first | refine qcy ?_ | refine qcx ?_ | refine qco ?_ | refine condP_decn (fun hc => ?_) (fun hc => ?_) | refine condP_dec (fun hc => ?_) (fun hc => ?_) | refine qct ?_ | refine qcf ?_ | refine condP_bool (fun hc => ?_) (fun hc => ?_)) | ((with_reducible refine resP_id ?_); refine resP_one ?_) | ((with_reducible refine callT_to ?_); refine callP_plain ?_))
    | refine wk_seq ?_ | refine wk_region ?_ | refine wk_block ?_ | refine wk_inBlock ?_ | refine wk_skip ?_ | refine wo_nil ?_ | refine wk_exit ?_ | refine exitK_code ?_ | refine exitK_hit ?_ | refine exitK_miss rfl ?_ | refine exitK_inLoop ?_ | refine wk_cond ?_ | refine wk_ret ?_ | refine wk_nil ?_ | refine wo_dst rfl (opR_call ?_) | refine wo_nodst (opR_call ?_) | refine wo_dst rfl (opR_pure ?_) | refine wo_nodst (opR_pure ?_)
    | refine give_ret ?_ | refine give_end ?_)
    exact ⟨⟨m, am, cm, rfl, im, dm, em, by rw [vm, leN_rev], by omega⟩, gr⟩
  · obtain ⟨j, rfl⟩ : ∃ j, n = j + 1 := ⟨n - 1, by omega⟩
    have ej : (((j + 1 : Nat) : Int) - 1) = (j : Int) := by omega
    rw [ej] at e4
    have hj : j < l.length := by omega
    have j0 : (j : Int) ≥ 0 := by omega
    have hlen : (l.drop (j + 1)).reverse.length ≤ 16 := by rw [List.length_reverse, List.length_drop]; omega
    have hst := rdrop_step hj
    obtain ⟨bu, offu, allu, rwu, rfl, hbu, hgu, htu⟩ := hv' (by intro h; rw [h] at hj; exact absurd hj (Nat.not_lt_zero _))
    have hguH : H.get bu = some (.cells allu 3 rwu) := by rw [gr.2 bu hbu]; exact hgu
    have h1 := at_cut1 _ _ _ (htu j hj)
    rw [Nat.mul_one] at h1
    generalize l[j] = x at *
    generalize (l.drop (j + 1)).reverse = L at *
    repeat' (first
    | ((with_reducible first | refine optP_id ?_ | refine condP_id ?_ | refine resP_id ?_ | refine callT_of ?_); conv => { arg 1; simp (disch := first | assumption | omega) only [push_cast, ↓reduceIte, reduceIte, Nat.reduceEqDiff, Nat.reduceAdd, Nat.reduceSub, Nat.reduceMul, Nat.reduceBEq, Int.reduceNeg, e0, e3, e4, hguH, h1, Nat.mul_one] }; first | ((with_reducible refine optP_id ?_); refine optP_some ?_) | ((with_reducible refine condP_id ?_); first | refine qcy ?_ | refine qcx ?_ | refine qco ?_ | refine condP_decn (fun hc => ?_) (fun hc => ?_) | refine condP_dec (fun hc => ?_) (fun hc => ?_) | refine qct ?_ | refine qcf ?_ | refine condP_bool (fun hc => ?_) (fun hc => ?_)) | ((with_reducible refine resP_id ?_); refine resP_one ?_) | ((with_reducible refine callT_to ?_); refine callP_plain ?_))
    | refine wk_seq ?_ | refine wk_region ?_ | refine wk_block ?_ | refine wk_inBlock ?_ | refine wk_skip ?_ | refine wo_nil ?_ | refine wk_exit ?_ | refine exitK_code ?_ | refine exitK_hit ?_ | refine exitK_miss rfl ?_ | refine exitK_inLoop ?_ | refine wk_cond ?_ | refine wk_ret ?_ | refine wk_nil ?_ | refine wo_dst rfl (opR_call ?_) | refine wo_nodst (opR_call ?_) | refine wo_dst rfl (opR_pure ?_) | refine wo_nodst (opR_pure ?_)
    | refine give_ret ?_ | refine give_end ?_)
    conv => { arg 1; simp (disch := first | assumption | omega) only [push_cast, ↓reduceIte, reduceIte, Nat.reduceEqDiff, Nat.reduceAdd, Nat.reduceSub, Nat.reduceMul, Nat.reduceBEq, Int.reduceNeg, ap22] }
    refine optP_one (x := x) (e' := 3) (rw' := true) encI_len (fun _ => rfl) (by omega) (by omega) (fun hn => by obtain ⟨q0, q1, q2⟩ := hown hn; simp (disch := first | assumption | omega) only [push_cast, ↓reduceIte, reduceIte, Nat.reduceEqDiff, Nat.reduceAdd, Nat.reduceSub, Nat.reduceMul, Nat.reduceBEq, Int.reduceNeg]; exact q2) (by unfold encI; simp (disch := first | assumption | omega) only [push_cast, ↓reduceIte, reduceIte, Nat.reduceEqDiff, Nat.reduceAdd, Nat.reduceSub, Nat.reduceMul, Nat.reduceBEq, Int.reduceNeg]) ?_
    intro H3 n3 new3 keep3
    simp only [next_new] at n3 new3 keep3
    repeat' (first
    | ((with_reducible first | refine optP_id ?_ | refine condP_id ?_ | refine resP_id ?_ | refine callT_of ?_); conv => { arg 1; simp (disch := first | assumption | omega) only [push_cast, ↓reduceIte, reduceIte, Nat.reduceEqDiff, Nat.reduceAdd, Nat.reduceSub, Nat.reduceMul, Nat.reduceBEq, Int.reduceNeg, e0, e3, e4] }; first | ((with_reducible refine optP_id ?_); refine optP_some ?_) | ((with_reducible refine condP_id ?_); first | refine qcy ?_ | refine qcx ?_ | refine qco ?_ | refine condP_decn (fun hc => ?_) (fun hc => ?_) | refine condP_dec (fun hc => ?_) (fun hc => ?_) | refine qct ?_ | refine qcf ?_ | refine condP_bool (fun hc => ?_) (fun hc => ?_)) | ((with_reducible refine resP_id ?_); refine resP_one ?_) | ((with_reducible refine callT_to ?_); refine callP_plain ?_))
    | refine wk_seq ?_ | refine wk_region ?_ | refine wk_block ?_ | refine wk_inBlock ?_ | refine wk_skip ?_ | refine wo_nil ?_ | refine wk_exit ?_ | refine exitK_code ?_ | refine exitK_hit ?_ | refine exitK_miss rfl ?_ | refine exitK_inLoop ?_ | refine wk_cond ?_ | refine wk_ret ?_ | refine wk_nil ?_ | refine wo_dst rfl (opR_call ?_) | refine wo_nodst (opR_call ?_) | refine wo_dst rfl (opR_pure ?_) | refine wo_nodst (opR_pure ?_)
    | refine give_ret ?_ | refine give_end ?_)
    refine next j _ _ (by omega) ⟨j, H.next + 1, rfl, by omega, by rw [hst]; exact fun _ => ⟨by omega, by omega, new3⟩, ⟨by omega, fun c hc => ?_⟩, by simp (disch := first | assumption | omega) only [push_cast, ↓reduceIte, reduceIte, Nat.reduceEqDiff, Nat.reduceAdd, Nat.reduceSub, Nat.reduceMul, Nat.reduceBEq, Int.reduceNeg, e0], by rw [hst]; simp (disch := first | assumption | omega) only [push_cast, ↓reduceIte, reduceIte, Nat.reduceEqDiff, Nat.reduceAdd, Nat.reduceSub, Nat.reduceMul, Nat.reduceBEq, Int.reduceNeg], by simp (disch := first | assumption | omega) only [push_cast, ↓reduceIte, reduceIte, Nat.reduceEqDiff, Nat.reduceAdd, Nat.reduceSub, Nat.reduceMul, Nat.reduceBEq, Int.reduceNeg]⟩
    rw [keep3 c (by omega) (fun hn => by have := (hown hn).1; omega)]
    simp (disch := first | assumption | omega) only [push_cast, ↓reduceIte, reduceIte, Nat.reduceEqDiff, Nat.reduceAdd, Nat.reduceSub, Nat.reduceMul, Nat.reduceBEq, Int.reduceNeg]
    exact gr.2 c hc
set_option maxRecDepth 100000 in
set_option maxHeartbeats 8000000 in
theorem often_w (x : List Int) (d : Nat) (hx : digs x) (nx : noEnd x) (lx : x.length ≤ 16) (h0 : 0 < leN x) (hd : 2 ≤ d) (hd2 : d ≤ 100) (v : Value) (h : AHeap) (hv : IIn h v x) :
    Wc pr (.func 82) [v, .int .i64 (d : Int)] h fun r h' => (∃ (m : List Int) (a : Option Addr) (c t : Nat), r = .tuple #[.int .i64 (t : Int), .slice a m.length c] ∧ IIn h' (.slice a m.length c) m ∧ digs m ∧ noEnd m ∧ m.length ≤ 200 ∧ 0 < leN m ∧ leN x = leN m * d ^ t ∧ leN m % d ≠ 0 ∧ t ≤ 900) ∧ Gr h h' := by
  have hX : leN x < 60 ^ 146 := Nat.lt_of_lt_of_le (leN_lt hx) (Nat.pow_le_pow_right (by decide) (by omega))
  have hsm : ∀ t Y, 0 < Y → leN x = Y * d ^ t → t ≤ 900 := fun t Y hY e => pow_small hd (Nat.le_trans (Nat.le_mul_of_pos_left _ hY) (Nat.le_of_eq e.symm)) hX
  clear hX
  have hv0 := hv
  obtain ⟨ax, cx, rfl, _⟩ := hv
  generalize hX : leN x = X at *
  refine wc_func Tryz.func82 rfl rfl rfl rfl ?_
  repeat' (first
    | ((with_reducible first | refine optP_id ?_ | refine condP_id ?_ | refine resP_id ?_ | refine callT_of ?_); conv => { arg 1; simp (disch := first | assumption | omega) only [push_cast, ↓reduceIte, reduceIte, Nat.reduceEqDiff, Nat.reduceAdd, Nat.reduceSub, Nat.reduceMul, Nat.reduceBEq, Int.reduceNeg] }; first | ((with_reducible refine optP_id ?_); refine optP_some ?_) | ((with_reducible refine condP_id ?_); first | refine qcy ?_ | refine qcx ?_ | refine qco ?_ | refine condP_decn (fun hc => ?_) (fun hc => ?_) | refine condP_dec (fun hc => ?_) (fun hc => ?_) | refine qct ?_ | refine qcf ?_ | refine condP_bool (fun hc => ?_) (fun hc => ?_)) | ((with_reducible refine resP_id ?_); refine resP_two ?_) | ((with_reducible refine callT_to ?_); refine callP_plain ?_))
    | refine wk_seq ?_ | refine wk_region ?_ | refine wk_block ?_ | refine wk_inBlock ?_ | refine wk_skip ?_ | refine wo_nil ?_ | refine wk_cond ?_ | refine wk_ret ?_ | refine wk_nil ?_ | refine wo_dst rfl (opR_call ?_) | refine wo_nodst (opR_call ?_) | refine wo_dst rfl (opR_pure ?_) | refine wo_nodst (opR_pure ?_)
    | refine give_ret ?_ | refine give_end ?_)
  refine wk_loop (fun n E H => ∃ (m : List Int) (a : Option Addr) (c t : Nat), n = leN m ∧ IIn H (.slice a m.length c) m ∧ digs m ∧ noEnd m ∧ m.length ≤ 200 ∧ 0 < leN m ∧ X = leN m * d ^ t ∧ Gr h H ∧ E.look 0 top = .slice a m.length c ∧ E.look 1 top = .int .i64 (d : Int) ∧ E.look 6 top = .int .i64 (t : Int)) X
    ⟨x, ax, cx, 0, hX.symm, hv0, hx, nx, by omega, by omega, by rw [hX, Nat.pow_zero, Nat.mul_one], by (repeat (first | exact Gr.refl _ | assumption | (refine Gr.trans ?_ (by assumption)) | refine Gr.set ?_ (by first | exact Nat.le_refl _ | omega | (simp only [next_new, next_set]; omega)) _ | refine Gr.new ?_ _)), by simp (disch := first | assumption | omega) only [push_cast, ↓reduceIte, reduceIte, Nat.reduceEqDiff, Nat.reduceAdd, Nat.reduceSub, Nat.reduceMul, Nat.reduceBEq, Int.reduceNeg], by simp (disch := first | assumption | omega) only [push_cast, ↓reduceIte, reduceIte, Nat.reduceEqDiff, Nat.reduceAdd, Nat.reduceSub, Nat.reduceMul, Nat.reduceBEq, Int.reduceNeg], by simp (disch := first | assumption | omega) only [push_cast, ↓reduceIte, reduceIte, Nat.reduceEqDiff, Nat.reduceAdd, Nat.reduceSub, Nat.reduceMul, Nat.reduceBEq, Int.reduceNeg, Int.natCast_zero]⟩ ?_
  rintro n E H ⟨m, a, c, t, rfl, hm, dm, nm, lm, hp, he, gr, e0, e1, e6⟩ next
  have ht := hsm t _ hp he
  have gn := gr.1
  repeat' (first
    | ((with_reducible first | refine optP_id ?_ | refine condP_id ?_ | refine resP_id ?_ | refine callT_of ?_); conv => { arg 1; simp (disch := first | assumption | omega) only [push_cast, ↓reduceIte, reduceIte, Nat.reduceEqDiff, Nat.reduceAdd, Nat.reduceSub, Nat.reduceMul, Nat.reduceBEq, Int.reduceNeg, e0, e1, e6] }; first | ((with_reducible refine optP_id ?_); refine optP_some ?_) | ((with_reducible refine condP_id ?_); first | refine qcy ?_ | refine qcx ?_ | refine qco ?_ | refine condP_decn (fun hc => ?_) (fun hc => ?_) | refine condP_dec (fun hc => ?_) (fun hc => ?_) | refine qct ?_ | refine qcf ?_ | refine condP_bool (fun hc => ?_) (fun hc => ?_)) | ((with_reducible refine resP_id ?_); refine resP_two ?_) | ((with_reducible refine callT_to ?_); refine callP_plain ?_))
    | refine wk_seq ?_ | refine wk_region ?_ | refine wk_block ?_ | refine wk_inBlock ?_ | refine wk_skip ?_ | refine wo_nil ?_ | refine wk_cond ?_ | refine wk_ret ?_ | refine wk_nil ?_ | refine wo_dst rfl (opR_call ?_) | refine wo_nodst (opR_call ?_) | refine wo_dst rfl (opR_pure ?_) | refine wo_nodst (opR_pure ?_)
    | refine give_ret ?_ | refine give_end ?_)
  refine (rover_w m d dm lm (by omega) (by omega) _ _ hm).mono ?_
  rintro _ h2 ⟨⟨m2, a2, c2, rfl, hm2, dm2, nm2, vm2, lm2⟩, g2⟩; have n2 := g2.1; have k2 := g2.2; try simp only [next_new, next_set] at n2 k2
  have hdm := Nat.div_add_mod (leN m) d
  by_cases hr : leN m % d = 0
  · rw [hr]
    rw [hr, Nat.add_zero] at hdm
    have hdle : d ≤ leN m := by
      apply Classical.byContradiction
      intro hh
      rw [Nat.mod_eq_of_lt (by omega)] at hr
      omega
    have hp2 : 0 < leN m2 := by rw [vm2]; exact Nat.div_pos hdle (by omega)
    have hlt : leN m2 < leN m := by rw [vm2]; exact Nat.div_lt_self hp (by omega)
    have he2 : X = leN m2 * d ^ (t + 1) := by rw [he, vm2, Nat.pow_succ, ← Nat.mul_assoc, Nat.mul_right_comm, Nat.mul_comm (leN m / d) d, hdm]
    have z0 : ((0 : Nat) : Int) = 0 := rfl
    clear hdm he vm2
    repeat' (first
    | ((with_reducible first | refine optP_id ?_ | refine condP_id ?_ | refine resP_id ?_ | refine callT_of ?_); conv => { arg 1; simp (disch := first | assumption | omega) only [push_cast, ↓reduceIte, reduceIte, Nat.reduceEqDiff, Nat.reduceAdd, Nat.reduceSub, Nat.reduceMul, Nat.reduceBEq, Int.reduceNeg, e0, e1, e6, z0] }; first | ((with_reducible refine optP_id ?_); refine optP_some ?_) | ((with_reducible refine condP_id ?_); first | refine qcy ?_ | refine qcx ?_ | refine qco ?_ | refine condP_decn (fun hc => ?_) (fun hc => ?_) | refine condP_dec (fun hc => ?_) (fun hc => ?_) | refine qct ?_ | refine qcf ?_ | refine condP_bool (fun hc => ?_) (fun hc => ?_)) | ((with_reducible refine resP_id ?_); refine resP_two ?_) | ((with_reducible refine callT_to ?_); refine callP_plain ?_))
    | refine wk_seq ?_ | refine wk_region ?_ | refine wk_block ?_ | refine wk_inBlock ?_ | refine wk_skip ?_ | refine wo_nil ?_ | refine wk_cond ?_ | refine wk_ret ?_ | refine wk_nil ?_ | refine wo_dst rfl (opR_call ?_) | refine wo_nodst (opR_call ?_) | refine wo_dst rfl (opR_pure ?_) | refine wo_nodst (opR_pure ?_)
    | refine give_ret ?_ | refine give_end ?_)
    exact next (leN m2) _ _ hlt ⟨m2, a2, c2, t + 1, rfl, hm2, dm2, nm2, lm2, hp2, he2, by (repeat (first | exact Gr.refl _ | assumption | (refine Gr.trans ?_ (by assumption)) | refine Gr.set ?_ (by first | exact Nat.le_refl _ | omega | (simp only [next_new, next_set]; omega)) _ | refine Gr.new ?_ _)), by simp (disch := first | assumption | omega) only [push_cast, ↓reduceIte, reduceIte, Nat.reduceEqDiff, Nat.reduceAdd, Nat.reduceSub, Nat.reduceMul, Nat.reduceBEq, Int.reduceNeg], by simp (disch := first | assumption | omega) only [push_cast, ↓reduceIte, reduceIte, Nat.reduceEqDiff, Nat.reduceAdd, Nat.reduceSub, Nat.reduceMul, Nat.reduceBEq, Int.reduceNeg, e1], by simp (disch := first | assumption | omega) only [push_cast, ↓reduceIte, reduceIte, Nat.reduceEqDiff, Nat.reduceAdd, Nat.reduceSub, Nat.reduceMul, Nat.reduceBEq, Int.reduceNeg, Int.natCast_add, Int.natCast_one]⟩
  · obtain ⟨q, hq⟩ : ∃ q, q = leN m % d := ⟨_, rfl⟩
    have hr2 := hr
    rw [← hq] at hr ⊢
    have qn : ¬ (q : Int) = 0 := by omega
    clear hdm vm2 hq
    repeat' (first
    | ((with_reducible first | refine optP_id ?_ | refine condP_id ?_ | refine resP_id ?_ | refine callT_of ?_); conv => { arg 1; simp (disch := first | assumption | omega) only [push_cast, ↓reduceIte, reduceIte, Nat.reduceEqDiff, Nat.reduceAdd, Nat.reduceSub, Nat.reduceMul, Nat.reduceBEq, Int.reduceNeg, e0, e1, e6] }; first | ((with_reducible refine optP_id ?_); refine optP_some ?_) | ((with_reducible refine condP_id ?_); first | refine qcy ?_ | refine qcx ?_ | refine qco ?_ | refine condP_decn (fun hc => ?_) (fun hc => ?_) | refine condP_dec (fun hc => ?_) (fun hc => ?_) | refine qct ?_ | refine qcf ?_ | refine condP_bool (fun hc => ?_) (fun hc => ?_)) | ((with_reducible refine resP_id ?_); refine resP_two ?_) | ((with_reducible refine callT_to ?_); refine callP_plain ?_))
    | refine wk_seq ?_ | refine wk_region ?_ | refine wk_block ?_ | refine wk_inBlock ?_ | refine wk_skip ?_ | refine wo_nil ?_ | refine wk_cond ?_ | refine wk_ret ?_ | refine wk_nil ?_ | refine wo_dst rfl (opR_call ?_) | refine wo_nodst (opR_call ?_) | refine wo_dst rfl (opR_pure ?_) | refine wo_nodst (opR_pure ?_)
    | refine give_ret ?_ | refine give_end ?_)
    exact ⟨⟨m, a, c, t, rfl, SlIn.gr hm g2, dm, nm, lm, hp, he, hr2, ht⟩, by (repeat (first | exact Gr.refl _ | assumption | (refine Gr.trans ?_ (by assumption)) | refine Gr.set ?_ (by first | exact Nat.le_refl _ | omega | (simp only [next_new, next_set]; omega)) _ | refine Gr.new ?_ _))⟩
set_option maxRecDepth 100000 in
set_option maxHeartbeats 8000000 in
theorem rcompare_w (x y : List Int) (lx : x.length ≤ 1000) (ly : y.length ≤ 1000) (v u : Value) (h : AHeap) (hv : IIn h v x) (hu : IIn h u y) :
    Wc pr (.func 83) [v, u] h fun r h' => (∃ z : Int, r = .int .i64 z ∧ (z = 0 ↔ x = y)) ∧ h = h' := by
  obtain ⟨ax, cx, rfl, _, hmx⟩ := hv
  obtain ⟨ay, cy, rfl, _, hmy⟩ := hu
  refine wc_func Tryz.func83 rfl rfl rfl rfl ?_
  by_cases hl : x.length = y.length
  · have il : (x.length : Int) = (y.length : Int) := by omega
    repeat' (first
    | ((with_reducible first | refine optP_id ?_ | refine condP_id ?_ | refine resP_id ?_); conv => { arg 1; simp (disch := first | assumption | omega) only [push_cast, ↓reduceIte, reduceIte, Nat.reduceEqDiff, Nat.reduceAdd, Nat.reduceSub, Nat.reduceMul, Nat.reduceBEq, Int.reduceNeg] }; first | ((with_reducible refine optP_id ?_); refine optP_some ?_) | ((with_reducible refine condP_id ?_); first | refine qcy ?_ | refine qcx ?_ | refine qco ?_ | refine condP_decn (fun hc => ?_) (fun hc => ?_) | refine condP_dec (fun hc => ?_) (fun hc => ?_) | refine qct ?_ | refine qcf ?_ | refine condP_bool (fun hc => ?_) (fun hc => ?_)) | ((with_reducible refine resP_id ?_); refine resP_one ?_))
    | refine wk_seq ?_ | refine wk_region ?_ | refine wk_block ?_ | refine wk_inBlock ?_ | refine wk_skip ?_ | refine wk_draw (by kernel_rfl) (by decide +kernel) ?_ | refine wo_nil ?_ | refine wk_exit ?_ | refine exitK_code ?_ | refine exitK_hit ?_ | refine exitK_miss rfl ?_ | refine exitK_inLoop ?_ | refine wk_cond ?_ | refine wk_ret ?_ | refine wk_nil ?_ | refine wo_dst rfl (opR_pure ?_) | refine wo_nodst (opR_pure ?_)
    | refine give_ret ?_ | refine give_end ?_)
    refine wk_loop (fun n E H => n ≤ x.length ∧ h = H ∧ E.look 0 top = .slice ax x.length cx ∧ E.look 1 top = .slice ay y.length cy ∧ E.look 5 top = .int .i64 ((n : Int) - 1) ∧ ∀ i (h1 : i < x.length) (h2 : i < y.length), n ≤ i → x[i] = y[i]) x.length
      ⟨Nat.le_refl _, rfl, by simp (disch := first | assumption | omega) only [push_cast, ↓reduceIte, reduceIte, Nat.reduceEqDiff, Nat.reduceAdd, Nat.reduceSub, Nat.reduceMul, Nat.reduceBEq, Int.reduceNeg], by simp (disch := first | assumption | omega) only [push_cast, ↓reduceIte, reduceIte, Nat.reduceEqDiff, Nat.reduceAdd, Nat.reduceSub, Nat.reduceMul, Nat.reduceBEq, Int.reduceNeg], by simp (disch := first | assumption | omega) only [push_cast, ↓reduceIte, reduceIte, Nat.reduceEqDiff, Nat.reduceAdd, Nat.reduceSub, Nat.reduceMul, Nat.reduceBEq, Int.reduceNeg], fun i h1 _ hn => absurd h1 (by omega)⟩ ?_
    rintro n E _ ⟨hn, rfl, e0, e1, e5, hall⟩ next
    by_cases hz : n = 0
    · subst hz
      have n0 : ¬ ((((0 : Nat) : Int) - 1) ≥ 0) := by omega
      repeat' (first
    | ((with_reducible first | refine optP_id ?_ | refine condP_id ?_ | refine resP_id ?_); conv => { arg 1; simp (disch := first | assumption | omega) only [push_cast, ↓reduceIte, reduceIte, Nat.reduceEqDiff, Nat.reduceAdd, Nat.reduceSub, Nat.reduceMul, Nat.reduceBEq, Int.reduceNeg, e0, e1, e5] }; first | ((with_reducible refine optP_id ?_); refine optP_some ?_) | ((with_reducible refine condP_id ?_); first | refine qcy ?_ | refine qcx ?_ | refine qco ?_ | refine condP_decn (fun hc => ?_) (fun hc => ?_) | refine condP_dec (fun hc => ?_) (fun hc => ?_) | refine qct ?_ | refine qcf ?_ | refine condP_bool (fun hc => ?_) (fun hc => ?_)) | ((with_reducible refine resP_id ?_); refine resP_one ?_))
    | refine wk_seq ?_ | refine wk_region ?_ | refine wk_block ?_ | refine wk_inBlock ?_ | refine wk_skip ?_ | refine wk_draw (by kernel_rfl) (by decide +kernel) ?_ | refine wo_nil ?_ | refine wk_exit ?_ | refine exitK_code ?_ | refine exitK_hit ?_ | refine exitK_miss rfl ?_ | refine exitK_inLoop ?_ | refine wk_cond ?_ | refine wk_ret ?_ | refine wk_nil ?_ | refine wo_dst rfl (opR_pure ?_) | refine wo_nodst (opR_pure ?_)
    | refine give_ret ?_ | refine give_end ?_)
      exact ⟨⟨0, rfl, ⟨fun _ => List.ext_getElem hl fun i h1 h2 => hall i h1 h2 (Nat.zero_le _), fun _ => rfl⟩⟩, rfl⟩
    · obtain ⟨j, rfl⟩ : ∃ j, n = j + 1 := ⟨n - 1, by omega⟩
      have ej : (((j + 1 : Nat) : Int) - 1) = (j : Int) := by omega
      rw [ej] at e5
      have hjx : j < x.length := by omega
      have hjy : j < y.length := by omega
      obtain ⟨bx, ox, allx, rwx, rfl, hbx, hgx, htx⟩ := hmx (by intro hh; rw [hh] at hjx; exact absurd hjx (Nat.not_lt_zero _))
      obtain ⟨b_y, oy, ally, rwy, rfl, hby, hgy, hty⟩ := hmy (by intro hh; rw [hh] at hjy; exact absurd hjy (Nat.not_lt_zero _))
      have a1 := at_cut1 _ _ _ (htx j hjx)
      have a2 := at_cut1 _ _ _ (hty j hjy)
      rw [Nat.mul_one] at a1 a2
      have hne : x[j] ≠ y[j] → ¬ x = y := fun hh e => hh (by subst e; rfl)
      have hstep : x[j] = y[j] → ∀ i (h1 : i < x.length) (h2 : i < y.length), j ≤ i → x[i] = y[i] := fun hh i h1 h2 hi => if e : i = j then by subst e; exact hh else hall i h1 h2 (by omega)
      clear hall
      generalize x[j] = p at *
      generalize y[j] = q at *
      by_cases h1 : p < q
      · repeat' (first
    | ((with_reducible first | refine optP_id ?_ | refine condP_id ?_ | refine resP_id ?_); conv => { arg 1; simp (disch := first | assumption | omega) only [push_cast, ↓reduceIte, reduceIte, Nat.reduceEqDiff, Nat.reduceAdd, Nat.reduceSub, Nat.reduceMul, Nat.reduceBEq, Int.reduceNeg, e0, e1, e5, hgx, hgy, a1, a2, Nat.mul_one] }; first | ((with_reducible refine optP_id ?_); refine optP_some ?_) | ((with_reducible refine condP_id ?_); first | refine qcy ?_ | refine qcx ?_ | refine qco ?_ | refine condP_decn (fun hc => ?_) (fun hc => ?_) | refine condP_dec (fun hc => ?_) (fun hc => ?_) | refine qct ?_ | refine qcf ?_ | refine condP_bool (fun hc => ?_) (fun hc => ?_)) | ((with_reducible refine resP_id ?_); refine resP_one ?_))
    | refine wk_seq ?_ | refine wk_region ?_ | refine wk_block ?_ | refine wk_inBlock ?_ | refine wk_skip ?_ | refine wk_draw (by kernel_rfl) (by decide +kernel) ?_ | refine wo_nil ?_ | refine wk_exit ?_ | refine exitK_code ?_ | refine exitK_hit ?_ | refine exitK_miss rfl ?_ | refine exitK_inLoop ?_ | refine wk_cond ?_ | refine wk_ret ?_ | refine wk_nil ?_ | refine wo_dst rfl (opR_pure ?_) | refine wo_nodst (opR_pure ?_)
    | refine give_ret ?_ | refine give_end ?_)
        exact ⟨⟨-1, rfl, ⟨fun hh => by omega, fun hh => absurd hh (hne (by omega))⟩⟩, rfl⟩
      · by_cases h2 : p > q
        · repeat' (first
    | ((with_reducible first | refine optP_id ?_ | refine condP_id ?_ | refine resP_id ?_); conv => { arg 1; simp (disch := first | assumption | omega) only [push_cast, ↓reduceIte, reduceIte, Nat.reduceEqDiff, Nat.reduceAdd, Nat.reduceSub, Nat.reduceMul, Nat.reduceBEq, Int.reduceNeg, e0, e1, e5, hgx, hgy, a1, a2, Nat.mul_one] }; first | ((with_reducible refine optP_id ?_); refine optP_some ?_) | ((with_reducible refine condP_id ?_); first | refine qcy ?_ | refine qcx ?_ | refine qco ?_ | refine condP_decn (fun hc => ?_) (fun hc => ?_) | refine condP_dec (fun hc => ?_) (fun hc => ?_) | refine qct ?_ | refine qcf ?_ | refine condP_bool (fun hc => ?_) (fun hc => ?_)) | ((with_reducible refine resP_id ?_); refine resP_one ?_))
    | refine wk_seq ?_ | refine wk_region ?_ | refine wk_block ?_ | refine wk_inBlock ?_ | refine wk_skip ?_ | refine wk_draw (by kernel_rfl) (by decide +kernel) ?_ | refine wo_nil ?_ | refine wk_exit ?_ | refine exitK_code ?_ | refine exitK_hit ?_ | refine exitK_miss rfl ?_ | refine exitK_inLoop ?_ | refine wk_cond ?_ | refine wk_ret ?_ | refine wk_nil ?_ | refine wo_dst rfl (opR_pure ?_) | refine wo_nodst (opR_pure ?_)
    | refine give_ret ?_ | refine give_end ?_)
          exact ⟨⟨1, rfl, ⟨fun hh => by omega, fun hh => absurd hh (hne (by omega))⟩⟩, rfl⟩
        · repeat' (first
    | ((with_reducible first | refine optP_id ?_ | refine condP_id ?_ | refine resP_id ?_); conv => { arg 1; simp (disch := first | assumption | omega) only [push_cast, ↓reduceIte, reduceIte, Nat.reduceEqDiff, Nat.reduceAdd, Nat.reduceSub, Nat.reduceMul, Nat.reduceBEq, Int.reduceNeg, e0, e1, e5, hgx, hgy, a1, a2, Nat.mul_one] }; first | ((with_reducible refine optP_id ?_); refine optP_some ?_) | ((with_reducible refine condP_id ?_); first | refine qcy ?_ | refine qcx ?_ | refine qco ?_ | refine condP_decn (fun hc => ?_) (fun hc => ?_) | refine condP_dec (fun hc => ?_) (fun hc => ?_) | refine qct ?_ | refine qcf ?_ | refine condP_bool (fun hc => ?_) (fun hc => ?_)) | ((with_reducible refine resP_id ?_); refine resP_one ?_))
    | refine wk_seq ?_ | refine wk_region ?_ | refine wk_block ?_ | refine wk_inBlock ?_ | refine wk_skip ?_ | refine wk_draw (by kernel_rfl) (by decide +kernel) ?_ | refine wo_nil ?_ | refine wk_exit ?_ | refine exitK_code ?_ | refine exitK_hit ?_ | refine exitK_miss rfl ?_ | refine exitK_inLoop ?_ | refine wk_cond ?_ | refine wk_ret ?_ | refine wk_nil ?_ | refine wo_dst rfl (opR_pure ?_) | refine wo_nodst (opR_pure ?_)
    | refine give_ret ?_ | refine give_end ?_)
          exact next j _ _ (by omega) ⟨by omega, rfl, by simp (disch := first | assumption | omega) only [push_cast, ↓reduceIte, reduceIte, Nat.reduceEqDiff, Nat.reduceAdd, Nat.reduceSub, Nat.reduceMul, Nat.reduceBEq, Int.reduceNeg, e0], by simp (disch := first | assumption | omega) only [push_cast, ↓reduceIte, reduceIte, Nat.reduceEqDiff, Nat.reduceAdd, Nat.reduceSub, Nat.reduceMul, Nat.reduceBEq, Int.reduceNeg, e1], by simp (disch := first | assumption | omega) only [push_cast, ↓reduceIte, reduceIte, Nat.reduceEqDiff, Nat.reduceAdd, Nat.reduceSub, Nat.reduceMul, Nat.reduceBEq, Int.reduceNeg], hstep (by omega)⟩
  · have il : ¬ (x.length : Int) = (y.length : Int) := by omega
    have hne : ¬ x = y := fun e => hl (by rw [e])
    by_cases h1 : (x.length : Int) < (y.length : Int)
    · repeat' (first
    | ((with_reducible first | refine optP_id ?_ | refine condP_id ?_ | refine resP_id ?_); conv => { arg 1; simp (disch := first | assumption | omega) only [push_cast, ↓reduceIte, reduceIte, Nat.reduceEqDiff, Nat.reduceAdd, Nat.reduceSub, Nat.reduceMul, Nat.reduceBEq, Int.reduceNeg] }; first | ((with_reducible refine optP_id ?_); refine optP_some ?_) | ((with_reducible refine condP_id ?_); first | refine qcy ?_ | refine qcx ?_ | refine qco ?_ | refine condP_decn (fun hc => ?_) (fun hc => ?_) | refine condP_dec (fun hc => ?_) (fun hc => ?_) | refine qct ?_ | refine qcf ?_ | refine condP_bool (fun hc => ?_) (fun hc => ?_)) | ((with_reducible refine resP_id ?_); refine resP_one ?_))
    | refine wk_seq ?_ | refine wk_region ?_ | refine wk_block ?_ | refine wk_inBlock ?_ | refine wk_skip ?_ | refine wk_draw (by kernel_rfl) (by decide +kernel) ?_ | refine wo_nil ?_ | refine wk_exit ?_ | refine exitK_code ?_ | refine exitK_hit ?_ | refine exitK_miss rfl ?_ | refine exitK_inLoop ?_ | refine wk_cond ?_ | refine wk_ret ?_ | refine wk_nil ?_ | refine wo_dst rfl (opR_pure ?_) | refine wo_nodst (opR_pure ?_)
    | refine give_ret ?_ | refine give_end ?_)
      exact ⟨⟨-1, rfl, ⟨fun hh => by omega, fun hh => absurd hh hne⟩⟩, rfl⟩
    · repeat' (first
    | ((with_reducible first | refine optP_id ?_ | refine condP_id ?_ | refine resP_id ?_); conv => { arg 1; simp (disch := first | assumption | omega) only [push_cast, ↓reduceIte, reduceIte, Nat.reduceEqDiff, Nat.reduceAdd, Nat.reduceSub, Nat.reduceMul, Nat.reduceBEq, Int.reduceNeg] }; first | ((with_reducible refine optP_id ?_); refine optP_some ?_) | ((with_reducible refine condP_id ?_); first | refine qcy ?_ | refine qcx ?_ | refine qco ?_ | refine condP_decn (fun hc => ?_) (fun hc => ?_) | refine condP_dec (fun hc => ?_) (fun hc => ?_) | refine qct ?_ | refine qcf ?_ | refine condP_bool (fun hc => ?_) (fun hc => ?_)) | ((with_reducible refine resP_id ?_); refine resP_one ?_))
    | refine wk_seq ?_ | refine wk_region ?_ | refine wk_block ?_ | refine wk_inBlock ?_ | refine wk_skip ?_ | refine wk_draw (by kernel_rfl) (by decide +kernel) ?_ | refine wo_nil ?_ | refine wk_exit ?_ | refine exitK_code ?_ | refine exitK_hit ?_ | refine exitK_miss rfl ?_ | refine exitK_inLoop ?_ | refine wk_cond ?_ | refine wk_ret ?_ | refine wk_nil ?_ | refine wo_dst rfl (opR_pure ?_) | refine wo_nodst (opR_pure ?_)
    | refine give_ret ?_ | refine give_end ?_)
      exact ⟨⟨1, rfl, ⟨fun hh => by omega, fun hh => absurd hh hne⟩⟩, rfl⟩
end Go.Proofs.YtelepfablohdmaaGreatDoor
/- Contracts: Regular of both sides, for any list; what they return is the same. -/
namespace Go.Proofs.YtelepfablohdmaaGreatDoor
open Go.Ev
theorem check_valid' {l : List Int} (h : checkE l = 0) : valid l ∧ l.length ≤ 16 := by
  unfold checkE at h
  by_cases h1 : 16 < l.length
  · rw [if_pos h1] at h; cases h
  · rw [if_neg h1] at h
    by_cases h2 : hasN l
    · rw [if_pos h2] at h; cases h
    · rw [if_neg h2] at h
      by_cases h3 : l ≠ [] ∧ (l[0]? = some 0 ∨ l[l.length - 1]? = some 0)
      · rw [if_pos h3] at h; cases h
      · refine ⟨⟨fun x hx => ?_, fun h0 => ?_, fun hn h0 => h3 ⟨hn, .inr h0⟩⟩, by omega⟩
        · apply Classical.byContradiction
          intro hh
          exact h2 ⟨x, hx, by omega⟩
        · refine h3 ⟨fun hn => ?_, .inl h0⟩
          rw [hn] at h0
          simp at h0
/-- what Regular returns, of any list -/
def regA (l : List Int) (r : Value) : Prop := (checkE l ≠ 0 ∧ r = .tuple #[.int .i64 0, .int .i64 0, .int .i64 0, .int .i64 (checkE l)]) ∨ (checkE l = 0 ∧ regR l r)
theorem expR_uniq {X : Nat} {r s : Value} (h : expR X r) (h' : expR X s) : r = s := by
  rcases h with ⟨a, b, c, e, _, _, _, rfl⟩ | ⟨q, rfl⟩
  · rcases h' with ⟨a', b', c', e', _, _, _, rfl⟩ | ⟨q, _⟩
    · have ee : 2 ^ a * 3 ^ b * 5 ^ c = 2 ^ a' * 3 ^ b' * 5 ^ c' := e.symm.trans e'
      have d2 : ∀ a b c : Nat, 2 ^ a ∣ 2 ^ a * 3 ^ b * 5 ^ c := fun a b c => by rw [Nat.mul_assoc]; exact Nat.dvd_mul_right _ _
      have d3 : ∀ a b c : Nat, 3 ^ b ∣ 2 ^ a * 3 ^ b * 5 ^ c := fun a b c => ⟨2 ^ a * 5 ^ c, by rw [Nat.mul_comm (2 ^ a) (3 ^ b), Nat.mul_assoc]⟩
      have d5 : ∀ a b c : Nat, 5 ^ c ∣ 2 ^ a * 3 ^ b * 5 ^ c := fun a b c => Nat.dvd_mul_left _ _
      have ha : a = a' := Nat.le_antisymm (dvd_two (by rw [← ee]; exact d2 a b c)) (dvd_two (by rw [ee]; exact d2 a' b' c'))
      have hb : b = b' := Nat.le_antisymm (dvd_three (by rw [← ee]; exact d3 a b c)) (dvd_three (by rw [ee]; exact d3 a' b' c'))
      have hc : c = c' := Nat.le_antisymm (dvd_five (by rw [← ee]; exact d5 a b c)) (dvd_five (by rw [ee]; exact d5 a' b' c'))
      subst ha; subst hb; subst hc; rfl
    · rw [e] at q; exact (irr_no q).elim
  · rcases h' with ⟨a', b', c', e', _, _, _, rfl⟩ | ⟨_, rfl⟩
    · rw [e'] at q; exact (irr_no q).elim
    · rfl
theorem regA_uniq {l : List Int} {r s : Value} (h : regA l r) (h' : regA l s) : r = s := by
  rcases h with ⟨q, rfl⟩ | ⟨q, h⟩
  · rcases h' with ⟨_, rfl⟩ | ⟨q', _⟩
    · rfl
    · exact absurd q' q
  · rcases h' with ⟨q', _⟩ | ⟨_, h'⟩
    · exact absurd q q'
    · rcases h with ⟨q, rfl⟩ | ⟨q, h⟩
      · rcases h' with ⟨_, rfl⟩ | ⟨q', _⟩
        · rfl
        · exact absurd q q'
      · rcases h' with ⟨q', _⟩ | ⟨_, h'⟩
        · exact absurd q' q
        · exact expR_uniq h h'
set_option maxRecDepth 100000 in
set_option maxHeartbeats 8000000 in
theorem nonzerobad_w (l : List Int) (hl : l.length ≤ 4611686018427387904) (hE : checkE l ≠ 0) (v : Value) (h : AHeap) (hv : IIn h v l) :
    Wc pr (.func 80) [v] h fun r h' => r = .tuple #[numV 0, .int .i64 (checkE l)] ∧ Gr h h' := by
  have hv0 := hv
  obtain ⟨a, c, rfl, _⟩ := hv
  have bv := bv87
  have zv := zv87
  refine wc_func Tryz.func80 rfl rfl rfl rfl ?_
  rw [num_cells]
  generalize hZ : ints .u8 (numD 0) = Z at *
  have zne : Z ≠ [] := by rw [← hZ]; exact num_ne _
  have znl : Z.length = 146 := by rw [← hZ]; exact num_len _
  have znf : allFlat Z = true := by rw [← hZ]; exact ints_flat _ _
  have hcz : takeN 146 Z = some Z := by rw [← hZ]; exact num_cut 0
  have s1 := storeK_all (H := h.new (.cells Z 87 true)) (b := h.next) (e := 87) zne znl znf (by simp (disch := first | assumption | omega) only [push_cast, ↓reduceIte, reduceIte, Nat.reduceEqDiff, Nat.reduceAdd, Nat.reduceSub, Nat.reduceMul, Nat.reduceBEq, Int.reduceNeg]) (over_all rfl)
  repeat' (first
    | ((with_reducible first | refine optP_id ?_ | refine condP_id ?_ | refine resP_id ?_ | refine callT_of ?_); conv => { arg 1; simp (disch := first | assumption | omega) only [push_cast, ↓reduceIte, reduceIte, Nat.reduceEqDiff, Nat.reduceAdd, Nat.reduceSub, Nat.reduceMul, Nat.reduceBEq, Int.reduceNeg, zv] }; first | ((with_reducible refine optP_id ?_); refine optP_some ?_) | ((with_reducible refine condP_id ?_); first | refine qcy ?_ | refine qcx ?_ | refine qco ?_ | refine condP_decn (fun hc => ?_) (fun hc => ?_) | refine condP_dec (fun hc => ?_) (fun hc => ?_) | refine qct ?_ | refine qcf ?_ | refine condP_bool (fun hc => ?_) (fun hc => ?_)) | ((with_reducible refine resP_id ?_); refine resP_two ?_) | ((with_reducible refine callT_to ?_); refine callP_plain ?_))
    | refine wk_seq ?_ | refine wk_region ?_ | refine wk_skip ?_ | refine wo_nil ?_ | refine wk_cond ?_ | refine wk_ret ?_ | refine wk_nil ?_ | refine wo_dst rfl (opR_call ?_) | refine wo_nodst (opR_call ?_) | refine wo_dst rfl (opR_pure ?_) | refine wo_nodst (opR_pure ?_)
    | refine give_ret ?_ | refine give_end ?_)
  refine (check_w l _ _ (SlIn.gr hv0 (by (repeat (first | exact Gr.refl _ | assumption | (refine Gr.trans ?_ (by assumption)) | refine Gr.set ?_ (by first | exact Nat.le_refl _ | omega | (simp only [next_new, next_set]; omega)) _ | refine Gr.new ?_ _)))) hl).mono ?_
  rintro _ _ ⟨rfl, rfl⟩
  generalize checkE l = C at *
  repeat' (first
    | ((with_reducible first | refine optP_id ?_ | refine condP_id ?_ | refine resP_id ?_ | refine callT_of ?_); conv => { arg 1; simp (disch := first | assumption | omega) only [push_cast, ↓reduceIte, reduceIte, Nat.reduceEqDiff, Nat.reduceAdd, Nat.reduceSub, Nat.reduceMul, Nat.reduceBEq, Int.reduceNeg, zv, bv, s1, hcz] }; first | ((with_reducible refine optP_id ?_); refine optP_some ?_) | ((with_reducible refine condP_id ?_); first | refine qcy ?_ | refine qcx ?_ | refine qco ?_ | refine condP_decn (fun hc => ?_) (fun hc => ?_) | refine condP_dec (fun hc => ?_) (fun hc => ?_) | refine qct ?_ | refine qcf ?_ | refine condP_bool (fun hc => ?_) (fun hc => ?_)) | ((with_reducible refine resP_id ?_); refine resP_two ?_) | ((with_reducible refine callT_to ?_); refine callP_plain ?_))
    | refine wk_seq ?_ | refine wk_region ?_ | refine wk_skip ?_ | refine wo_nil ?_ | refine wk_cond ?_ | refine wk_ret ?_ | refine wk_nil ?_ | refine wo_dst rfl (opR_call ?_) | refine wo_nodst (opR_call ?_) | refine wo_dst rfl (opR_pure ?_) | refine wo_nodst (opR_pure ?_)
    | refine give_ret ?_ | refine give_end ?_)
  exact ⟨rfl, by (repeat (first | exact Gr.refl _ | assumption | (refine Gr.trans ?_ (by assumption)) | refine Gr.set ?_ (by first | exact Nat.le_refl _ | omega | (simp only [next_new, next_set]; omega)) _ | refine Gr.new ?_ _))⟩
set_option maxRecDepth 100000 in
set_option maxHeartbeats 8000000 in
theorem regany_w (l : List Int) (hl : l.length ≤ 4611686018427387904) (v : Value) (h : AHeap) (hv : IIn h v l) :
    Wc pr (.func 27) [v] h fun r h' => regA l r ∧ Gr h h' := by
  by_cases hE : checkE l = 0
  · obtain ⟨v1, l1⟩ := check_valid' hE
    exact (regular_w l v1 l1 v h hv).mono fun r h' ⟨q1, q2⟩ => ⟨.inr ⟨hE, q1⟩, q2⟩
  · have wz := fun H hi => nonzerobad_w l hl hE v H hi
    have fin : ∀ r, r = .tuple #[.int .i64 0, .int .i64 0, .int .i64 0, .int .i64 (checkE l)] → regA l r := fun r q => .inl ⟨hE, q⟩
    rw [num_cells] at wz
    have hv0 := hv
    obtain ⟨a, c, rfl, _⟩ := hv
    generalize checkE l = C at *
    refine wc_func Tryz.func27 rfl rfl rfl rfl ?_
    have zv := zv87
    generalize hZ : ints .u8 (numD 0) = Z at *
    have zne : Z ≠ [] := by rw [← hZ]; exact num_ne _
    have znl : Z.length = 146 := by rw [← hZ]; exact num_len _
    have znf : allFlat Z = true := by rw [← hZ]; exact ints_flat _ _
    have hcz : takeN 146 Z = some Z := by rw [← hZ]; exact num_cut 0
    repeat' (first
    | ((with_reducible first | refine optP_id ?_ | refine condP_id ?_ | refine resP_id ?_ | refine callT_of ?_); conv => { arg 1; simp (disch := first | assumption | omega) only [push_cast, ↓reduceIte, reduceIte, Nat.reduceEqDiff, Nat.reduceAdd, Nat.reduceSub, Nat.reduceMul, Nat.reduceBEq, Int.reduceNeg] }; first | ((with_reducible refine optP_id ?_); refine optP_some ?_) | ((with_reducible refine condP_id ?_); first | refine qcy ?_ | refine qcx ?_ | refine qco ?_ | refine condP_decn (fun hc => ?_) (fun hc => ?_) | refine condP_dec (fun hc => ?_) (fun hc => ?_) | refine qct ?_ | refine qcf ?_ | refine condP_bool (fun hc => ?_) (fun hc => ?_)) | ((with_reducible refine resP_id ?_); refine resP_four ?_) | ((with_reducible refine callT_to ?_); refine callP_plain ?_))
    | refine wk_seq ?_ | refine wk_region ?_ | refine wk_skip ?_ | refine wo_nil ?_ | refine wk_cond ?_ | refine wk_ret ?_ | refine wk_nil ?_ | refine wo_dst rfl (opR_call ?_) | refine wo_nodst (opR_call ?_) | refine wo_dst rfl (opR_pure ?_) | refine wo_nodst (opR_pure ?_)
    | refine give_ret ?_ | refine give_end ?_)
    refine (wz _ hv0).mono ?_
    rintro _ h1 ⟨rfl, g1⟩; have n1 := g1.1; have k1 := g1.2; try simp only [next_new, next_set] at n1 k1
    have s1 := storeK_all (H := h1.new (.cells Z 87 true)) (b := h1.next) (e := 87) zne znl znf (by simp (disch := first | assumption | omega) only [push_cast, ↓reduceIte, reduceIte, Nat.reduceEqDiff, Nat.reduceAdd, Nat.reduceSub, Nat.reduceMul, Nat.reduceBEq, Int.reduceNeg]) (over_all rfl)
    repeat' (first
    | ((with_reducible first | refine optP_id ?_ | refine condP_id ?_ | refine resP_id ?_ | refine callT_of ?_); conv => { arg 1; simp (disch := first | assumption | omega) only [push_cast, ↓reduceIte, reduceIte, Nat.reduceEqDiff, Nat.reduceAdd, Nat.reduceSub, Nat.reduceMul, Nat.reduceBEq, Int.reduceNeg, zv, s1, hcz] }; first | ((with_reducible refine optP_id ?_); refine optP_some ?_) | ((with_reducible refine condP_id ?_); first | refine qcy ?_ | refine qcx ?_ | refine qco ?_ | refine condP_decn (fun hc => ?_) (fun hc => ?_) | refine condP_dec (fun hc => ?_) (fun hc => ?_) | refine qct ?_ | refine qcf ?_ | refine condP_bool (fun hc => ?_) (fun hc => ?_)) | ((with_reducible refine resP_id ?_); refine resP_four ?_) | ((with_reducible refine callT_to ?_); refine callP_plain ?_))
    | refine wk_seq ?_ | refine wk_region ?_ | refine wk_skip ?_ | refine wo_nil ?_ | refine wk_cond ?_ | refine wk_ret ?_ | refine wk_nil ?_ | refine wo_dst rfl (opR_call ?_) | refine wo_nodst (opR_call ?_) | refine wo_dst rfl (opR_pure ?_) | refine wo_nodst (opR_pure ?_)
    | refine give_ret ?_ | refine give_end ?_)
    exact ⟨fin _ rfl, by (repeat (first | exact Gr.refl _ | assumption | (refine Gr.trans ?_ (by assumption)) | refine Gr.set ?_ (by first | exact Nat.le_refl _ | omega | (simp only [next_new, next_set]; omega)) _ | refine Gr.new ?_ _))⟩
end Go.Proofs.YtelepfablohdmaaGreatDoor
/- Contract: the reference's Regular. -/
namespace Go.Proofs.YtelepfablohdmaaGreatDoor
open Go.Ev
/-- digits, least first, without a zero at the end: the same number is the same list -/
theorem noEnd_inj {l m : List Int} (hl : digs l) (hm : digs m) (nl : noEnd l) (nm : noEnd m) (h : leN l = leN m) : l = m := by
  have key : ∀ {a b : List Int}, digs a → digs b → noEnd a → leN a = leN b → a.length ≤ b.length := fun {a b} ha hb na e => by
    rcases na with na | na
    · rw [na]; exact Nat.zero_le _
    · apply Classical.byContradiction
      intro hh
      have h1 := leN_lt hb
      have h2 := leN_dig ha (a.length - 1)
      have h3 : a.length - 1 < a.length := by omega
      rw [List.getElem?_eq_getElem h3] at h2 na
      have h4 := ha _ (List.getElem_mem h3)
      have h5 : leN a / 60 ^ (a.length - 1) = 0 := Nat.div_eq_of_lt (by
        rw [e]
        exact Nat.lt_of_lt_of_le h1 (Nat.pow_le_pow_right (by decide) (by omega)))
      rw [h5] at h2
      simp only [Option.getD_some] at h2
      apply na
      congr 1
      omega
  have hlen : l.length = m.length := Nat.le_antisymm (key hl hm nl h) (key hm hl nm h.symm)
  refine List.ext_getElem hlen fun i h1 h2 => ?_
  have e1 := leN_dig hl i
  have e2 := leN_dig hm i
  rw [List.getElem?_eq_getElem h1] at e1
  rw [List.getElem?_eq_getElem h2] at e2
  rw [h, e2] at e1
  simp only [Option.getD_some] at e1
  have h3 := hl _ (List.getElem_mem h1)
  have h4 := hm _ (List.getElem_mem h2)
  omega
theorem noEnd_le {a : List Int} {j : Nat} (ha : digs a) (na : noEnd a) (h : leN a < 60 ^ j) : a.length ≤ j := by
  rcases na with na | na
  · rw [na]; exact Nat.zero_le _
  · apply Classical.byContradiction
    intro hh
    have h2 := leN_dig ha (a.length - 1)
    have h3 : a.length - 1 < a.length := by omega
    rw [List.getElem?_eq_getElem h3] at h2 na
    have h4 := ha _ (List.getElem_mem h3)
    have h5 : leN a / 60 ^ (a.length - 1) = 0 := Nat.div_eq_of_lt (Nat.lt_of_lt_of_le h (Nat.pow_le_pow_right (by decide) (by omega)))
    rw [h5] at h2
    simp only [Option.getD_some] at h2
    apply na
    congr 1
    omega
set_option maxRecDepth 100000 in
set_option maxHeartbeats 8000000 in
theorem rreg_w (l : List Int) (hl : l.length ≤ 4611686018427387904) (v : Value) (h : AHeap) (hv : IIn h v l) :
    Wc pr (.func 28) [v] h fun r h' => regA l r ∧ Gr h h' := by
  have hv0 := hv
  obtain ⟨a, c, rfl, _⟩ := hv
  refine wc_func Tryz.func28 rfl rfl rfl rfl ?_
  repeat' (first
    | ((with_reducible first | refine optP_id ?_ | refine condP_id ?_ | refine resP_id ?_ | refine callT_of ?_); conv => { arg 1; simp (disch := first | assumption | omega) only [push_cast, ↓reduceIte, reduceIte, Nat.reduceEqDiff, Nat.reduceAdd, Nat.reduceSub, Nat.reduceMul, Nat.reduceBEq, Int.reduceNeg] }; first | ((with_reducible refine optP_id ?_); refine optP_some ?_) | ((with_reducible refine condP_id ?_); first | refine qcy ?_ | refine qcx ?_ | refine qco ?_ | refine condP_decn (fun hc => ?_) (fun hc => ?_) | refine condP_dec (fun hc => ?_) (fun hc => ?_) | refine qct ?_ | refine qcf ?_ | refine condP_bool (fun hc => ?_) (fun hc => ?_)) | ((with_reducible refine resP_id ?_); refine resP_four ?_) | ((with_reducible refine callT_to ?_); refine callP_plain ?_))
    | refine wk_seq ?_ | refine wk_region ?_ | refine wk_skip ?_ | refine wo_nil ?_ | refine wk_cond ?_ | refine wk_ret ?_ | refine wk_nil ?_ | refine wo_dst rfl (opR_call ?_) | refine wo_nodst (opR_call ?_) | refine wo_dst rfl (opR_pure ?_) | refine wo_nodst (opR_pure ?_)
    | refine give_ret ?_ | refine give_end ?_)
  refine (rcheck_w l _ _ hv0 hl).mono ?_
  rintro _ _ ⟨rfl, rfl⟩
  by_cases hE : checkE l = 0
  · obtain ⟨v1, l1⟩ := check_valid' hE
    have fin : ∀ r, regR l r → regA l r := fun r q => .inr ⟨hE, q⟩
    rw [hE]
    by_cases hn : l = []
    · have n0 : (l.length : Int) = 0 := len0.2 hn
      repeat' (first
    | ((with_reducible first | refine optP_id ?_ | refine condP_id ?_ | refine resP_id ?_ | refine callT_of ?_); conv => { arg 1; simp (disch := first | assumption | omega) only [push_cast, ↓reduceIte, reduceIte, Nat.reduceEqDiff, Nat.reduceAdd, Nat.reduceSub, Nat.reduceMul, Nat.reduceBEq, Int.reduceNeg] }; first | ((with_reducible refine optP_id ?_); refine optP_some ?_) | ((with_reducible refine condP_id ?_); first | refine qcy ?_ | refine qcx ?_ | refine qco ?_ | refine condP_decn (fun hc => ?_) (fun hc => ?_) | refine condP_dec (fun hc => ?_) (fun hc => ?_) | refine qct ?_ | refine qcf ?_ | refine condP_bool (fun hc => ?_) (fun hc => ?_)) | ((with_reducible refine resP_id ?_); refine resP_four ?_) | ((with_reducible refine callT_to ?_); refine callP_plain ?_))
    | refine wk_seq ?_ | refine wk_region ?_ | refine wk_skip ?_ | refine wo_nil ?_ | refine wk_cond ?_ | refine wk_ret ?_ | refine wk_nil ?_ | refine wo_dst rfl (opR_call ?_) | refine wo_nodst (opR_call ?_) | refine wo_dst rfl (opR_pure ?_) | refine wo_nodst (opR_pure ?_)
    | refine give_ret ?_ | refine give_end ?_)
      exact ⟨fin _ (.inl ⟨hn, rfl⟩), by (repeat (first | exact Gr.refl _ | assumption | (refine Gr.trans ?_ (by assumption)) | refine Gr.set ?_ (by first | exact Nat.le_refl _ | omega | (simp only [next_new, next_set]; omega)) _ | refine Gr.new ?_ _))⟩
    · have n0 : ¬ (l.length : Int) = 0 := fun h => hn (len0.1 h)
      have hp := valN_pos v1 hn
      repeat' (first
    | ((with_reducible first | refine optP_id ?_ | refine condP_id ?_ | refine resP_id ?_ | refine callT_of ?_); conv => { arg 1; simp (disch := first | assumption | omega) only [push_cast, ↓reduceIte, reduceIte, Nat.reduceEqDiff, Nat.reduceAdd, Nat.reduceSub, Nat.reduceMul, Nat.reduceBEq, Int.reduceNeg] }; first | ((with_reducible refine optP_id ?_); refine optP_some ?_) | ((with_reducible refine condP_id ?_); first | refine qcy ?_ | refine qcx ?_ | refine qco ?_ | refine condP_decn (fun hc => ?_) (fun hc => ?_) | refine condP_dec (fun hc => ?_) (fun hc => ?_) | refine qct ?_ | refine qcf ?_ | refine condP_bool (fun hc => ?_) (fun hc => ?_)) | ((with_reducible refine resP_id ?_); refine resP_four ?_) | ((with_reducible refine callT_to ?_); refine callP_plain ?_))
    | refine wk_seq ?_ | refine wk_region ?_ | refine wk_skip ?_ | refine wo_nil ?_ | refine wk_cond ?_ | refine wk_ret ?_ | refine wk_nil ?_ | refine wo_dst rfl (opR_call ?_) | refine wo_nodst (opR_call ?_) | refine wo_dst rfl (opR_pure ?_) | refine wo_nodst (opR_pure ?_)
    | refine give_ret ?_ | refine give_end ?_)
      refine (big2_w l v1 l1 _ _ hv0).mono ?_
      rintro _ h1 ⟨⟨m, am, cm, rfl, im, dm, nm, vm, lm⟩, g1⟩; have n1 := g1.1; have k1 := g1.2; try simp only [next_new, next_set] at n1 k1
      repeat' (first
    | ((with_reducible first | refine optP_id ?_ | refine condP_id ?_ | refine resP_id ?_ | refine callT_of ?_); conv => { arg 1; simp (disch := first | assumption | omega) only [push_cast, ↓reduceIte, reduceIte, Nat.reduceEqDiff, Nat.reduceAdd, Nat.reduceSub, Nat.reduceMul, Nat.reduceBEq, Int.reduceNeg, k1] }; first | ((with_reducible refine optP_id ?_); refine optP_some ?_) | ((with_reducible refine condP_id ?_); first | refine qcy ?_ | refine qcx ?_ | refine qco ?_ | refine condP_decn (fun hc => ?_) (fun hc => ?_) | refine condP_dec (fun hc => ?_) (fun hc => ?_) | refine qct ?_ | refine qcf ?_ | refine condP_bool (fun hc => ?_) (fun hc => ?_)) | ((with_reducible refine resP_id ?_); refine resP_four ?_) | ((with_reducible refine callT_to ?_); refine callP_plain ?_))
    | refine wk_seq ?_ | refine wk_region ?_ | refine wk_skip ?_ | refine wo_nil ?_ | refine wk_cond ?_ | refine wk_ret ?_ | refine wk_nil ?_ | refine wo_dst rfl (opR_call ?_) | refine wo_nodst (opR_call ?_) | refine wo_dst rfl (opR_pure ?_) | refine wo_nodst (opR_pure ?_)
    | refine give_ret ?_ | refine give_end ?_)
      refine (often_w m 2 dm nm lm (by omega) (by omega) (by omega) _ _ im).mono ?_
      rintro _ h2 ⟨⟨m2, a2, c2, t2, rfl, i2, d2, n2', l2, p2, e2, r2, b2⟩, g2⟩; have n2 := g2.1; have k2 := g2.2; try simp only [next_new, next_set] at n2 k2
      have hm16 : ∀ (m' : List Int), digs m' → noEnd m' → leN m' ≤ leN m → m'.length ≤ 16 := fun m' hd hn' hle => noEnd_le hd hn' (Nat.lt_of_le_of_lt hle (by rw [vm]; exact valN_lt16 v1 l1))
      have le2 : leN m2 ≤ leN m := by rw [e2]; exact Nat.le_mul_of_pos_right _ (Nat.pow_pos (by decide))
      have l2' := hm16 m2 d2 n2' le2
      repeat' (first
    | ((with_reducible first | refine optP_id ?_ | refine condP_id ?_ | refine resP_id ?_ | refine callT_of ?_); conv => { arg 1; simp (disch := first | assumption | omega) only [push_cast, ↓reduceIte, reduceIte, Nat.reduceEqDiff, Nat.reduceAdd, Nat.reduceSub, Nat.reduceMul, Nat.reduceBEq, Int.reduceNeg, k1, k2] }; first | ((with_reducible refine optP_id ?_); refine optP_some ?_) | ((with_reducible refine condP_id ?_); first | refine qcy ?_ | refine qcx ?_ | refine qco ?_ | refine condP_decn (fun hc => ?_) (fun hc => ?_) | refine condP_dec (fun hc => ?_) (fun hc => ?_) | refine qct ?_ | refine qcf ?_ | refine condP_bool (fun hc => ?_) (fun hc => ?_)) | ((with_reducible refine resP_id ?_); refine resP_four ?_) | ((with_reducible refine callT_to ?_); refine callP_plain ?_))
    | refine wk_seq ?_ | refine wk_region ?_ | refine wk_skip ?_ | refine wo_nil ?_ | refine wk_cond ?_ | refine wk_ret ?_ | refine wk_nil ?_ | refine wo_dst rfl (opR_call ?_) | refine wo_nodst (opR_call ?_) | refine wo_dst rfl (opR_pure ?_) | refine wo_nodst (opR_pure ?_)
    | refine give_ret ?_ | refine give_end ?_)
      refine (often_w m2 3 d2 n2' l2' p2 (by omega) (by omega) _ _ i2).mono ?_
      rintro _ h3 ⟨⟨m3, a3, c3, t3, rfl, i3, d3, n3', l3, p3, e3, r3, b3⟩, g3⟩; have n3 := g3.1; have k3 := g3.2; try simp only [next_new, next_set] at n3 k3
      have le3 : leN m3 ≤ leN m2 := by rw [e3]; exact Nat.le_mul_of_pos_right _ (Nat.pow_pos (by decide))
      have l3' := hm16 m3 d3 n3' (Nat.le_trans le3 le2)
      repeat' (first
    | ((with_reducible first | refine optP_id ?_ | refine condP_id ?_ | refine resP_id ?_ | refine callT_of ?_); conv => { arg 1; simp (disch := first | assumption | omega) only [push_cast, ↓reduceIte, reduceIte, Nat.reduceEqDiff, Nat.reduceAdd, Nat.reduceSub, Nat.reduceMul, Nat.reduceBEq, Int.reduceNeg, k1, k2, k3] }; first | ((with_reducible refine optP_id ?_); refine optP_some ?_) | ((with_reducible refine condP_id ?_); first | refine qcy ?_ | refine qcx ?_ | refine qco ?_ | refine condP_decn (fun hc => ?_) (fun hc => ?_) | refine condP_dec (fun hc => ?_) (fun hc => ?_) | refine qct ?_ | refine qcf ?_ | refine condP_bool (fun hc => ?_) (fun hc => ?_)) | ((with_reducible refine resP_id ?_); refine resP_four ?_) | ((with_reducible refine callT_to ?_); refine callP_plain ?_))
    | refine wk_seq ?_ | refine wk_region ?_ | refine wk_skip ?_ | refine wo_nil ?_ | refine wk_cond ?_ | refine wk_ret ?_ | refine wk_nil ?_ | refine wo_dst rfl (opR_call ?_) | refine wo_nodst (opR_call ?_) | refine wo_dst rfl (opR_pure ?_) | refine wo_nodst (opR_pure ?_)
    | refine give_ret ?_ | refine give_end ?_)
      refine (often_w m3 5 d3 n3' l3' p3 (by omega) (by omega) _ _ i3).mono ?_
      rintro _ h4 ⟨⟨m5, a5, c5, t5, rfl, i5, d5, n5', l5, p5, e5, r5, b5⟩, g4⟩; have n4 := g4.1; have k4 := g4.2; try simp only [next_new, next_set] at n4 k4
      repeat' (first
    | ((with_reducible first | refine optP_id ?_ | refine condP_id ?_ | refine resP_id ?_ | refine callT_of ?_); conv => { arg 1; simp (disch := first | assumption | omega) only [push_cast, ↓reduceIte, reduceIte, Nat.reduceEqDiff, Nat.reduceAdd, Nat.reduceSub, Nat.reduceMul, Nat.reduceBEq, Int.reduceNeg, k1, k2, k3, k4] }; first | ((with_reducible refine optP_id ?_); refine optP_some ?_) | ((with_reducible refine condP_id ?_); first | refine qcy ?_ | refine qcx ?_ | refine qco ?_ | refine condP_decn (fun hc => ?_) (fun hc => ?_) | refine condP_dec (fun hc => ?_) (fun hc => ?_) | refine qct ?_ | refine qcf ?_ | refine condP_bool (fun hc => ?_) (fun hc => ?_)) | ((with_reducible refine resP_id ?_); refine resP_four ?_) | ((with_reducible refine callT_to ?_); refine callP_plain ?_))
    | refine wk_seq ?_ | refine wk_region ?_ | refine wk_skip ?_ | refine wo_nil ?_ | refine wk_cond ?_ | refine wk_ret ?_ | refine wk_nil ?_ | refine wo_dst rfl (opR_call ?_) | refine wo_nodst (opR_call ?_) | refine wo_dst rfl (opR_pure ?_) | refine wo_nodst (opR_pure ?_)
    | refine give_ret ?_ | refine give_end ?_)
      refine (bigof_w 1 (by decide) _).mono ?_
      rintro _ h5 ⟨⟨o, bo, rfl, io, do', no, vo, lo⟩, g5⟩; have n5 := g5.1; have k5 := g5.2; try simp only [next_new, next_set] at n5 k5
      repeat' (first
    | ((with_reducible first | refine optP_id ?_ | refine condP_id ?_ | refine resP_id ?_ | refine callT_of ?_); conv => { arg 1; simp (disch := first | assumption | omega) only [push_cast, ↓reduceIte, reduceIte, Nat.reduceEqDiff, Nat.reduceAdd, Nat.reduceSub, Nat.reduceMul, Nat.reduceBEq, Int.reduceNeg, k1, k2, k3, k4, k5] }; first | ((with_reducible refine optP_id ?_); refine optP_some ?_) | ((with_reducible refine condP_id ?_); first | refine qcy ?_ | refine qcx ?_ | refine qco ?_ | refine condP_decn (fun hc => ?_) (fun hc => ?_) | refine condP_dec (fun hc => ?_) (fun hc => ?_) | refine qct ?_ | refine qcf ?_ | refine condP_bool (fun hc => ?_) (fun hc => ?_)) | ((with_reducible refine resP_id ?_); refine resP_four ?_) | ((with_reducible refine callT_to ?_); refine callP_plain ?_))
    | refine wk_seq ?_ | refine wk_region ?_ | refine wk_skip ?_ | refine wo_nil ?_ | refine wk_cond ?_ | refine wk_ret ?_ | refine wk_nil ?_ | refine wo_dst rfl (opR_call ?_) | refine wo_nodst (opR_call ?_) | refine wo_dst rfl (opR_pure ?_) | refine wo_nodst (opR_pure ?_)
    | refine give_ret ?_ | refine give_end ?_)
      refine (rcompare_w m5 o (by omega) (by omega) _ _ _ (SlIn.gr i5 (by (repeat (first | exact Gr.refl _ | assumption | (refine Gr.trans ?_ (by assumption)) | refine Gr.set ?_ (by first | exact Nat.le_refl _ | omega | (simp only [next_new, next_set]; omega)) _ | refine Gr.new ?_ _)))) io).mono ?_
      rintro _ _ ⟨⟨z, rfl, hz⟩, rfl⟩
      have hone : m5 = o ↔ leN m5 = 1 := ⟨fun e => by rw [e, vo], fun e => noEnd_inj d5 do' n5' no (e.trans vo.symm)⟩
      have dv3 : leN m5 ∣ leN m3 := ⟨5 ^ t5, e5⟩
      have dv2 : leN m5 ∣ leN m2 := Nat.dvd_trans dv3 ⟨3 ^ t3, e3⟩
      have dv0 : leN m5 ∣ valN l := by rw [← vm]; exact Nat.dvd_trans dv2 ⟨2 ^ t2, e2⟩
      have hirr : leN m5 ≠ 1 → irr (valN l) := fun h1 => ⟨leN m5, h1, not_dvd r2 dv2, not_dvd r3 dv3, r5, dv0⟩
      have hval : leN m5 = 1 → valN l = 2 ^ t2 * 3 ^ t3 * 5 ^ t5 := fun h1 => by
        rw [← vm, e2, e3, e5, h1, Nat.one_mul, Nat.mul_comm, Nat.mul_comm (5 ^ t5), Nat.mul_assoc]
      clear e2 e3 e5 r2 r3 r5 dv3 dv2 dv0 hm16 le2 le3 vm vo
      by_cases h1 : m5 = o
      · have z0 := hz.2 h1
        subst z0
        have hv1 := hval (hone.1 h1)
        clear hval hirr hone hz
        repeat' (first
    | ((with_reducible first | refine optP_id ?_ | refine condP_id ?_ | refine resP_id ?_ | refine callT_of ?_); conv => { arg 1; simp (disch := first | assumption | omega) only [push_cast, ↓reduceIte, reduceIte, Nat.reduceEqDiff, Nat.reduceAdd, Nat.reduceSub, Nat.reduceMul, Nat.reduceBEq, Int.reduceNeg, k5] }; first | ((with_reducible refine optP_id ?_); refine optP_some ?_) | ((with_reducible refine condP_id ?_); first | refine qcy ?_ | refine qcx ?_ | refine qco ?_ | refine condP_decn (fun hc => ?_) (fun hc => ?_) | refine condP_dec (fun hc => ?_) (fun hc => ?_) | refine qct ?_ | refine qcf ?_ | refine condP_bool (fun hc => ?_) (fun hc => ?_)) | ((with_reducible refine resP_id ?_); refine resP_four ?_) | ((with_reducible refine callT_to ?_); refine callP_plain ?_))
    | refine wk_seq ?_ | refine wk_region ?_ | refine wk_skip ?_ | refine wo_nil ?_ | refine wk_cond ?_ | refine wk_ret ?_ | refine wk_nil ?_ | refine wo_dst rfl (opR_call ?_) | refine wo_nodst (opR_call ?_) | refine wo_dst rfl (opR_pure ?_) | refine wo_nodst (opR_pure ?_)
    | refine give_ret ?_ | refine give_end ?_)
        exact ⟨fin _ (.inr ⟨hn, .inl ⟨t2, t3, t5, hv1, b2, b3, b5, rfl⟩⟩), by (repeat (first | exact Gr.refl _ | assumption | (refine Gr.trans ?_ (by assumption)) | refine Gr.set ?_ (by first | exact Nat.le_refl _ | omega | (simp only [next_new, next_set]; omega)) _ | refine Gr.new ?_ _))⟩
      · have z0 : ¬ z = 0 := fun e => h1 (hz.1 e)
        have hv1 := hirr fun e => h1 (hone.2 e)
        clear hval hirr hone hz
        repeat' (first
    | ((with_reducible first | refine optP_id ?_ | refine condP_id ?_ | refine resP_id ?_ | refine callT_of ?_); conv => { arg 1; simp (disch := first | assumption | omega) only [push_cast, ↓reduceIte, reduceIte, Nat.reduceEqDiff, Nat.reduceAdd, Nat.reduceSub, Nat.reduceMul, Nat.reduceBEq, Int.reduceNeg, k5] }; first | ((with_reducible refine optP_id ?_); refine optP_some ?_) | ((with_reducible refine condP_id ?_); first | refine qcy ?_ | refine qcx ?_ | refine qco ?_ | refine condP_decn (fun hc => ?_) (fun hc => ?_) | refine condP_dec (fun hc => ?_) (fun hc => ?_) | refine qct ?_ | refine qcf ?_ | refine condP_bool (fun hc => ?_) (fun hc => ?_)) | ((with_reducible refine resP_id ?_); refine resP_four ?_) | ((with_reducible refine callT_to ?_); refine callP_plain ?_))
    | refine wk_seq ?_ | refine wk_region ?_ | refine wk_skip ?_ | refine wo_nil ?_ | refine wk_cond ?_ | refine wk_ret ?_ | refine wk_nil ?_ | refine wo_dst rfl (opR_call ?_) | refine wo_nodst (opR_call ?_) | refine wo_dst rfl (opR_pure ?_) | refine wo_nodst (opR_pure ?_)
    | refine give_ret ?_ | refine give_end ?_)
        exact ⟨fin _ (.inr ⟨hn, .inr ⟨hv1, rfl⟩⟩), by (repeat (first | exact Gr.refl _ | assumption | (refine Gr.trans ?_ (by assumption)) | refine Gr.set ?_ (by first | exact Nat.le_refl _ | omega | (simp only [next_new, next_set]; omega)) _ | refine Gr.new ?_ _))⟩
  · have fin : ∀ r, r = .tuple #[.int .i64 0, .int .i64 0, .int .i64 0, .int .i64 (checkE l)] → regA l r := fun r q => .inl ⟨hE, q⟩
    generalize checkE l = C at *
    repeat' (first
    | ((with_reducible first | refine optP_id ?_ | refine condP_id ?_ | refine resP_id ?_ | refine callT_of ?_); conv => { arg 1; simp (disch := first | assumption | omega) only [push_cast, ↓reduceIte, reduceIte, Nat.reduceEqDiff, Nat.reduceAdd, Nat.reduceSub, Nat.reduceMul, Nat.reduceBEq, Int.reduceNeg] }; first | ((with_reducible refine optP_id ?_); refine optP_some ?_) | ((with_reducible refine condP_id ?_); first | refine qcy ?_ | refine qcx ?_ | refine qco ?_ | refine condP_decn (fun hc => ?_) (fun hc => ?_) | refine condP_dec (fun hc => ?_) (fun hc => ?_) | refine qct ?_ | refine qcf ?_ | refine condP_bool (fun hc => ?_) (fun hc => ?_)) | ((with_reducible refine resP_id ?_); refine resP_four ?_) | ((with_reducible refine callT_to ?_); refine callP_plain ?_))
    | refine wk_seq ?_ | refine wk_region ?_ | refine wk_skip ?_ | refine wo_nil ?_ | refine wk_cond ?_ | refine wk_ret ?_ | refine wk_nil ?_ | refine wo_dst rfl (opR_call ?_) | refine wo_nodst (opR_call ?_) | refine wo_dst rfl (opR_pure ?_) | refine wo_nodst (opR_pure ?_)
    | refine give_ret ?_ | refine give_end ?_)
    exact ⟨fin _ rfl, by (repeat (first | exact Gr.refl _ | assumption | (refine Gr.trans ?_ (by assumption)) | refine Gr.set ?_ (by first | exact Nat.le_refl _ | omega | (simp only [next_new, next_set]; omega)) _ | refine Gr.new ?_ _))⟩
end Go.Proofs.YtelepfablohdmaaGreatDoor
namespace Go.Proofs.YtelepfablohdmaaGreatDoor
open Go.Ev
set_option maxRecDepth 100000 in
set_option maxHeartbeats 8000000 in
theorem rtimes2_w (x y : List Int) (hx : digs x) (hy : digs y) (lx : x.length ≤ 150) (ly : y.length ≤ 16) (v u : Value) (h : AHeap) (hv : IIn h v x) (hu : IIn h u y) :
    Wc pr (.func 72) [v, u] h fun r h' => (∃ m a c, r = .slice a m.length c ∧ IIn h' (.slice a m.length c) m ∧ digs m ∧ noEnd m ∧ leN m = leN x * leN y ∧ m.length ≤ x.length + 17) ∧ Gr h h' := by
  obtain ⟨ax, cx, rfl, _, hvx⟩ := id hv
  obtain ⟨ay, cy, rfl, _, hvy⟩ := id hu
  refine wc_func Tryz.func72 rfl rfl rfl rfl ?_
  obtain ⟨N, hN⟩ : ∃ N, N = x.length + y.length + 1 := ⟨_, rfl⟩
  have eN : (x.length : Int) + (y.length : Int) + 1 = (N : Int) := by omega
  have mk := mk22 N (by omega)
  repeat' (first
    | ((with_reducible first | refine optP_id ?_ | refine condP_id ?_ | refine resP_id ?_ | refine callT_of ?_); conv => { arg 1; simp (disch := first | assumption | omega) only [push_cast, ↓reduceIte, reduceIte, Nat.reduceEqDiff, Nat.reduceAdd, Nat.reduceSub, Nat.reduceMul, Nat.reduceBEq, Int.reduceNeg, eN, mk] }; first | ((with_reducible refine optP_id ?_); refine optP_some ?_) | ((with_reducible refine condP_id ?_); first | refine qcy ?_ | refine qcx ?_ | refine qco ?_ | refine condP_decn (fun hc => ?_) (fun hc => ?_) | refine condP_dec (fun hc => ?_) (fun hc => ?_) | refine qct ?_ | refine qcf ?_ | refine condP_bool (fun hc => ?_) (fun hc => ?_)) | ((with_reducible refine resP_id ?_); refine resP_one ?_) | ((with_reducible refine callT_to ?_); refine callP_plain ?_))
    | refine wk_seq ?_ | refine wk_region ?_ | refine wk_block ?_ | refine wk_inBlock ?_ | refine wk_skip ?_ | refine wk_draw (by kernel_rfl) (by decide +kernel) ?_ | refine wo_nil ?_ | refine wk_exit ?_ | refine exitK_code ?_ | refine exitK_hit ?_ | refine exitK_miss rfl ?_ | refine exitK_inLoop ?_ | refine wk_cond ?_ | refine wk_ret ?_ | refine wk_nil ?_ | refine wo_dst rfl (opR_call ?_) | refine wo_nodst (opR_call ?_) | refine wo_dst rfl (opR_pure ?_) | refine wo_nodst (opR_pure ?_)
    | refine give_ret ?_ | refine give_end ?_)
  refine wk_loop (fun n E H => ∃ (i : Nat) (O : List Int), n = x.length - i ∧ i ≤ x.length ∧ O.length = N ∧ upto (3481 * (16 * i)) O ∧ leN O = leN (x.take i) * leN y ∧ Gr h H ∧ h.next < H.next ∧ H.get h.next = some (.cells (ints .i64 O) 3 true) ∧ E.look 0 top = .slice ax x.length cx ∧ E.look 1 top = .slice ay y.length cy ∧ E.look 5 top = .slice (some ⟨h.next, 0, none⟩) N (EX + N) ∧ E.look 6 top = .int .i64 (i : Int)) x.length
    ⟨0, List.replicate N 0, by omega, by omega, List.length_replicate, fun z hz => by rw [List.eq_of_mem_replicate hz]; omega, by rw [leN_zeros]; simp [leN], by (repeat (first | exact Gr.refl _ | assumption | (refine Gr.trans ?_ (by assumption)) | refine Gr.set ?_ (by first | exact Nat.le_refl _ | omega | (simp only [next_new, next_set]; omega)) _ | refine Gr.new ?_ _)), by simp only [next_new]; omega, by simp (disch := first | assumption | omega) only [push_cast, ↓reduceIte, reduceIte, Nat.reduceEqDiff, Nat.reduceAdd, Nat.reduceSub, Nat.reduceMul, Nat.reduceBEq, Int.reduceNeg], by simp (disch := first | assumption | omega) only [push_cast, ↓reduceIte, reduceIte, Nat.reduceEqDiff, Nat.reduceAdd, Nat.reduceSub, Nat.reduceMul, Nat.reduceBEq, Int.reduceNeg], by simp (disch := first | assumption | omega) only [push_cast, ↓reduceIte, reduceIte, Nat.reduceEqDiff, Nat.reduceAdd, Nat.reduceSub, Nat.reduceMul, Nat.reduceBEq, Int.reduceNeg], by simp (disch := first | assumption | omega) only [push_cast, ↓reduceIte, reduceIte, Nat.reduceEqDiff, Nat.reduceAdd, Nat.reduceSub, Nat.reduceMul, Nat.reduceBEq, Int.reduceNeg], by simp (disch := first | assumption | omega) only [push_cast, ↓reduceIte, reduceIte, Nat.reduceEqDiff, Nat.reduceAdd, Nat.reduceSub, Nat.reduceMul, Nat.reduceBEq, Int.reduceNeg, Int.natCast_zero]⟩ ?_
  rintro n E H ⟨i, O, rfl, hi, lO, uO, vO, gr, hnx, cO, e0, e1, e5, e6⟩ next
  by_cases hlt : i < x.length
  · have ilt : (i : Int) < (x.length : Int) := by omega
    obtain ⟨bx, offx, allx, rwx, hax, hbx, hgx, htx⟩ := hvx (by intro h; rw [h] at hlt; exact absurd hlt (Nat.not_lt_zero _))
    have hx1 := at_cut1 _ _ _ (htx i hlt)
    rw [Nat.mul_one] at hx1
    have dx := hx _ (List.getElem_mem hlt)
    have tx := leN_take hlt
    obtain ⟨xi, hxi⟩ : ∃ xi : Nat, x[i] = (xi : Int) := ⟨x[i].toNat, by omega⟩
    rw [hxi, Int.toNat_natCast] at tx
    rw [hxi] at hx1 dx
    repeat' (first
    | ((with_reducible first | refine optP_id ?_ | refine condP_id ?_ | refine resP_id ?_ | refine callT_of ?_); conv => { arg 1; simp (disch := first | assumption | omega) only [push_cast, ↓reduceIte, reduceIte, Nat.reduceEqDiff, Nat.reduceAdd, Nat.reduceSub, Nat.reduceMul, Nat.reduceBEq, Int.reduceNeg, e0, e1, e5, e6] }; first | ((with_reducible refine optP_id ?_); refine optP_some ?_) | ((with_reducible refine condP_id ?_); first | refine qcy ?_ | refine qcx ?_ | refine qco ?_ | refine condP_decn (fun hc => ?_) (fun hc => ?_) | refine condP_dec (fun hc => ?_) (fun hc => ?_) | refine qct ?_ | refine qcf ?_ | refine condP_bool (fun hc => ?_) (fun hc => ?_)) | ((with_reducible refine resP_id ?_); refine resP_one ?_) | ((with_reducible refine callT_to ?_); refine callP_plain ?_))
    | refine wk_seq ?_ | refine wk_region ?_ | refine wk_block ?_ | refine wk_inBlock ?_ | refine wk_skip ?_ | refine wk_draw (by kernel_rfl) (by decide +kernel) ?_ | refine wo_nil ?_ | refine wk_exit ?_ | refine exitK_code ?_ | refine exitK_hit ?_ | refine exitK_miss rfl ?_ | refine exitK_inLoop ?_ | refine wk_cond ?_ | refine wk_ret ?_ | refine wk_nil ?_ | refine wo_dst rfl (opR_call ?_) | refine wo_nodst (opR_call ?_) | refine wo_dst rfl (opR_pure ?_) | refine wo_nodst (opR_pure ?_)
    | refine give_ret ?_ | refine give_end ?_)
    refine wk_loop (fun n E H => ∃ (k : Nat) (O : List Int), n = y.length - k ∧ k ≤ y.length ∧ O.length = N ∧ upto (3481 * (16 * i + k)) O ∧ leN O = leN (x.take i) * leN y + xi * leN (y.take k) * 60 ^ i ∧ Gr h H ∧ h.next < H.next ∧ H.get h.next = some (.cells (ints .i64 O) 3 true) ∧ E.look 0 top = .slice ax x.length cx ∧ E.look 1 top = .slice ay y.length cy ∧ E.look 5 top = .slice (some ⟨h.next, 0, none⟩) N (EX + N) ∧ E.look 6 top = .int .i64 (i : Int) ∧ E.look 7 top = .int .i64 (k : Int)) y.length
      ⟨0, O, by omega, by omega, lO, by simpa using uO, by rw [vO]; simp [leN], gr, hnx, cO, by simp (disch := first | assumption | omega) only [push_cast, ↓reduceIte, reduceIte, Nat.reduceEqDiff, Nat.reduceAdd, Nat.reduceSub, Nat.reduceMul, Nat.reduceBEq, Int.reduceNeg, e0], by simp (disch := first | assumption | omega) only [push_cast, ↓reduceIte, reduceIte, Nat.reduceEqDiff, Nat.reduceAdd, Nat.reduceSub, Nat.reduceMul, Nat.reduceBEq, Int.reduceNeg, e1], by simp (disch := first | assumption | omega) only [push_cast, ↓reduceIte, reduceIte, Nat.reduceEqDiff, Nat.reduceAdd, Nat.reduceSub, Nat.reduceMul, Nat.reduceBEq, Int.reduceNeg, e5], by simp (disch := first | assumption | omega) only [push_cast, ↓reduceIte, reduceIte, Nat.reduceEqDiff, Nat.reduceAdd, Nat.reduceSub, Nat.reduceMul, Nat.reduceBEq, Int.reduceNeg, e6], by simp (disch := first | assumption | omega) only [push_cast, ↓reduceIte, reduceIte, Nat.reduceEqDiff, Nat.reduceAdd, Nat.reduceSub, Nat.reduceMul, Nat.reduceBEq, Int.reduceNeg, Int.natCast_zero]⟩ ?_
    rintro n2 E2 H2 ⟨k, O2, rfl, hk, lO2, uO2, vO2, gr2, hnx2, cO2, f0, f1, f5, f6, f7⟩ next2
    by_cases hky : k < y.length
    · have klt : (k : Int) < (y.length : Int) := by omega
      obtain ⟨by', offy, ally, rwy, hay, hby, hgy, hty⟩ := hvy (by intro h; rw [h] at hky; exact absurd hky (Nat.not_lt_zero _))
      have hy1 := at_cut1 _ _ _ (hty k hky)
      rw [Nat.mul_one] at hy1
      have dy := hy _ (List.getElem_mem hky)
      have ty := leN_take hky
      obtain ⟨yk, hyk⟩ : ∃ yk : Nat, y[k] = (yk : Int) := ⟨y[k].toNat, by omega⟩
      rw [hyk, Int.toNat_natCast] at ty
      rw [hyk] at hy1 dy
      obtain ⟨j, hj⟩ : ∃ j, j = i + k := ⟨_, rfl⟩
      have ej : (i : Int) + (k : Int) = (j : Int) := by omega
      have hjl : j < O2.length := by omega
      have ho := uO2 _ (List.getElem_mem hjl)
      have a1 : at? (ints .i64 O2) j = some (.int .i64 O2[j]) := ints_at .i64 hjl
      obtain ⟨o, hoo⟩ : ∃ o : Nat, O2[j] = (o : Int) := ⟨O2[j].toNat, by omega⟩
      have pst := put_step (p := xi * yk) hjl hoo
      rw [hoo] at a1 ho
      have hprod : xi * yk ≤ 59 * 59 := Nat.mul_le_mul (by omega) (by omega)
      have ov : over (ints .i64 O2) j [.int .i64 ((o + xi * yk : Nat) : Int)] = some (ints .i64 (O2.set j ((o + xi * yk : Nat) : Int))) := ints_over .i64 _ hjl
      have em : (xi : Int) * (yk : Int) = ((xi * yk : Nat) : Int) := by rw [Int.natCast_mul]
      have us2 : upto (3481 * (16 * i + (k + 1))) (O2.set j ((o + xi * yk : Nat) : Int)) := upto_set uO2 j (by omega) (by omega)
      have ls2 : (O2.set j ((o + xi * yk : Nat) : Int)).length = N := by rw [List.length_set]; exact lO2
      have vs2 : leN (O2.set j ((o + xi * yk : Nat) : Int)) = leN (x.take i) * leN y + xi * leN (y.take (k + 1)) * 60 ^ i := by
        rw [pst, vO2, ty, hj, Nat.pow_add]
        generalize leN (x.take i) * leN y = A
        generalize leN (y.take k) = B
        generalize 60 ^ i = C
        generalize 60 ^ k = D
        grind
      generalize hpp : xi * yk = p at *
      have es : (o : Int) + (p : Int) = ((o + p : Nat) : Int) := by omega
      have ho2 : (o : Int) + (p : Int) ≤ 10000000 := by omega
      rw [← es] at ov
      have f0' : E2.look 0 top = .slice (some ⟨bx, offx, none⟩) x.length cx := by rw [f0, hax]
      have f1' : E2.look 1 top = .slice (some ⟨by', offy, none⟩) y.length cy := by rw [f1, hay]
      have hgx2 : H2.get bx = some (.cells allx 3 rwx) := by rw [gr2.2 bx hbx]; exact hgx
      have hgy2 : H2.get by' = some (.cells ally 3 rwy) := by rw [gr2.2 by' hby]; exact hgy
      rw [← es] at us2 ls2 vs2
      generalize O2.set j ((o : Int) + (p : Int)) = O3 at *
      generalize ints .i64 O2 = C2 at *
      generalize hC3 : ints .i64 O3 = C3 at *
      repeat' (first
    | ((with_reducible first | refine optP_id ?_ | refine condP_id ?_ | refine resP_id ?_ | refine callT_of ?_); conv => { arg 1; simp (disch := first | assumption | omega) only [push_cast, ↓reduceIte, reduceIte, Nat.reduceEqDiff, Nat.reduceAdd, Nat.reduceSub, Nat.reduceMul, Nat.reduceBEq, Int.reduceNeg, f0', f1', f5, f6, f7, ej, em, cO2, a1, hgx2, hx1, hgy2, hy1, ov, Nat.zero_add, Nat.mul_one] }; first | ((with_reducible refine optP_id ?_); refine optP_some ?_) | ((with_reducible refine condP_id ?_); first | refine qcy ?_ | refine qcx ?_ | refine qco ?_ | refine condP_decn (fun hc => ?_) (fun hc => ?_) | refine condP_dec (fun hc => ?_) (fun hc => ?_) | refine qct ?_ | refine qcf ?_ | refine condP_bool (fun hc => ?_) (fun hc => ?_)) | ((with_reducible refine resP_id ?_); refine resP_one ?_) | ((with_reducible refine callT_to ?_); refine callP_plain ?_))
    | refine wk_seq ?_ | refine wk_region ?_ | refine wk_block ?_ | refine wk_inBlock ?_ | refine wk_skip ?_ | refine wk_draw (by kernel_rfl) (by decide +kernel) ?_ | refine wo_nil ?_ | refine wk_exit ?_ | refine exitK_code ?_ | refine exitK_hit ?_ | refine exitK_miss rfl ?_ | refine exitK_inLoop ?_ | refine wk_cond ?_ | refine wk_ret ?_ | refine wk_nil ?_ | refine wo_dst rfl (opR_call ?_) | refine wo_nodst (opR_call ?_) | refine wo_dst rfl (opR_pure ?_) | refine wo_nodst (opR_pure ?_)
    | refine give_ret ?_ | refine give_end ?_)
      exact next2 (y.length - (k + 1)) _ _ (by omega) ⟨k + 1, O3, rfl, by omega, ls2, us2, vs2, by (repeat (first | exact Gr.refl _ | assumption | (refine Gr.trans ?_ (by assumption)) | refine Gr.set ?_ (by first | exact Nat.le_refl _ | omega | (simp only [next_new, next_set]; omega)) _ | refine Gr.new ?_ _)), by simp only [next_set]; omega, by rw [hC3]; simp (disch := first | assumption | omega) only [push_cast, ↓reduceIte, reduceIte, Nat.reduceEqDiff, Nat.reduceAdd, Nat.reduceSub, Nat.reduceMul, Nat.reduceBEq, Int.reduceNeg], by simp (disch := first | assumption | omega) only [push_cast, ↓reduceIte, reduceIte, Nat.reduceEqDiff, Nat.reduceAdd, Nat.reduceSub, Nat.reduceMul, Nat.reduceBEq, Int.reduceNeg, f0], by simp (disch := first | assumption | omega) only [push_cast, ↓reduceIte, reduceIte, Nat.reduceEqDiff, Nat.reduceAdd, Nat.reduceSub, Nat.reduceMul, Nat.reduceBEq, Int.reduceNeg, f1], by simp (disch := first | assumption | omega) only [push_cast, ↓reduceIte, reduceIte, Nat.reduceEqDiff, Nat.reduceAdd, Nat.reduceSub, Nat.reduceMul, Nat.reduceBEq, Int.reduceNeg, f5], by simp (disch := first | assumption | omega) only [push_cast, ↓reduceIte, reduceIte, Nat.reduceEqDiff, Nat.reduceAdd, Nat.reduceSub, Nat.reduceMul, Nat.reduceBEq, Int.reduceNeg, f6], by simp (disch := first | assumption | omega) only [push_cast, ↓reduceIte, reduceIte, Nat.reduceEqDiff, Nat.reduceAdd, Nat.reduceSub, Nat.reduceMul, Nat.reduceBEq, Int.reduceNeg, Int.natCast_add, Int.natCast_one]⟩
    · have klt : ¬ (k : Int) < (y.length : Int) := by omega
      repeat' (first
    | ((with_reducible first | refine optP_id ?_ | refine condP_id ?_ | refine resP_id ?_ | refine callT_of ?_); conv => { arg 1; simp (disch := first | assumption | omega) only [push_cast, ↓reduceIte, reduceIte, Nat.reduceEqDiff, Nat.reduceAdd, Nat.reduceSub, Nat.reduceMul, Nat.reduceBEq, Int.reduceNeg, f0, f1, f5, f6, f7] }; first | ((with_reducible refine optP_id ?_); refine optP_some ?_) | ((with_reducible refine condP_id ?_); first | refine qcy ?_ | refine qcx ?_ | refine qco ?_ | refine condP_decn (fun hc => ?_) (fun hc => ?_) | refine condP_dec (fun hc => ?_) (fun hc => ?_) | refine qct ?_ | refine qcf ?_ | refine condP_bool (fun hc => ?_) (fun hc => ?_)) | ((with_reducible refine resP_id ?_); refine resP_one ?_) | ((with_reducible refine callT_to ?_); refine callP_plain ?_))
    | refine wk_seq ?_ | refine wk_region ?_ | refine wk_block ?_ | refine wk_inBlock ?_ | refine wk_skip ?_ | refine wk_draw (by kernel_rfl) (by decide +kernel) ?_ | refine wo_nil ?_ | refine wk_exit ?_ | refine exitK_code ?_ | refine exitK_hit ?_ | refine exitK_miss rfl ?_ | refine exitK_inLoop ?_ | refine wk_cond ?_ | refine wk_ret ?_ | refine wk_nil ?_ | refine wo_dst rfl (opR_call ?_) | refine wo_nodst (opR_call ?_) | refine wo_dst rfl (opR_pure ?_) | refine wo_nodst (opR_pure ?_)
    | refine give_ret ?_ | refine give_end ?_)
      have hty : y.take k = y := List.take_of_length_le (by omega)
      rw [hty] at vO2
      refine next (x.length - (i + 1)) _ _ (by omega) ⟨i + 1, O2, rfl, by omega, lO2, fun z hz => by have := uO2 z hz; omega, ?_, gr2, hnx2, cO2, by simp (disch := first | assumption | omega) only [push_cast, ↓reduceIte, reduceIte, Nat.reduceEqDiff, Nat.reduceAdd, Nat.reduceSub, Nat.reduceMul, Nat.reduceBEq, Int.reduceNeg, f0], by simp (disch := first | assumption | omega) only [push_cast, ↓reduceIte, reduceIte, Nat.reduceEqDiff, Nat.reduceAdd, Nat.reduceSub, Nat.reduceMul, Nat.reduceBEq, Int.reduceNeg, f1], by simp (disch := first | assumption | omega) only [push_cast, ↓reduceIte, reduceIte, Nat.reduceEqDiff, Nat.reduceAdd, Nat.reduceSub, Nat.reduceMul, Nat.reduceBEq, Int.reduceNeg, f5], by simp (disch := first | assumption | omega) only [push_cast, ↓reduceIte, reduceIte, Nat.reduceEqDiff, Nat.reduceAdd, Nat.reduceSub, Nat.reduceMul, Nat.reduceBEq, Int.reduceNeg, Int.natCast_add, Int.natCast_one]⟩
      rw [vO2, tx]
      exact alg1 _ _ _ _
  · have ilt : ¬ (i : Int) < (x.length : Int) := by omega
    repeat' (first
    | ((with_reducible first | refine optP_id ?_ | refine condP_id ?_ | refine resP_id ?_ | refine callT_of ?_); conv => { arg 1; simp (disch := first | assumption | omega) only [push_cast, ↓reduceIte, reduceIte, Nat.reduceEqDiff, Nat.reduceAdd, Nat.reduceSub, Nat.reduceMul, Nat.reduceBEq, Int.reduceNeg, e0, e1, e5, e6] }; first | ((with_reducible refine optP_id ?_); refine optP_some ?_) | ((with_reducible refine condP_id ?_); first | refine qcy ?_ | refine qcx ?_ | refine qco ?_ | refine condP_decn (fun hc => ?_) (fun hc => ?_) | refine condP_dec (fun hc => ?_) (fun hc => ?_) | refine qct ?_ | refine qcf ?_ | refine condP_bool (fun hc => ?_) (fun hc => ?_)) | ((with_reducible refine resP_id ?_); refine resP_one ?_) | ((with_reducible refine callT_to ?_); refine callP_plain ?_))
    | refine wk_seq ?_ | refine wk_region ?_ | refine wk_block ?_ | refine wk_inBlock ?_ | refine wk_skip ?_ | refine wk_draw (by kernel_rfl) (by decide +kernel) ?_ | refine wo_nil ?_ | refine wk_exit ?_ | refine exitK_code ?_ | refine exitK_hit ?_ | refine exitK_miss rfl ?_ | refine exitK_inLoop ?_ | refine wk_cond ?_ | refine wk_ret ?_ | refine wk_nil ?_ | refine wo_dst rfl (opR_call ?_) | refine wo_nodst (opR_call ?_) | refine wo_dst rfl (opR_pure ?_) | refine wo_nodst (opR_pure ?_)
    | refine give_ret ?_ | refine give_end ?_)
    rw [List.take_of_length_le (by omega)] at vO
    have hV : leN x * leN y < 60 ^ (N - 1) := by
      have h1 := Nat.mul_lt_mul'' (leN_lt hx) (leN_lt hy)
      rw [← Nat.pow_add] at h1
      have : N - 1 = x.length + y.length := by omega
      rw [this]; exact h1
    refine wk_loop (fun n E H => ∃ (j : Nat) (O : List Int), n = N - j ∧ j + 1 ≤ N ∧ O.length = N ∧ (∀ k (hk : k < O.length), k < j → 0 ≤ O[k] ∧ O[k] < 60) ∧ (∀ k (hk : k < O.length), j < k → 0 ≤ O[k] ∧ O[k] ≤ 9000000) ∧ (∀ (hk : j < O.length), 0 ≤ O[j] ∧ O[j] ≤ 10000000) ∧ leN O = leN x * leN y ∧ Gr h H ∧ h.next < H.next ∧ H.get h.next = some (.cells (ints .i64 O) 3 true) ∧ E.look 5 top = .slice (some ⟨h.next, 0, none⟩) N (EX + N) ∧ E.look 8 top = .int .i64 (j : Int)) N
      ⟨0, O, by omega, by omega, lO, fun k _ hk => absurd hk (Nat.not_lt_zero k), fun k hk _ => by have := uO _ (List.getElem_mem hk); omega, fun hk => by have := uO _ (List.getElem_mem hk); omega, vO, gr, hnx, cO, by simp (disch := first | assumption | omega) only [push_cast, ↓reduceIte, reduceIte, Nat.reduceEqDiff, Nat.reduceAdd, Nat.reduceSub, Nat.reduceMul, Nat.reduceBEq, Int.reduceNeg, e5], by simp (disch := first | assumption | omega) only [push_cast, ↓reduceIte, reduceIte, Nat.reduceEqDiff, Nat.reduceAdd, Nat.reduceSub, Nat.reduceMul, Nat.reduceBEq, Int.reduceNeg, Int.natCast_zero]⟩ ?_
    rintro n2 E2 H2 ⟨j, O2, rfl, hjN, lO2, da, db, dc, vO2, gr2, hnx2, cO2, f5, f8⟩ next2
    by_cases hj2 : j + 1 < N
    · have jlt : (j : Int) + 1 < (N : Int) := by omega
      obtain ⟨j', hj'⟩ : ∃ j', j' = j + 1 := ⟨_, rfl⟩
      have ej : (j : Int) + 1 = (j' : Int) := by omega
      have h1 : j < O2.length := by omega
      have h2 : j' < O2.length := by omega
      have h2' : j + 1 < O2.length := by omega
      have b1 := dc h1
      have b2 := db j' h2 (by omega)
      obtain ⟨o, hoo⟩ : ∃ o : Nat, O2[j] = (o : Int) := ⟨O2[j].toNat, by omega⟩
      obtain ⟨o', hoo'⟩ : ∃ o' : Nat, O2[j'] = (o' : Int) := ⟨O2[j'].toNat, by omega⟩
      have a1 : at? (ints .i64 O2) j = some (.int .i64 (o : Int)) := by rw [ints_at .i64 h1, hoo]
      have a2 : at? (ints .i64 O2) j' = some (.int .i64 (o' : Int)) := by rw [ints_at .i64 h2, hoo']
      have hcs := carry_step h1 h2' hoo (by subst hj'; exact hoo')
      rw [← hj'] at hcs
      have ov1 : over (ints .i64 O2) j' [.int .i64 ((o' + o / 60 : Nat) : Int)] = some (ints .i64 (O2.set j' ((o' + o / 60 : Nat) : Int))) := ints_over .i64 _ h2
      have l3 : (O2.set j' ((o' + o / 60 : Nat) : Int)).length = N := by rw [List.length_set]; exact lO2
      have h1b : j < (O2.set j' ((o' + o / 60 : Nat) : Int)).length := by omega
      have a3 : at? (ints .i64 (O2.set j' ((o' + o / 60 : Nat) : Int))) j = some (.int .i64 (o : Int)) := by rw [ints_at .i64 h1b, List.getElem_set_ne (by omega), hoo]
      have ov2 : over (ints .i64 (O2.set j' ((o' + o / 60 : Nat) : Int))) j [.int .i64 ((o % 60 : Nat) : Int)] = some (ints .i64 ((O2.set j' ((o' + o / 60 : Nat) : Int)).set j ((o % 60 : Nat) : Int))) := ints_over .i64 _ h1b
      have l4 : ((O2.set j' ((o' + o / 60 : Nat) : Int)).set j ((o % 60 : Nat) : Int)).length = N := by rw [List.length_set]; exact l3
      obtain ⟨O4, hO4⟩ : ∃ O4, O4 = (O2.set j' ((o' + o / 60 : Nat) : Int)).set j ((o % 60 : Nat) : Int) := ⟨_, rfl⟩
      have g4 : ∀ k (hk : k < O4.length) (hk2 : k < O2.length), O4[k] = if j = k then ((o % 60 : Nat) : Int) else if j' = k then ((o' + o / 60 : Nat) : Int) else O2[k] := by
        subst hO4
        intro k hk hk2
        rw [List.getElem_set, List.getElem_set]
      rw [← hO4] at hcs ov2 l4
      clear hO4
      have eq1 : (o : Int) / 60 = ((o / 60 : Nat) : Int) := by omega
      have eq2 : (o : Int) % 60 = ((o % 60 : Nat) : Int) := by omega
      have es : (o' : Int) + ((o / 60 : Nat) : Int) = ((o' + o / 60 : Nat) : Int) := by omega
      rw [← es] at ov1 ov2 a3
      have hq : o / 60 ≤ 166667 := by omega
      generalize o / 60 = q at *
      generalize hr : o % 60 = r at *
      have hr60 : r < 60 := by omega
      have hb3 : (o' : Int) + (q : Int) ≤ 10000000 := by omega
      generalize ints .i64 (O2.set j' ((o' : Int) + (q : Int))) = C3 at *
      generalize hC4 : ints .i64 O4 = C4 at *
      generalize ints .i64 O2 = C2 at *
      repeat' (first
    | ((with_reducible first | refine optP_id ?_ | refine condP_id ?_ | refine resP_id ?_ | refine callT_of ?_); conv => { arg 1; simp (disch := first | assumption | omega) only [push_cast, ↓reduceIte, reduceIte, Nat.reduceEqDiff, Nat.reduceAdd, Nat.reduceSub, Nat.reduceMul, Nat.reduceBEq, Int.reduceNeg, f5, f8, ej, eq1, eq2, cO2, a1, a2, a3, ov1, ov2, Nat.zero_add, Nat.mul_one] }; first | ((with_reducible refine optP_id ?_); refine optP_some ?_) | ((with_reducible refine condP_id ?_); first | refine qcy ?_ | refine qcx ?_ | refine qco ?_ | refine condP_decn (fun hc => ?_) (fun hc => ?_) | refine condP_dec (fun hc => ?_) (fun hc => ?_) | refine qct ?_ | refine qcf ?_ | refine condP_bool (fun hc => ?_) (fun hc => ?_)) | ((with_reducible refine resP_id ?_); refine resP_one ?_) | ((with_reducible refine callT_to ?_); refine callP_plain ?_))
    | refine wk_seq ?_ | refine wk_region ?_ | refine wk_block ?_ | refine wk_inBlock ?_ | refine wk_skip ?_ | refine wk_draw (by kernel_rfl) (by decide +kernel) ?_ | refine wo_nil ?_ | refine wk_exit ?_ | refine exitK_code ?_ | refine exitK_hit ?_ | refine exitK_miss rfl ?_ | refine exitK_inLoop ?_ | refine wk_cond ?_ | refine wk_ret ?_ | refine wk_nil ?_ | refine wo_dst rfl (opR_call ?_) | refine wo_nodst (opR_call ?_) | refine wo_dst rfl (opR_pure ?_) | refine wo_nodst (opR_pure ?_)
    | refine give_ret ?_ | refine give_end ?_)
      refine next2 (N - (j + 1)) _ _ (by omega) ⟨j + 1, O4, rfl, by omega, l4, fun k hk hk2 => ?_, fun k hk hk2 => ?_, fun hk => ?_, by rw [hcs, vO2], by (repeat (first | exact Gr.refl _ | assumption | (refine Gr.trans ?_ (by assumption)) | refine Gr.set ?_ (by first | exact Nat.le_refl _ | omega | (simp only [next_new, next_set]; omega)) _ | refine Gr.new ?_ _)), by simp only [next_set]; omega, by rw [hC4]; simp (disch := first | assumption | omega) only [push_cast, ↓reduceIte, reduceIte, Nat.reduceEqDiff, Nat.reduceAdd, Nat.reduceSub, Nat.reduceMul, Nat.reduceBEq, Int.reduceNeg], by simp (disch := first | assumption | omega) only [push_cast, ↓reduceIte, reduceIte, Nat.reduceEqDiff, Nat.reduceAdd, Nat.reduceSub, Nat.reduceMul, Nat.reduceBEq, Int.reduceNeg, f5], by rw [← hj']; simp (disch := first | assumption | omega) only [push_cast, ↓reduceIte, reduceIte, Nat.reduceEqDiff, Nat.reduceAdd, Nat.reduceSub, Nat.reduceMul, Nat.reduceBEq, Int.reduceNeg]⟩
      · rw [g4 k hk (by omega)]
        by_cases e : j = k
        · rw [if_pos e]; omega
        · rw [if_neg e, if_neg (by omega)]
          exact da k _ (by omega)
      · rw [g4 k hk (by omega), if_neg (by omega), if_neg (by omega)]
        exact db k _ (by omega)
      · rw [g4 _ hk (by omega), if_neg (by omega), if_pos (by omega)]
        omega
    · have jlt : ¬ (j : Int) + 1 < (N : Int) := by omega
      have h1 : j < O2.length := by omega
      have dO : digs O2 := fun z hz => by
        obtain ⟨k, hk, rfl⟩ := List.getElem_of_mem hz
        by_cases e : k < j
        · exact da k hk e
        · obtain rfl : k = j := by omega
          have b1 := dc h1
          have h3 := leN_ge h1
          rw [vO2] at h3
          have h4 : N - 1 = k := by omega
          rw [h4] at hV
          have : (O2[k]).toNat < 1 := by
            apply Classical.byContradiction
            intro hh
            have := Nat.mul_le_mul_right (60 ^ k) (show 1 ≤ (O2[k]).toNat by omega)
            omega
          omega
      repeat' (first
    | ((with_reducible first | refine optP_id ?_ | refine condP_id ?_ | refine resP_id ?_ | refine callT_of ?_); conv => { arg 1; simp (disch := first | assumption | omega) only [push_cast, ↓reduceIte, reduceIte, Nat.reduceEqDiff, Nat.reduceAdd, Nat.reduceSub, Nat.reduceMul, Nat.reduceBEq, Int.reduceNeg, f5, f8] }; first | ((with_reducible refine optP_id ?_); refine optP_some ?_) | ((with_reducible refine condP_id ?_); first | refine qcy ?_ | refine qcx ?_ | refine qco ?_ | refine condP_decn (fun hc => ?_) (fun hc => ?_) | refine condP_dec (fun hc => ?_) (fun hc => ?_) | refine qct ?_ | refine qcf ?_ | refine condP_bool (fun hc => ?_) (fun hc => ?_)) | ((with_reducible refine resP_id ?_); refine resP_one ?_) | ((with_reducible refine callT_to ?_); refine callP_plain ?_))
    | refine wk_seq ?_ | refine wk_region ?_ | refine wk_block ?_ | refine wk_inBlock ?_ | refine wk_skip ?_ | refine wk_draw (by kernel_rfl) (by decide +kernel) ?_ | refine wo_nil ?_ | refine wk_exit ?_ | refine exitK_code ?_ | refine exitK_hit ?_ | refine exitK_miss rfl ?_ | refine exitK_inLoop ?_ | refine wk_cond ?_ | refine wk_ret ?_ | refine wk_nil ?_ | refine wo_dst rfl (opR_call ?_) | refine wo_nodst (opR_call ?_) | refine wo_dst rfl (opR_pure ?_) | refine wo_nodst (opR_pure ?_)
    | refine give_ret ?_ | refine give_end ?_)
      have hin : IIn H2 (.slice (some ⟨h.next, 0, none⟩) O2.length (EX + N)) O2 := ints_inI hnx2 (by rw [capLo_ex, lO2]; exact Nat.le_refl _) cO2
      rw [lO2] at hin
      refine (trim_w O2 dO _ _ hin (by omega)).mono ?_
      rintro _ _ ⟨⟨m, am, cm, rfl, im, dm, em, vm, lm, _⟩, rfl⟩
      repeat' (first
    | ((with_reducible first | refine optP_id ?_ | refine condP_id ?_ | refine resP_id ?_ | refine callT_of ?_); conv => { arg 1; simp (disch := first | assumption | omega) only [push_cast, ↓reduceIte, reduceIte, Nat.reduceEqDiff, Nat.reduceAdd, Nat.reduceSub, Nat.reduceMul, Nat.reduceBEq, Int.reduceNeg] }; first | ((with_reducible refine optP_id ?_); refine optP_some ?_) | ((with_reducible refine condP_id ?_); first | refine qcy ?_ | refine qcx ?_ | refine qco ?_ | refine condP_decn (fun hc => ?_) (fun hc => ?_) | refine condP_dec (fun hc => ?_) (fun hc => ?_) | refine qct ?_ | refine qcf ?_ | refine condP_bool (fun hc => ?_) (fun hc => ?_)) | ((with_reducible refine resP_id ?_); refine resP_one ?_) | ((with_reducible refine callT_to ?_); refine callP_plain ?_))
    | refine wk_seq ?_ | refine wk_region ?_ | refine wk_block ?_ | refine wk_inBlock ?_ | refine wk_skip ?_ | refine wk_draw (by kernel_rfl) (by decide +kernel) ?_ | refine wo_nil ?_ | refine wk_exit ?_ | refine exitK_code ?_ | refine exitK_hit ?_ | refine exitK_miss rfl ?_ | refine exitK_inLoop ?_ | refine wk_cond ?_ | refine wk_ret ?_ | refine wk_nil ?_ | refine wo_dst rfl (opR_call ?_) | refine wo_nodst (opR_call ?_) | refine wo_dst rfl (opR_pure ?_) | refine wo_nodst (opR_pure ?_)
    | refine give_ret ?_ | refine give_end ?_)
      exact ⟨⟨m, am, cm, rfl, im, dm, em, by rw [vm, vO2], by omega⟩, gr2⟩
theorem pw_lt (a b c : Nat) : 30 ^ a * 20 ^ b * 12 ^ c < 60 ^ (a + b + c + 1) := by
  have h1 : 30 ^ a ≤ 60 ^ a := Nat.pow_le_pow_left (by decide) a
  have h2 : 20 ^ b ≤ 60 ^ b := Nat.pow_le_pow_left (by decide) b
  have h3 : 12 ^ c ≤ 60 ^ c := Nat.pow_le_pow_left (by decide) c
  have h4 := Nat.mul_le_mul (Nat.mul_le_mul h1 h2) h3
  rw [← Nat.pow_add, ← Nat.pow_add] at h4
  exact Nat.lt_of_le_of_lt h4 ((Nat.pow_lt_pow_iff_right (by decide)).2 (by omega))
set_option maxRecDepth 100000 in
set_option maxHeartbeats 8000000 in
theorem turned_w (a b c : Nat) (hl : a + b + c ≤ 130) (h : AHeap) :
    Wc pr (.func 86) [.int .i64 (a : Int), .int .i64 (b : Int), .int .i64 (c : Int)] h fun r h' => (∃ d q k, r = .slice q d.length k ∧ IIn h' (.slice q d.length k) d ∧ nf (30 ^ a * 20 ^ b * 12 ^ c) d) ∧ Gr h h' := by
  refine wc_func Tryz.func86 rfl rfl rfl rfl ?_
  repeat' (first
    | ((with_reducible first | refine optP_id ?_ | refine condP_id ?_ | refine resP_id ?_ | refine callT_of ?_); conv => { arg 1; simp (disch := first | assumption | omega) only [push_cast, ↓reduceIte, reduceIte, Nat.reduceEqDiff, Nat.reduceAdd, Nat.reduceSub, Nat.reduceMul, Nat.reduceBEq, Int.reduceNeg] }; first | ((with_reducible refine optP_id ?_); refine optP_some ?_) | ((with_reducible refine condP_id ?_); first | refine qcy ?_ | refine qcx ?_ | refine qco ?_ | refine condP_decn (fun hc => ?_) (fun hc => ?_) | refine condP_dec (fun hc => ?_) (fun hc => ?_) | refine qct ?_ | refine qcf ?_ | refine condP_bool (fun hc => ?_) (fun hc => ?_)) | ((with_reducible refine resP_id ?_); refine resP_one ?_) | ((with_reducible refine callT_to ?_); refine callP_plain ?_))
    | refine wk_seq ?_ | refine wk_region ?_ | refine wk_block ?_ | refine wk_inBlock ?_ | refine wk_skip ?_ | refine wo_nil ?_ | refine wk_exit ?_ | refine exitK_code ?_ | refine exitK_hit ?_ | refine exitK_miss rfl ?_ | refine exitK_inLoop ?_ | refine wk_cond ?_ | refine wk_ret ?_ | refine wk_nil ?_ | refine wo_dst rfl (opR_call ?_) | refine wo_nodst (opR_call ?_) | refine wo_dst rfl (opR_pure ?_) | refine wo_nodst (opR_pure ?_)
    | refine give_ret ?_ | refine give_end ?_)
  refine (bigof_w 1 (by decide) _).mono ?_
  rintro _ h1 ⟨⟨o, bo, rfl, io, do', no, vo, lo⟩, g1⟩; have n1 := g1.1; have k1 := g1.2; try simp only [next_new, next_set] at n1 k1
  have lo1 : o.length ≤ 1 := noEnd_le do' no (by rw [vo]; decide)
  repeat' (first
    | ((with_reducible first | refine optP_id ?_ | refine condP_id ?_ | refine resP_id ?_ | refine callT_of ?_); conv => { arg 1; simp (disch := first | assumption | omega) only [push_cast, ↓reduceIte, reduceIte, Nat.reduceEqDiff, Nat.reduceAdd, Nat.reduceSub, Nat.reduceMul, Nat.reduceBEq, Int.reduceNeg, k1] }; first | ((with_reducible refine optP_id ?_); refine optP_some ?_) | ((with_reducible refine condP_id ?_); first | refine qcy ?_ | refine qcx ?_ | refine qco ?_ | refine condP_decn (fun hc => ?_) (fun hc => ?_) | refine condP_dec (fun hc => ?_) (fun hc => ?_) | refine qct ?_ | refine qcf ?_ | refine condP_bool (fun hc => ?_) (fun hc => ?_)) | ((with_reducible refine resP_id ?_); refine resP_one ?_) | ((with_reducible refine callT_to ?_); refine callP_plain ?_))
    | refine wk_seq ?_ | refine wk_region ?_ | refine wk_block ?_ | refine wk_inBlock ?_ | refine wk_skip ?_ | refine wo_nil ?_ | refine wk_exit ?_ | refine exitK_code ?_ | refine exitK_hit ?_ | refine exitK_miss rfl ?_ | refine exitK_inLoop ?_ | refine wk_cond ?_ | refine wk_ret ?_ | refine wk_nil ?_ | refine wo_dst rfl (opR_call ?_) | refine wo_nodst (opR_call ?_) | refine wo_dst rfl (opR_pure ?_) | refine wo_nodst (opR_pure ?_)
    | refine give_ret ?_ | refine give_end ?_)
  refine wk_loop (fun n E H => ∃ (i : Nat) (x : List Int) (q : Option Addr) (k : Nat), n = a - i ∧ i ≤ a ∧ Gr h H ∧ digs x ∧ noEnd x ∧ x.length ≤ i + 1 ∧ leN x = 30 ^ i ∧ IIn H (.slice q x.length k) x ∧ E.look 0 top = .int .i64 (a : Int) ∧ E.look 1 top = .int .i64 (b : Int) ∧ E.look 2 top = .int .i64 (c : Int) ∧ E.look 7 top = .slice q x.length k ∧ E.look 8 top = .int .i64 (i : Int)) a
    ⟨0, o, _, _, rfl, by omega, by (repeat (first | exact Gr.refl _ | assumption | (refine Gr.trans ?_ (by assumption)) | refine Gr.set ?_ (by first | exact Nat.le_refl _ | omega | (simp only [next_new, next_set]; omega)) _ | refine Gr.new ?_ _)), do', no, by omega, by rw [vo, Nat.pow_zero], io, by simp (disch := first | assumption | omega) only [push_cast, ↓reduceIte, reduceIte, Nat.reduceEqDiff, Nat.reduceAdd, Nat.reduceSub, Nat.reduceMul, Nat.reduceBEq, Int.reduceNeg], by simp (disch := first | assumption | omega) only [push_cast, ↓reduceIte, reduceIte, Nat.reduceEqDiff, Nat.reduceAdd, Nat.reduceSub, Nat.reduceMul, Nat.reduceBEq, Int.reduceNeg], by simp (disch := first | assumption | omega) only [push_cast, ↓reduceIte, reduceIte, Nat.reduceEqDiff, Nat.reduceAdd, Nat.reduceSub, Nat.reduceMul, Nat.reduceBEq, Int.reduceNeg], by simp (disch := first | assumption | omega) only [push_cast, ↓reduceIte, reduceIte, Nat.reduceEqDiff, Nat.reduceAdd, Nat.reduceSub, Nat.reduceMul, Nat.reduceBEq, Int.reduceNeg], by simp (disch := first | assumption | omega) only [push_cast, ↓reduceIte, reduceIte, Nat.reduceEqDiff, Nat.reduceAdd, Nat.reduceSub, Nat.reduceMul, Nat.reduceBEq, Int.reduceNeg, Int.natCast_zero]⟩ ?_
  rintro n E H ⟨i, x, q, k, rfl, hi, gr, dx, nx, lx, vx, hx, e0, e1, e2, e7, e8⟩ next
  have gn := gr.1
  by_cases hlt : i < a
  · have ilt : (i : Int) < (a : Int) := by omega
    repeat' (first
    | ((with_reducible first | refine optP_id ?_ | refine condP_id ?_ | refine resP_id ?_ | refine callT_of ?_); conv => { arg 1; simp (disch := first | assumption | omega) only [push_cast, ↓reduceIte, reduceIte, Nat.reduceEqDiff, Nat.reduceAdd, Nat.reduceSub, Nat.reduceMul, Nat.reduceBEq, Int.reduceNeg, e0, e1, e2, e7, e8] }; first | ((with_reducible refine optP_id ?_); refine optP_some ?_) | ((with_reducible refine condP_id ?_); first | refine qcy ?_ | refine qcx ?_ | refine qco ?_ | refine condP_decn (fun hc => ?_) (fun hc => ?_) | refine condP_dec (fun hc => ?_) (fun hc => ?_) | refine qct ?_ | refine qcf ?_ | refine condP_bool (fun hc => ?_) (fun hc => ?_)) | ((with_reducible refine resP_id ?_); refine resP_one ?_) | ((with_reducible refine callT_to ?_); refine callP_plain ?_))
    | refine wk_seq ?_ | refine wk_region ?_ | refine wk_block ?_ | refine wk_inBlock ?_ | refine wk_skip ?_ | refine wo_nil ?_ | refine wk_exit ?_ | refine exitK_code ?_ | refine exitK_hit ?_ | refine exitK_miss rfl ?_ | refine exitK_inLoop ?_ | refine wk_cond ?_ | refine wk_ret ?_ | refine wk_nil ?_ | refine wo_dst rfl (opR_call ?_) | refine wo_nodst (opR_call ?_) | refine wo_dst rfl (opR_pure ?_) | refine wo_nodst (opR_pure ?_)
    | refine give_ret ?_ | refine give_end ?_)
    refine (bigof_w 30 (by decide) _).mono ?_
    rintro _ h2 ⟨⟨u, bu, rfl, iu, du, nu, vu, lu⟩, g2⟩; have n2 := g2.1; have k2 := g2.2; try simp only [next_new, next_set] at n2 k2
    repeat' (first
    | ((with_reducible first | refine optP_id ?_ | refine condP_id ?_ | refine resP_id ?_ | refine callT_of ?_); conv => { arg 1; simp (disch := first | assumption | omega) only [push_cast, ↓reduceIte, reduceIte, Nat.reduceEqDiff, Nat.reduceAdd, Nat.reduceSub, Nat.reduceMul, Nat.reduceBEq, Int.reduceNeg, e0, e1, e2, e7, e8] }; first | ((with_reducible refine optP_id ?_); refine optP_some ?_) | ((with_reducible refine condP_id ?_); first | refine qcy ?_ | refine qcx ?_ | refine qco ?_ | refine condP_decn (fun hc => ?_) (fun hc => ?_) | refine condP_dec (fun hc => ?_) (fun hc => ?_) | refine qct ?_ | refine qcf ?_ | refine condP_bool (fun hc => ?_) (fun hc => ?_)) | ((with_reducible refine resP_id ?_); refine resP_one ?_) | ((with_reducible refine callT_to ?_); refine callP_plain ?_))
    | refine wk_seq ?_ | refine wk_region ?_ | refine wk_block ?_ | refine wk_inBlock ?_ | refine wk_skip ?_ | refine wo_nil ?_ | refine wk_exit ?_ | refine exitK_code ?_ | refine exitK_hit ?_ | refine exitK_miss rfl ?_ | refine exitK_inLoop ?_ | refine wk_cond ?_ | refine wk_ret ?_ | refine wk_nil ?_ | refine wo_dst rfl (opR_call ?_) | refine wo_nodst (opR_call ?_) | refine wo_dst rfl (opR_pure ?_) | refine wo_nodst (opR_pure ?_)
    | refine give_ret ?_ | refine give_end ?_)
    refine (rtimes2_w x u dx du (by omega) (by omega) _ _ _ (SlIn.gr hx (by (repeat (first | exact Gr.refl _ | assumption | (refine Gr.trans ?_ (by assumption)) | refine Gr.set ?_ (by first | exact Nat.le_refl _ | omega | (simp only [next_new, next_set]; omega)) _ | refine Gr.new ?_ _)))) iu).mono ?_
    rintro _ h3 ⟨⟨x2, q2, k2', rfl, i2, d2, n2', v2, l2⟩, g3⟩; have n3 := g3.1; have k3 := g3.2; try simp only [next_new, next_set] at n3 k3
    have v2' : leN x2 = 30 ^ (i + 1) := by rw [v2, vx, vu, Nat.pow_succ]
    have l2' : x2.length ≤ (i + 1) + 1 := noEnd_le d2 n2' (by rw [v2']; have := pw_lt (i + 1) 0 0; simp only [Nat.pow_zero, Nat.mul_one, Nat.add_zero] at this; exact this)
    repeat' (first
    | ((with_reducible first | refine optP_id ?_ | refine condP_id ?_ | refine resP_id ?_ | refine callT_of ?_); conv => { arg 1; simp (disch := first | assumption | omega) only [push_cast, ↓reduceIte, reduceIte, Nat.reduceEqDiff, Nat.reduceAdd, Nat.reduceSub, Nat.reduceMul, Nat.reduceBEq, Int.reduceNeg, e0, e1, e2, e7, e8] }; first | ((with_reducible refine optP_id ?_); refine optP_some ?_) | ((with_reducible refine condP_id ?_); first | refine qcy ?_ | refine qcx ?_ | refine qco ?_ | refine condP_decn (fun hc => ?_) (fun hc => ?_) | refine condP_dec (fun hc => ?_) (fun hc => ?_) | refine qct ?_ | refine qcf ?_ | refine condP_bool (fun hc => ?_) (fun hc => ?_)) | ((with_reducible refine resP_id ?_); refine resP_one ?_) | ((with_reducible refine callT_to ?_); refine callP_plain ?_))
    | refine wk_seq ?_ | refine wk_region ?_ | refine wk_block ?_ | refine wk_inBlock ?_ | refine wk_skip ?_ | refine wo_nil ?_ | refine wk_exit ?_ | refine exitK_code ?_ | refine exitK_hit ?_ | refine exitK_miss rfl ?_ | refine exitK_inLoop ?_ | refine wk_cond ?_ | refine wk_ret ?_ | refine wk_nil ?_ | refine wo_dst rfl (opR_call ?_) | refine wo_nodst (opR_call ?_) | refine wo_dst rfl (opR_pure ?_) | refine wo_nodst (opR_pure ?_)
    | refine give_ret ?_ | refine give_end ?_)
    exact next (a - (i + 1)) _ _ (by omega) ⟨i + 1, x2, q2, k2', rfl, by omega, by (repeat (first | exact Gr.refl _ | assumption | (refine Gr.trans ?_ (by assumption)) | refine Gr.set ?_ (by first | exact Nat.le_refl _ | omega | (simp only [next_new, next_set]; omega)) _ | refine Gr.new ?_ _)), d2, n2', l2', v2', i2, by simp (disch := first | assumption | omega) only [push_cast, ↓reduceIte, reduceIte, Nat.reduceEqDiff, Nat.reduceAdd, Nat.reduceSub, Nat.reduceMul, Nat.reduceBEq, Int.reduceNeg, e0], by simp (disch := first | assumption | omega) only [push_cast, ↓reduceIte, reduceIte, Nat.reduceEqDiff, Nat.reduceAdd, Nat.reduceSub, Nat.reduceMul, Nat.reduceBEq, Int.reduceNeg, e1], by simp (disch := first | assumption | omega) only [push_cast, ↓reduceIte, reduceIte, Nat.reduceEqDiff, Nat.reduceAdd, Nat.reduceSub, Nat.reduceMul, Nat.reduceBEq, Int.reduceNeg, e2], by simp (disch := first | assumption | omega) only [push_cast, ↓reduceIte, reduceIte, Nat.reduceEqDiff, Nat.reduceAdd, Nat.reduceSub, Nat.reduceMul, Nat.reduceBEq, Int.reduceNeg], by simp (disch := first | assumption | omega) only [push_cast, ↓reduceIte, reduceIte, Nat.reduceEqDiff, Nat.reduceAdd, Nat.reduceSub, Nat.reduceMul, Nat.reduceBEq, Int.reduceNeg, Int.natCast_add, Int.natCast_one]⟩
  have ilt : ¬ (i : Int) < (a : Int) := by omega
  obtain rfl : i = a := by omega
  clear next
  repeat' (first
    | ((with_reducible first | refine optP_id ?_ | refine condP_id ?_ | refine resP_id ?_ | refine callT_of ?_); conv => { arg 1; simp (disch := first | assumption | omega) only [push_cast, ↓reduceIte, reduceIte, Nat.reduceEqDiff, Nat.reduceAdd, Nat.reduceSub, Nat.reduceMul, Nat.reduceBEq, Int.reduceNeg, e0, e1, e2, e7, e8] }; first | ((with_reducible refine optP_id ?_); refine optP_some ?_) | ((with_reducible refine condP_id ?_); first | refine qcy ?_ | refine qcx ?_ | refine qco ?_ | refine condP_decn (fun hc => ?_) (fun hc => ?_) | refine condP_dec (fun hc => ?_) (fun hc => ?_) | refine qct ?_ | refine qcf ?_ | refine condP_bool (fun hc => ?_) (fun hc => ?_)) | ((with_reducible refine resP_id ?_); refine resP_one ?_) | ((with_reducible refine callT_to ?_); refine callP_plain ?_))
    | refine wk_seq ?_ | refine wk_region ?_ | refine wk_block ?_ | refine wk_inBlock ?_ | refine wk_skip ?_ | refine wo_nil ?_ | refine wk_exit ?_ | refine exitK_code ?_ | refine exitK_hit ?_ | refine exitK_miss rfl ?_ | refine exitK_inLoop ?_ | refine wk_cond ?_ | refine wk_ret ?_ | refine wk_nil ?_ | refine wo_dst rfl (opR_call ?_) | refine wo_nodst (opR_call ?_) | refine wo_dst rfl (opR_pure ?_) | refine wo_nodst (opR_pure ?_)
    | refine give_ret ?_ | refine give_end ?_)
  refine wk_loop (fun n E H => ∃ (j : Nat) (x : List Int) (q : Option Addr) (k : Nat), n = b - j ∧ j ≤ b ∧ Gr h H ∧ digs x ∧ noEnd x ∧ x.length ≤ i + j + 1 ∧ leN x = 30 ^ i * 20 ^ j ∧ IIn H (.slice q x.length k) x ∧ E.look 1 top = .int .i64 (b : Int) ∧ E.look 2 top = .int .i64 (c : Int) ∧ E.look 7 top = .slice q x.length k ∧ E.look 9 top = .int .i64 (j : Int)) b
    ⟨0, x, q, k, rfl, by omega, gr, dx, nx, by omega, by rw [vx, Nat.pow_zero, Nat.mul_one], hx, by simp (disch := first | assumption | omega) only [push_cast, ↓reduceIte, reduceIte, Nat.reduceEqDiff, Nat.reduceAdd, Nat.reduceSub, Nat.reduceMul, Nat.reduceBEq, Int.reduceNeg, e1], by simp (disch := first | assumption | omega) only [push_cast, ↓reduceIte, reduceIte, Nat.reduceEqDiff, Nat.reduceAdd, Nat.reduceSub, Nat.reduceMul, Nat.reduceBEq, Int.reduceNeg, e2], by simp (disch := first | assumption | omega) only [push_cast, ↓reduceIte, reduceIte, Nat.reduceEqDiff, Nat.reduceAdd, Nat.reduceSub, Nat.reduceMul, Nat.reduceBEq, Int.reduceNeg, e7], by simp (disch := first | assumption | omega) only [push_cast, ↓reduceIte, reduceIte, Nat.reduceEqDiff, Nat.reduceAdd, Nat.reduceSub, Nat.reduceMul, Nat.reduceBEq, Int.reduceNeg, Int.natCast_zero]⟩ ?_
  clear e0 e1 e2 e7 e8 hx dx nx lx vx gr
  rintro n E H ⟨j, x, q, k, rfl, hj, gr, dx, nx, lx, vx, hx, e1, e2, e7, e9⟩ next
  have gn := gr.1
  by_cases hlt : j < b
  · have jlt : (j : Int) < (b : Int) := by omega
    repeat' (first
    | ((with_reducible first | refine optP_id ?_ | refine condP_id ?_ | refine resP_id ?_ | refine callT_of ?_); conv => { arg 1; simp (disch := first | assumption | omega) only [push_cast, ↓reduceIte, reduceIte, Nat.reduceEqDiff, Nat.reduceAdd, Nat.reduceSub, Nat.reduceMul, Nat.reduceBEq, Int.reduceNeg, e1, e2, e7, e9] }; first | ((with_reducible refine optP_id ?_); refine optP_some ?_) | ((with_reducible refine condP_id ?_); first | refine qcy ?_ | refine qcx ?_ | refine qco ?_ | refine condP_decn (fun hc => ?_) (fun hc => ?_) | refine condP_dec (fun hc => ?_) (fun hc => ?_) | refine qct ?_ | refine qcf ?_ | refine condP_bool (fun hc => ?_) (fun hc => ?_)) | ((with_reducible refine resP_id ?_); refine resP_one ?_) | ((with_reducible refine callT_to ?_); refine callP_plain ?_))
    | refine wk_seq ?_ | refine wk_region ?_ | refine wk_block ?_ | refine wk_inBlock ?_ | refine wk_skip ?_ | refine wo_nil ?_ | refine wk_exit ?_ | refine exitK_code ?_ | refine exitK_hit ?_ | refine exitK_miss rfl ?_ | refine exitK_inLoop ?_ | refine wk_cond ?_ | refine wk_ret ?_ | refine wk_nil ?_ | refine wo_dst rfl (opR_call ?_) | refine wo_nodst (opR_call ?_) | refine wo_dst rfl (opR_pure ?_) | refine wo_nodst (opR_pure ?_)
    | refine give_ret ?_ | refine give_end ?_)
    refine (bigof_w 20 (by decide) _).mono ?_
    rintro _ h2 ⟨⟨u, bu, rfl, iu, du, nu, vu, lu⟩, g2⟩; have n2 := g2.1; have k2 := g2.2; try simp only [next_new, next_set] at n2 k2
    repeat' (first
    | ((with_reducible first | refine optP_id ?_ | refine condP_id ?_ | refine resP_id ?_ | refine callT_of ?_); conv => { arg 1; simp (disch := first | assumption | omega) only [push_cast, ↓reduceIte, reduceIte, Nat.reduceEqDiff, Nat.reduceAdd, Nat.reduceSub, Nat.reduceMul, Nat.reduceBEq, Int.reduceNeg, e1, e2, e7, e9] }; first | ((with_reducible refine optP_id ?_); refine optP_some ?_) | ((with_reducible refine condP_id ?_); first | refine qcy ?_ | refine qcx ?_ | refine qco ?_ | refine condP_decn (fun hc => ?_) (fun hc => ?_) | refine condP_dec (fun hc => ?_) (fun hc => ?_) | refine qct ?_ | refine qcf ?_ | refine condP_bool (fun hc => ?_) (fun hc => ?_)) | ((with_reducible refine resP_id ?_); refine resP_one ?_) | ((with_reducible refine callT_to ?_); refine callP_plain ?_))
    | refine wk_seq ?_ | refine wk_region ?_ | refine wk_block ?_ | refine wk_inBlock ?_ | refine wk_skip ?_ | refine wo_nil ?_ | refine wk_exit ?_ | refine exitK_code ?_ | refine exitK_hit ?_ | refine exitK_miss rfl ?_ | refine exitK_inLoop ?_ | refine wk_cond ?_ | refine wk_ret ?_ | refine wk_nil ?_ | refine wo_dst rfl (opR_call ?_) | refine wo_nodst (opR_call ?_) | refine wo_dst rfl (opR_pure ?_) | refine wo_nodst (opR_pure ?_)
    | refine give_ret ?_ | refine give_end ?_)
    refine (rtimes2_w x u dx du (by omega) (by omega) _ _ _ (SlIn.gr hx (by (repeat (first | exact Gr.refl _ | assumption | (refine Gr.trans ?_ (by assumption)) | refine Gr.set ?_ (by first | exact Nat.le_refl _ | omega | (simp only [next_new, next_set]; omega)) _ | refine Gr.new ?_ _)))) iu).mono ?_
    rintro _ h3 ⟨⟨x2, q2, k2', rfl, i2, d2, n2', v2, l2⟩, g3⟩; have n3 := g3.1; have k3 := g3.2; try simp only [next_new, next_set] at n3 k3
    have v2' : leN x2 = 30 ^ i * 20 ^ (j + 1) := by rw [v2, vx, vu, Nat.pow_succ, Nat.mul_assoc]
    have l2' : x2.length ≤ i + (j + 1) + 1 := noEnd_le d2 n2' (by rw [v2']; have := pw_lt i (j + 1) 0; rw [Nat.pow_zero, Nat.mul_one] at this; exact this)
    repeat' (first
    | ((with_reducible first | refine optP_id ?_ | refine condP_id ?_ | refine resP_id ?_ | refine callT_of ?_); conv => { arg 1; simp (disch := first | assumption | omega) only [push_cast, ↓reduceIte, reduceIte, Nat.reduceEqDiff, Nat.reduceAdd, Nat.reduceSub, Nat.reduceMul, Nat.reduceBEq, Int.reduceNeg, e1, e2, e7, e9] }; first | ((with_reducible refine optP_id ?_); refine optP_some ?_) | ((with_reducible refine condP_id ?_); first | refine qcy ?_ | refine qcx ?_ | refine qco ?_ | refine condP_decn (fun hc => ?_) (fun hc => ?_) | refine condP_dec (fun hc => ?_) (fun hc => ?_) | refine qct ?_ | refine qcf ?_ | refine condP_bool (fun hc => ?_) (fun hc => ?_)) | ((with_reducible refine resP_id ?_); refine resP_one ?_) | ((with_reducible refine callT_to ?_); refine callP_plain ?_))
    | refine wk_seq ?_ | refine wk_region ?_ | refine wk_block ?_ | refine wk_inBlock ?_ | refine wk_skip ?_ | refine wo_nil ?_ | refine wk_exit ?_ | refine exitK_code ?_ | refine exitK_hit ?_ | refine exitK_miss rfl ?_ | refine exitK_inLoop ?_ | refine wk_cond ?_ | refine wk_ret ?_ | refine wk_nil ?_ | refine wo_dst rfl (opR_call ?_) | refine wo_nodst (opR_call ?_) | refine wo_dst rfl (opR_pure ?_) | refine wo_nodst (opR_pure ?_)
    | refine give_ret ?_ | refine give_end ?_)
    exact next (b - (j + 1)) _ _ (by omega) ⟨j + 1, x2, q2, k2', rfl, by omega, by (repeat (first | exact Gr.refl _ | assumption | (refine Gr.trans ?_ (by assumption)) | refine Gr.set ?_ (by first | exact Nat.le_refl _ | omega | (simp only [next_new, next_set]; omega)) _ | refine Gr.new ?_ _)), d2, n2', l2', v2', i2, by simp (disch := first | assumption | omega) only [push_cast, ↓reduceIte, reduceIte, Nat.reduceEqDiff, Nat.reduceAdd, Nat.reduceSub, Nat.reduceMul, Nat.reduceBEq, Int.reduceNeg, e1], by simp (disch := first | assumption | omega) only [push_cast, ↓reduceIte, reduceIte, Nat.reduceEqDiff, Nat.reduceAdd, Nat.reduceSub, Nat.reduceMul, Nat.reduceBEq, Int.reduceNeg, e2], by simp (disch := first | assumption | omega) only [push_cast, ↓reduceIte, reduceIte, Nat.reduceEqDiff, Nat.reduceAdd, Nat.reduceSub, Nat.reduceMul, Nat.reduceBEq, Int.reduceNeg], by simp (disch := first | assumption | omega) only [push_cast, ↓reduceIte, reduceIte, Nat.reduceEqDiff, Nat.reduceAdd, Nat.reduceSub, Nat.reduceMul, Nat.reduceBEq, Int.reduceNeg, Int.natCast_add, Int.natCast_one]⟩
  have jlt : ¬ (j : Int) < (b : Int) := by omega
  obtain rfl : j = b := by omega
  clear next
  repeat' (first
    | ((with_reducible first | refine optP_id ?_ | refine condP_id ?_ | refine resP_id ?_ | refine callT_of ?_); conv => { arg 1; simp (disch := first | assumption | omega) only [push_cast, ↓reduceIte, reduceIte, Nat.reduceEqDiff, Nat.reduceAdd, Nat.reduceSub, Nat.reduceMul, Nat.reduceBEq, Int.reduceNeg, e1, e2, e7, e9] }; first | ((with_reducible refine optP_id ?_); refine optP_some ?_) | ((with_reducible refine condP_id ?_); first | refine qcy ?_ | refine qcx ?_ | refine qco ?_ | refine condP_decn (fun hc => ?_) (fun hc => ?_) | refine condP_dec (fun hc => ?_) (fun hc => ?_) | refine qct ?_ | refine qcf ?_ | refine condP_bool (fun hc => ?_) (fun hc => ?_)) | ((with_reducible refine resP_id ?_); refine resP_one ?_) | ((with_reducible refine callT_to ?_); refine callP_plain ?_))
    | refine wk_seq ?_ | refine wk_region ?_ | refine wk_block ?_ | refine wk_inBlock ?_ | refine wk_skip ?_ | refine wo_nil ?_ | refine wk_exit ?_ | refine exitK_code ?_ | refine exitK_hit ?_ | refine exitK_miss rfl ?_ | refine exitK_inLoop ?_ | refine wk_cond ?_ | refine wk_ret ?_ | refine wk_nil ?_ | refine wo_dst rfl (opR_call ?_) | refine wo_nodst (opR_call ?_) | refine wo_dst rfl (opR_pure ?_) | refine wo_nodst (opR_pure ?_)
    | refine give_ret ?_ | refine give_end ?_)
  refine wk_loop (fun n E H => ∃ (m : Nat) (x : List Int) (q : Option Addr) (k : Nat), n = c - m ∧ m ≤ c ∧ Gr h H ∧ digs x ∧ noEnd x ∧ x.length ≤ i + j + m + 1 ∧ leN x = 30 ^ i * 20 ^ j * 12 ^ m ∧ IIn H (.slice q x.length k) x ∧ E.look 2 top = .int .i64 (c : Int) ∧ E.look 7 top = .slice q x.length k ∧ E.look 10 top = .int .i64 (m : Int)) c
    ⟨0, x, q, k, rfl, by omega, gr, dx, nx, by omega, by rw [vx, Nat.pow_zero, Nat.mul_one], hx, by simp (disch := first | assumption | omega) only [push_cast, ↓reduceIte, reduceIte, Nat.reduceEqDiff, Nat.reduceAdd, Nat.reduceSub, Nat.reduceMul, Nat.reduceBEq, Int.reduceNeg, e2], by simp (disch := first | assumption | omega) only [push_cast, ↓reduceIte, reduceIte, Nat.reduceEqDiff, Nat.reduceAdd, Nat.reduceSub, Nat.reduceMul, Nat.reduceBEq, Int.reduceNeg, e7], by simp (disch := first | assumption | omega) only [push_cast, ↓reduceIte, reduceIte, Nat.reduceEqDiff, Nat.reduceAdd, Nat.reduceSub, Nat.reduceMul, Nat.reduceBEq, Int.reduceNeg, Int.natCast_zero]⟩ ?_
  clear e1 e2 e7 e9 hx dx nx lx vx gr
  rintro n E H ⟨m, x, q, k, rfl, hm, gr, dx, nx, lx, vx, hx, e2, e7, e10⟩ next
  have gn := gr.1
  by_cases hlt : m < c
  · have mlt : (m : Int) < (c : Int) := by omega
    repeat' (first
    | ((with_reducible first | refine optP_id ?_ | refine condP_id ?_ | refine resP_id ?_ | refine callT_of ?_); conv => { arg 1; simp (disch := first | assumption | omega) only [push_cast, ↓reduceIte, reduceIte, Nat.reduceEqDiff, Nat.reduceAdd, Nat.reduceSub, Nat.reduceMul, Nat.reduceBEq, Int.reduceNeg, e2, e7, e10] }; first | ((with_reducible refine optP_id ?_); refine optP_some ?_) | ((with_reducible refine condP_id ?_); first | refine qcy ?_ | refine qcx ?_ | refine qco ?_ | refine condP_decn (fun hc => ?_) (fun hc => ?_) | refine condP_dec (fun hc => ?_) (fun hc => ?_) | refine qct ?_ | refine qcf ?_ | refine condP_bool (fun hc => ?_) (fun hc => ?_)) | ((with_reducible refine resP_id ?_); refine resP_one ?_) | ((with_reducible refine callT_to ?_); refine callP_plain ?_))
    | refine wk_seq ?_ | refine wk_region ?_ | refine wk_block ?_ | refine wk_inBlock ?_ | refine wk_skip ?_ | refine wo_nil ?_ | refine wk_exit ?_ | refine exitK_code ?_ | refine exitK_hit ?_ | refine exitK_miss rfl ?_ | refine exitK_inLoop ?_ | refine wk_cond ?_ | refine wk_ret ?_ | refine wk_nil ?_ | refine wo_dst rfl (opR_call ?_) | refine wo_nodst (opR_call ?_) | refine wo_dst rfl (opR_pure ?_) | refine wo_nodst (opR_pure ?_)
    | refine give_ret ?_ | refine give_end ?_)
    refine (bigof_w 12 (by decide) _).mono ?_
    rintro _ h2 ⟨⟨u, bu, rfl, iu, du, nu, vu, lu⟩, g2⟩; have n2 := g2.1; have k2 := g2.2; try simp only [next_new, next_set] at n2 k2
    repeat' (first
    | ((with_reducible first | refine optP_id ?_ | refine condP_id ?_ | refine resP_id ?_ | refine callT_of ?_); conv => { arg 1; simp (disch := first | assumption | omega) only [push_cast, ↓reduceIte, reduceIte, Nat.reduceEqDiff, Nat.reduceAdd, Nat.reduceSub, Nat.reduceMul, Nat.reduceBEq, Int.reduceNeg, e2, e7, e10] }; first | ((with_reducible refine optP_id ?_); refine optP_some ?_) | ((with_reducible refine condP_id ?_); first | refine qcy ?_ | refine qcx ?_ | refine qco ?_ | refine condP_decn (fun hc => ?_) (fun hc => ?_) | refine condP_dec (fun hc => ?_) (fun hc => ?_) | refine qct ?_ | refine qcf ?_ | refine condP_bool (fun hc => ?_) (fun hc => ?_)) | ((with_reducible refine resP_id ?_); refine resP_one ?_) | ((with_reducible refine callT_to ?_); refine callP_plain ?_))
    | refine wk_seq ?_ | refine wk_region ?_ | refine wk_block ?_ | refine wk_inBlock ?_ | refine wk_skip ?_ | refine wo_nil ?_ | refine wk_exit ?_ | refine exitK_code ?_ | refine exitK_hit ?_ | refine exitK_miss rfl ?_ | refine exitK_inLoop ?_ | refine wk_cond ?_ | refine wk_ret ?_ | refine wk_nil ?_ | refine wo_dst rfl (opR_call ?_) | refine wo_nodst (opR_call ?_) | refine wo_dst rfl (opR_pure ?_) | refine wo_nodst (opR_pure ?_)
    | refine give_ret ?_ | refine give_end ?_)
    refine (rtimes2_w x u dx du (by omega) (by omega) _ _ _ (SlIn.gr hx (by (repeat (first | exact Gr.refl _ | assumption | (refine Gr.trans ?_ (by assumption)) | refine Gr.set ?_ (by first | exact Nat.le_refl _ | omega | (simp only [next_new, next_set]; omega)) _ | refine Gr.new ?_ _)))) iu).mono ?_
    rintro _ h3 ⟨⟨x2, q2, k2', rfl, i2, d2, n2', v2, l2⟩, g3⟩; have n3 := g3.1; have k3 := g3.2; try simp only [next_new, next_set] at n3 k3
    have v2' : leN x2 = 30 ^ i * 20 ^ j * 12 ^ (m + 1) := by rw [v2, vx, vu, Nat.pow_succ, Nat.mul_assoc]
    have l2' : x2.length ≤ i + j + (m + 1) + 1 := noEnd_le d2 n2' (by rw [v2']; exact pw_lt i j (m + 1))
    repeat' (first
    | ((with_reducible first | refine optP_id ?_ | refine condP_id ?_ | refine resP_id ?_ | refine callT_of ?_); conv => { arg 1; simp (disch := first | assumption | omega) only [push_cast, ↓reduceIte, reduceIte, Nat.reduceEqDiff, Nat.reduceAdd, Nat.reduceSub, Nat.reduceMul, Nat.reduceBEq, Int.reduceNeg, e2, e7, e10] }; first | ((with_reducible refine optP_id ?_); refine optP_some ?_) | ((with_reducible refine condP_id ?_); first | refine qcy ?_ | refine qcx ?_ | refine qco ?_ | refine condP_decn (fun hc => ?_) (fun hc => ?_) | refine condP_dec (fun hc => ?_) (fun hc => ?_) | refine qct ?_ | refine qcf ?_ | refine condP_bool (fun hc => ?_) (fun hc => ?_)) | ((with_reducible refine resP_id ?_); refine resP_one ?_) | ((with_reducible refine callT_to ?_); refine callP_plain ?_))
    | refine wk_seq ?_ | refine wk_region ?_ | refine wk_block ?_ | refine wk_inBlock ?_ | refine wk_skip ?_ | refine wo_nil ?_ | refine wk_exit ?_ | refine exitK_code ?_ | refine exitK_hit ?_ | refine exitK_miss rfl ?_ | refine exitK_inLoop ?_ | refine wk_cond ?_ | refine wk_ret ?_ | refine wk_nil ?_ | refine wo_dst rfl (opR_call ?_) | refine wo_nodst (opR_call ?_) | refine wo_dst rfl (opR_pure ?_) | refine wo_nodst (opR_pure ?_)
    | refine give_ret ?_ | refine give_end ?_)
    exact next (c - (m + 1)) _ _ (by omega) ⟨m + 1, x2, q2, k2', rfl, by omega, by (repeat (first | exact Gr.refl _ | assumption | (refine Gr.trans ?_ (by assumption)) | refine Gr.set ?_ (by first | exact Nat.le_refl _ | omega | (simp only [next_new, next_set]; omega)) _ | refine Gr.new ?_ _)), d2, n2', l2', v2', i2, by simp (disch := first | assumption | omega) only [push_cast, ↓reduceIte, reduceIte, Nat.reduceEqDiff, Nat.reduceAdd, Nat.reduceSub, Nat.reduceMul, Nat.reduceBEq, Int.reduceNeg, e2], by simp (disch := first | assumption | omega) only [push_cast, ↓reduceIte, reduceIte, Nat.reduceEqDiff, Nat.reduceAdd, Nat.reduceSub, Nat.reduceMul, Nat.reduceBEq, Int.reduceNeg], by simp (disch := first | assumption | omega) only [push_cast, ↓reduceIte, reduceIte, Nat.reduceEqDiff, Nat.reduceAdd, Nat.reduceSub, Nat.reduceMul, Nat.reduceBEq, Int.reduceNeg, Int.natCast_add, Int.natCast_one]⟩
  have mlt : ¬ (m : Int) < (c : Int) := by omega
  obtain rfl : m = c := by omega
  repeat' (first
    | ((with_reducible first | refine optP_id ?_ | refine condP_id ?_ | refine resP_id ?_ | refine callT_of ?_); conv => { arg 1; simp (disch := first | assumption | omega) only [push_cast, ↓reduceIte, reduceIte, Nat.reduceEqDiff, Nat.reduceAdd, Nat.reduceSub, Nat.reduceMul, Nat.reduceBEq, Int.reduceNeg, e2, e7, e10] }; first | ((with_reducible refine optP_id ?_); refine optP_some ?_) | ((with_reducible refine condP_id ?_); first | refine qcy ?_ | refine qcx ?_ | refine qco ?_ | refine condP_decn (fun hc => ?_) (fun hc => ?_) | refine condP_dec (fun hc => ?_) (fun hc => ?_) | refine qct ?_ | refine qcf ?_ | refine condP_bool (fun hc => ?_) (fun hc => ?_)) | ((with_reducible refine resP_id ?_); refine resP_one ?_) | ((with_reducible refine callT_to ?_); refine callP_plain ?_))
    | refine wk_seq ?_ | refine wk_region ?_ | refine wk_block ?_ | refine wk_inBlock ?_ | refine wk_skip ?_ | refine wo_nil ?_ | refine wk_exit ?_ | refine exitK_code ?_ | refine exitK_hit ?_ | refine exitK_miss rfl ?_ | refine exitK_inLoop ?_ | refine wk_cond ?_ | refine wk_ret ?_ | refine wk_nil ?_ | refine wo_dst rfl (opR_call ?_) | refine wo_nodst (opR_call ?_) | refine wo_dst rfl (opR_pure ?_) | refine wo_nodst (opR_pure ?_)
    | refine give_ret ?_ | refine give_end ?_)
  refine (rdigits_w x dx nx (by omega) _ _ hx).mono ?_
  rintro _ h4 ⟨⟨d, ad, cd, z, rfl, hd, hnf, _, _, _⟩, g4⟩; have n4 := g4.1; have k4 := g4.2; try simp only [next_new, next_set] at n4 k4
  rw [vx] at hnf
  repeat' (first
    | ((with_reducible first | refine optP_id ?_ | refine condP_id ?_ | refine resP_id ?_ | refine callT_of ?_); conv => { arg 1; simp (disch := first | assumption | omega) only [push_cast, ↓reduceIte, reduceIte, Nat.reduceEqDiff, Nat.reduceAdd, Nat.reduceSub, Nat.reduceMul, Nat.reduceBEq, Int.reduceNeg, e2] }; first | ((with_reducible refine optP_id ?_); refine optP_some ?_) | ((with_reducible refine condP_id ?_); first | refine qcy ?_ | refine qcx ?_ | refine qco ?_ | refine condP_decn (fun hc => ?_) (fun hc => ?_) | refine condP_dec (fun hc => ?_) (fun hc => ?_) | refine qct ?_ | refine qcf ?_ | refine condP_bool (fun hc => ?_) (fun hc => ?_)) | ((with_reducible refine resP_id ?_); refine resP_one ?_) | ((with_reducible refine callT_to ?_); refine callP_plain ?_))
    | refine wk_seq ?_ | refine wk_region ?_ | refine wk_block ?_ | refine wk_inBlock ?_ | refine wk_skip ?_ | refine wo_nil ?_ | refine wk_exit ?_ | refine exitK_code ?_ | refine exitK_hit ?_ | refine exitK_miss rfl ?_ | refine exitK_inLoop ?_ | refine wk_cond ?_ | refine wk_ret ?_ | refine wk_nil ?_ | refine wo_dst rfl (opR_call ?_) | refine wo_nodst (opR_call ?_) | refine wo_dst rfl (opR_pure ?_) | refine wo_nodst (opR_pure ?_)
    | refine give_ret ?_ | refine give_end ?_)
  exact ⟨⟨d, ad, cd, rfl, hd, hnf⟩, by (repeat (first | exact Gr.refl _ | assumption | (refine Gr.trans ?_ (by assumption)) | refine Gr.set ?_ (by first | exact Nat.le_refl _ | omega | (simp only [next_new, next_set]; omega)) _ | refine Gr.new ?_ _))⟩
theorem exp_small {a b c : Nat} (h : 2 ^ a * 3 ^ b * 5 ^ c < 60 ^ 16) : a + b + c ≤ 100 := by
  have h2 : 2 ^ b ≤ 3 ^ b := Nat.pow_le_pow_left (by decide) b
  have h3 : 2 ^ c ≤ 5 ^ c := Nat.pow_le_pow_left (by decide) c
  have h4 := Nat.mul_le_mul (Nat.mul_le_mul (Nat.le_refl (2 ^ a)) h2) h3
  rw [← Nat.pow_add, ← Nat.pow_add] at h4
  have h5 : (60 : Nat) ^ 16 ≤ 2 ^ 100 := by decide
  have := (Nat.pow_lt_pow_iff_right (by decide : 1 < 2)).1 (Nat.lt_of_le_of_lt h4 (Nat.lt_of_lt_of_le h h5))
  omega
theorem turned_inv (a b c : Nat) : 2 ^ a * 3 ^ b * 5 ^ c * (30 ^ a * 20 ^ b * 12 ^ c) = 60 ^ (a + b + c) := by
  rw [Nat.pow_add, Nat.pow_add, show (60 : Nat) ^ a = 2 ^ a * 30 ^ a by rw [← Nat.mul_pow], show (60 : Nat) ^ b = 3 ^ b * 20 ^ b by rw [← Nat.mul_pow], show (60 : Nat) ^ c = 5 ^ c * 12 ^ c by rw [← Nat.mul_pow]]
  generalize 2 ^ a = A; generalize 30 ^ a = A'; generalize 3 ^ b = B; generalize 20 ^ b = B'; generalize 5 ^ c = C; generalize 12 ^ c = C'
  grind
/-- digits of the reciprocal of a regular number -/
def recipD (X : Nat) (d : List Int) : Prop := valid d ∧ d ≠ [] ∧ ∃ e E, X * valN d * 60 ^ e = 60 ^ E
theorem recipD_uniq {X : Nat} {d d' : List Int} (hX : 0 < X) (h : recipD X d) (h' : recipD X d') : d = d' := by
  obtain ⟨h1, h2, e, E, h3⟩ := h
  obtain ⟨k1, k2, e', E', k3⟩ := h'
  refine nf_uniq (i := e + E') (j := e' + E) (nf_self h1) (nf_self k1) (Nat.eq_of_mul_eq_mul_left hX ?_)
  rw [Nat.pow_add, Nat.pow_add, ← Nat.mul_assoc, ← Nat.mul_assoc, ← Nat.mul_assoc, ← Nat.mul_assoc, h3, k3, Nat.mul_comm]
theorem recipD_of {X Y E : Nat} {d : List Int} (h : nf Y d) (hY : 0 < Y) (e : X * Y = 60 ^ E) : recipD X d := by
  have h0 := nf_pos h (by omega)
  obtain ⟨h1, _, k, h2⟩ := h
  exact ⟨h1, h0, k, E, by rw [Nat.mul_assoc, h2, e]⟩
/-- what Recip returns, of any list -/
def recA (l : List Int) (r : Value) (H : AHeap) : Prop :=
  (checkE l ≠ 0 ∧ r = .tuple #[.slice none 0 0, .int .i64 (checkE l)]) ∨
  (checkE l = 0 ∧ l = [] ∧ r = .tuple #[.slice none 0 0, .int .i64 9]) ∨
  (checkE l = 0 ∧ l ≠ [] ∧ irr (valN l) ∧ r = .tuple #[.slice none 0 0, .int .i64 31]) ∨
  (checkE l = 0 ∧ l ≠ [] ∧ (∃ a b c, valN l = 2 ^ a * 3 ^ b * 5 ^ c) ∧ ∃ d, recipD (valN l) d ∧ ((16 < d.length ∧ r = .tuple #[.slice none 0 0, .int .i64 3]) ∨ (d.length ≤ 16 ∧ ∃ a c, r = .tuple #[.slice a d.length c, .int .i64 0] ∧ IIn H (.slice a d.length c) d)))
set_option maxRecDepth 100000 in
set_option maxHeartbeats 8000000 in
theorem rrec_w (l : List Int) (hl : l.length ≤ 4611686018427387904) (v : Value) (h : AHeap) (hv : IIn h v l) :
    Wc pr (.func 30) [v] h fun r h' => recA l r h' ∧ Gr h h' := by
  have hv0 := hv
  obtain ⟨av, cv, rfl, _⟩ := hv
  refine wc_func Tryz.func30 rfl rfl rfl rfl ?_
  repeat' (first
    | ((with_reducible first | refine optP_id ?_ | refine condP_id ?_ | refine resP_id ?_ | refine callT_of ?_); conv => { arg 1; simp (disch := first | assumption | omega) only [push_cast, ↓reduceIte, reduceIte, Nat.reduceEqDiff, Nat.reduceAdd, Nat.reduceSub, Nat.reduceMul, Nat.reduceBEq, Int.reduceNeg] }; first | ((with_reducible refine optP_id ?_); refine optP_some ?_) | ((with_reducible refine condP_id ?_); first | refine qcy ?_ | refine qcx ?_ | refine qco ?_ | refine condP_decn (fun hc => ?_) (fun hc => ?_) | refine condP_dec (fun hc => ?_) (fun hc => ?_) | refine qct ?_ | refine qcf ?_ | refine condP_bool (fun hc => ?_) (fun hc => ?_)) | ((with_reducible refine resP_id ?_); refine resP_two ?_) | ((with_reducible refine callT_to ?_); refine callP_plain ?_))
    | refine wk_seq ?_ | refine wk_region ?_ | refine wk_skip ?_ | refine wo_nil ?_ | refine wk_cond ?_ | refine wk_ret ?_ | refine wk_nil ?_ | refine wo_dst rfl (opR_call ?_) | refine wo_nodst (opR_call ?_) | refine wo_dst rfl (opR_pure ?_) | refine wo_nodst (opR_pure ?_)
    | refine give_ret ?_ | refine give_end ?_)
  refine (rreg_w l hl _ _ hv0).mono ?_
  rintro _ h1 ⟨hr, g1⟩; have n1 := g1.1; have k1 := g1.2; try simp only [next_new, next_set] at n1 k1
  rcases hr with ⟨q, rfl⟩ | ⟨hE, ⟨q, rfl⟩ | ⟨hn, ⟨a, b, c, e, _, _, _, rfl⟩ | ⟨q, rfl⟩⟩⟩
  · have fin : ∀ r H, r = .tuple #[.slice none 0 0, .int .i64 (checkE l)] → recA l r H := fun r H hh => .inl ⟨q, hh⟩
    generalize checkE l = C at *
    repeat' (first
    | ((with_reducible first | refine optP_id ?_ | refine condP_id ?_ | refine resP_id ?_ | refine callT_of ?_); conv => { arg 1; simp (disch := first | assumption | omega) only [push_cast, ↓reduceIte, reduceIte, Nat.reduceEqDiff, Nat.reduceAdd, Nat.reduceSub, Nat.reduceMul, Nat.reduceBEq, Int.reduceNeg, k1] }; first | ((with_reducible refine optP_id ?_); refine optP_some ?_) | ((with_reducible refine condP_id ?_); first | refine qcy ?_ | refine qcx ?_ | refine qco ?_ | refine condP_decn (fun hc => ?_) (fun hc => ?_) | refine condP_dec (fun hc => ?_) (fun hc => ?_) | refine qct ?_ | refine qcf ?_ | refine condP_bool (fun hc => ?_) (fun hc => ?_)) | ((with_reducible refine resP_id ?_); refine resP_two ?_) | ((with_reducible refine callT_to ?_); refine callP_plain ?_))
    | refine wk_seq ?_ | refine wk_region ?_ | refine wk_skip ?_ | refine wo_nil ?_ | refine wk_cond ?_ | refine wk_ret ?_ | refine wk_nil ?_ | refine wo_dst rfl (opR_call ?_) | refine wo_nodst (opR_call ?_) | refine wo_dst rfl (opR_pure ?_) | refine wo_nodst (opR_pure ?_)
    | refine give_ret ?_ | refine give_end ?_)
    exact ⟨fin _ _ rfl, by (repeat (first | exact Gr.refl _ | assumption | (refine Gr.trans ?_ (by assumption)) | refine Gr.set ?_ (by first | exact Nat.le_refl _ | omega | (simp only [next_new, next_set]; omega)) _ | refine Gr.new ?_ _))⟩
  · have fin : ∀ r H, r = .tuple #[.slice none 0 0, .int .i64 9] → recA l r H := fun r H hh => .inr (.inl ⟨hE, q, hh⟩)
    repeat' (first
    | ((with_reducible first | refine optP_id ?_ | refine condP_id ?_ | refine resP_id ?_ | refine callT_of ?_); conv => { arg 1; simp (disch := first | assumption | omega) only [push_cast, ↓reduceIte, reduceIte, Nat.reduceEqDiff, Nat.reduceAdd, Nat.reduceSub, Nat.reduceMul, Nat.reduceBEq, Int.reduceNeg, k1] }; first | ((with_reducible refine optP_id ?_); refine optP_some ?_) | ((with_reducible refine condP_id ?_); first | refine qcy ?_ | refine qcx ?_ | refine qco ?_ | refine condP_decn (fun hc => ?_) (fun hc => ?_) | refine condP_dec (fun hc => ?_) (fun hc => ?_) | refine qct ?_ | refine qcf ?_ | refine condP_bool (fun hc => ?_) (fun hc => ?_)) | ((with_reducible refine resP_id ?_); refine resP_two ?_) | ((with_reducible refine callT_to ?_); refine callP_plain ?_))
    | refine wk_seq ?_ | refine wk_region ?_ | refine wk_skip ?_ | refine wo_nil ?_ | refine wk_cond ?_ | refine wk_ret ?_ | refine wk_nil ?_ | refine wo_dst rfl (opR_call ?_) | refine wo_nodst (opR_call ?_) | refine wo_dst rfl (opR_pure ?_) | refine wo_nodst (opR_pure ?_)
    | refine give_ret ?_ | refine give_end ?_)
    exact ⟨fin _ _ rfl, by (repeat (first | exact Gr.refl _ | assumption | (refine Gr.trans ?_ (by assumption)) | refine Gr.set ?_ (by first | exact Nat.le_refl _ | omega | (simp only [next_new, next_set]; omega)) _ | refine Gr.new ?_ _))⟩
  · obtain ⟨v1, l1⟩ := check_valid' hE
    have hs := exp_small (a := a) (b := b) (c := c) (by rw [← e]; exact valN_lt16 v1 l1)
    have fin : ∀ d r H, nf (30 ^ a * 20 ^ b * 12 ^ c) d → ((16 < d.length ∧ r = .tuple #[.slice none 0 0, .int .i64 3]) ∨ (d.length ≤ 16 ∧ ∃ a c, r = .tuple #[.slice a d.length c, .int .i64 0] ∧ IIn H (.slice a d.length c) d)) → recA l r H := fun d r H hd hh =>
      .inr (.inr (.inr ⟨hE, hn, ⟨a, b, c, e⟩, d, recipD_of hd (Nat.mul_pos (Nat.mul_pos (Nat.pow_pos (by decide)) (Nat.pow_pos (by decide))) (Nat.pow_pos (by decide))) (by rw [e]; exact turned_inv a b c), hh⟩))
    clear e
    repeat' (first
    | ((with_reducible first | refine optP_id ?_ | refine condP_id ?_ | refine resP_id ?_ | refine callT_of ?_); conv => { arg 1; simp (disch := first | assumption | omega) only [push_cast, ↓reduceIte, reduceIte, Nat.reduceEqDiff, Nat.reduceAdd, Nat.reduceSub, Nat.reduceMul, Nat.reduceBEq, Int.reduceNeg, k1] }; first | ((with_reducible refine optP_id ?_); refine optP_some ?_) | ((with_reducible refine condP_id ?_); first | refine qcy ?_ | refine qcx ?_ | refine qco ?_ | refine condP_decn (fun hc => ?_) (fun hc => ?_) | refine condP_dec (fun hc => ?_) (fun hc => ?_) | refine qct ?_ | refine qcf ?_ | refine condP_bool (fun hc => ?_) (fun hc => ?_)) | ((with_reducible refine resP_id ?_); refine resP_two ?_) | ((with_reducible refine callT_to ?_); refine callP_plain ?_))
    | refine wk_seq ?_ | refine wk_region ?_ | refine wk_skip ?_ | refine wo_nil ?_ | refine wk_cond ?_ | refine wk_ret ?_ | refine wk_nil ?_ | refine wo_dst rfl (opR_call ?_) | refine wo_nodst (opR_call ?_) | refine wo_dst rfl (opR_pure ?_) | refine wo_nodst (opR_pure ?_)
    | refine give_ret ?_ | refine give_end ?_)
    refine (turned_w a b c (by omega) _).mono ?_
    rintro _ h2 ⟨⟨d, q, k, rfl, hd, hnf⟩, g2⟩; have n2 := g2.1; have k2 := g2.2; try simp only [next_new, next_set] at n2 k2
    by_cases h16 : 16 < d.length
    · have i16 : (d.length : Int) > 16 := by omega
      repeat' (first
    | ((with_reducible first | refine optP_id ?_ | refine condP_id ?_ | refine resP_id ?_ | refine callT_of ?_); conv => { arg 1; simp (disch := first | assumption | omega) only [push_cast, ↓reduceIte, reduceIte, Nat.reduceEqDiff, Nat.reduceAdd, Nat.reduceSub, Nat.reduceMul, Nat.reduceBEq, Int.reduceNeg, k1, k2] }; first | ((with_reducible refine optP_id ?_); refine optP_some ?_) | ((with_reducible refine condP_id ?_); first | refine qcy ?_ | refine qcx ?_ | refine qco ?_ | refine condP_decn (fun hc => ?_) (fun hc => ?_) | refine condP_dec (fun hc => ?_) (fun hc => ?_) | refine qct ?_ | refine qcf ?_ | refine condP_bool (fun hc => ?_) (fun hc => ?_)) | ((with_reducible refine resP_id ?_); refine resP_two ?_) | ((with_reducible refine callT_to ?_); refine callP_plain ?_))
    | refine wk_seq ?_ | refine wk_region ?_ | refine wk_skip ?_ | refine wo_nil ?_ | refine wk_cond ?_ | refine wk_ret ?_ | refine wk_nil ?_ | refine wo_dst rfl (opR_call ?_) | refine wo_nodst (opR_call ?_) | refine wo_dst rfl (opR_pure ?_) | refine wo_nodst (opR_pure ?_)
    | refine give_ret ?_ | refine give_end ?_)
      exact ⟨fin d _ _ hnf (.inl ⟨h16, rfl⟩), by (repeat (first | exact Gr.refl _ | assumption | (refine Gr.trans ?_ (by assumption)) | refine Gr.set ?_ (by first | exact Nat.le_refl _ | omega | (simp only [next_new, next_set]; omega)) _ | refine Gr.new ?_ _))⟩
    · have i16 : ¬ (d.length : Int) > 16 := by omega
      repeat' (first
    | ((with_reducible first | refine optP_id ?_ | refine condP_id ?_ | refine resP_id ?_ | refine callT_of ?_); conv => { arg 1; simp (disch := first | assumption | omega) only [push_cast, ↓reduceIte, reduceIte, Nat.reduceEqDiff, Nat.reduceAdd, Nat.reduceSub, Nat.reduceMul, Nat.reduceBEq, Int.reduceNeg, k1, k2] }; first | ((with_reducible refine optP_id ?_); refine optP_some ?_) | ((with_reducible refine condP_id ?_); first | refine qcy ?_ | refine qcx ?_ | refine qco ?_ | refine condP_decn (fun hc => ?_) (fun hc => ?_) | refine condP_dec (fun hc => ?_) (fun hc => ?_) | refine qct ?_ | refine qcf ?_ | refine condP_bool (fun hc => ?_) (fun hc => ?_)) | ((with_reducible refine resP_id ?_); refine resP_two ?_) | ((with_reducible refine callT_to ?_); refine callP_plain ?_))
    | refine wk_seq ?_ | refine wk_region ?_ | refine wk_skip ?_ | refine wo_nil ?_ | refine wk_cond ?_ | refine wk_ret ?_ | refine wk_nil ?_ | refine wo_dst rfl (opR_call ?_) | refine wo_nodst (opR_call ?_) | refine wo_dst rfl (opR_pure ?_) | refine wo_nodst (opR_pure ?_)
    | refine give_ret ?_ | refine give_end ?_)
      exact ⟨fin d _ _ hnf (.inr ⟨by omega, _, _, rfl, hd⟩), by (repeat (first | exact Gr.refl _ | assumption | (refine Gr.trans ?_ (by assumption)) | refine Gr.set ?_ (by first | exact Nat.le_refl _ | omega | (simp only [next_new, next_set]; omega)) _ | refine Gr.new ?_ _))⟩
  · have fin : ∀ r H, r = .tuple #[.slice none 0 0, .int .i64 31] → recA l r H := fun r H hh => .inr (.inr (.inl ⟨hE, hn, q, hh⟩))
    repeat' (first
    | ((with_reducible first | refine optP_id ?_ | refine condP_id ?_ | refine resP_id ?_ | refine callT_of ?_); conv => { arg 1; simp (disch := first | assumption | omega) only [push_cast, ↓reduceIte, reduceIte, Nat.reduceEqDiff, Nat.reduceAdd, Nat.reduceSub, Nat.reduceMul, Nat.reduceBEq, Int.reduceNeg, k1] }; first | ((with_reducible refine optP_id ?_); refine optP_some ?_) | ((with_reducible refine condP_id ?_); first | refine qcy ?_ | refine qcx ?_ | refine qco ?_ | refine condP_decn (fun hc => ?_) (fun hc => ?_) | refine condP_dec (fun hc => ?_) (fun hc => ?_) | refine qct ?_ | refine qcf ?_ | refine condP_bool (fun hc => ?_) (fun hc => ?_)) | ((with_reducible refine resP_id ?_); refine resP_two ?_) | ((with_reducible refine callT_to ?_); refine callP_plain ?_))
    | refine wk_seq ?_ | refine wk_region ?_ | refine wk_skip ?_ | refine wo_nil ?_ | refine wk_cond ?_ | refine wk_ret ?_ | refine wk_nil ?_ | refine wo_dst rfl (opR_call ?_) | refine wo_nodst (opR_call ?_) | refine wo_dst rfl (opR_pure ?_) | refine wo_nodst (opR_pure ?_)
    | refine give_ret ?_ | refine give_end ?_)
    exact ⟨fin _ _ rfl, by (repeat (first | exact Gr.refl _ | assumption | (refine Gr.trans ?_ (by assumption)) | refine Gr.set ?_ (by first | exact Nat.le_refl _ | omega | (simp only [next_new, next_set]; omega)) _ | refine Gr.new ?_ _))⟩
end Go.Proofs.YtelepfablohdmaaGreatDoor
