/- Contracts: numberOf of great numbers, Near; of the reference: placed. -/
import Derived.Test.YtcfohcpcepeolaaGreatDoorVR
set_option linter.unusedSimpArgs false
set_option linter.unusedVariables false
/- Contracts for Near: power, SamePlace; of the reference: bigOf, power, over. -/
namespace Go.Proofs.YtcfohcpcepeolaaGreatDoor
open Go.Ev
set_option maxRecDepth 100000 in
set_option maxHeartbeats 8000000 in
theorem sameplace_w (l m : List Int) (s t : Int) (v u : Value) (h : AHeap) (hv : IIn h v l) (hu : IIn h u m) (hl : l.length ≤ 4611686018427387904) :
    Wc pr (.func 26) [.agg #[v, .int .i64 s], .agg #[u, .int .i64 t]] h fun r h' => r = .bool (decide (s = t ∧ l = m)) ∧ Gr h h' := by
  obtain ⟨a, c, rfl, _⟩ := id hv
  obtain ⟨a', c', rfl, _⟩ := id hu
  refine wc_func Tryz.func26 rfl rfl rfl rfl ?_
  by_cases hst : s = t
  · repeat' (first
    | ((with_reducible first | refine optP_id ?_ | refine condP_id ?_ | refine condO_id ?_ | refine resP_id ?_ | refine callT_of ?_); conv => { arg 1; simp (disch := first | assumption | omega) only [push_cast, ↓reduceIte, reduceIte, Nat.reduceEqDiff, Nat.reduceAdd, Nat.reduceSub, Nat.reduceMul, Nat.reduceBEq, Int.reduceNeg] }; first | ((with_reducible refine optP_id ?_); refine optP_some ?_) | ((with_reducible refine condP_id ?_); first | refine qcy ?_ | refine qcx ?_ | refine qco ?_ | refine condP_decn (fun hc => ?_) (fun hc => ?_) | refine condP_dec (fun hc => ?_) (fun hc => ?_) | refine qct ?_ | refine qcf ?_ | refine condP_bool (fun hc => ?_) (fun hc => ?_)) | ((with_reducible refine condO_id ?_); refine condO_some ?_) | ((with_reducible refine resP_id ?_); refine resP_one ?_) | ((with_reducible refine callT_to ?_); refine callP_plain ?_))
    | refine wk_seq ?_ | refine wk_region ?_ | refine wo_nil ?_ | refine wk_ret ?_ | refine wk_nil ?_ | refine wo_dst rfl (opR_call ?_) | refine wo_nodst (opR_call ?_) | refine wo_dst rfl (opR_pick ?_) | refine wo_guard rfl rfl ?_ | refine wo_guardn rfl ?_ | refine wo_dst rfl (opR_pure ?_) | refine wo_nodst (opR_pure ?_)
    | refine give_ret ?_ | refine give_end ?_)
    refine (eqints_w l m _ _ _ (SlIn.gr hv (by (repeat (first | exact Gr.refl _ | assumption | (refine Gr.trans ?_ (by assumption)) | refine Gr.set ?_ (by first | exact Nat.le_refl _ | omega | (simp only [next_new, next_set]; omega)) _ | refine Gr.new ?_ _)))) (SlIn.gr hu (by (repeat (first | exact Gr.refl _ | assumption | (refine Gr.trans ?_ (by assumption)) | refine Gr.set ?_ (by first | exact Nat.le_refl _ | omega | (simp only [next_new, next_set]; omega)) _ | refine Gr.new ?_ _)))) hl).mono ?_
    rintro _ _ ⟨rfl, rfl⟩
    by_cases hlm : l = m
    · rw [decide_eq_true hlm]
      repeat' (first
    | ((with_reducible first | refine optP_id ?_ | refine condP_id ?_ | refine condO_id ?_ | refine resP_id ?_ | refine callT_of ?_); conv => { arg 1; simp (disch := first | assumption | omega) only [push_cast, ↓reduceIte, reduceIte, Nat.reduceEqDiff, Nat.reduceAdd, Nat.reduceSub, Nat.reduceMul, Nat.reduceBEq, Int.reduceNeg] }; first | ((with_reducible refine optP_id ?_); refine optP_some ?_) | ((with_reducible refine condP_id ?_); first | refine qcy ?_ | refine qcx ?_ | refine qco ?_ | refine condP_decn (fun hc => ?_) (fun hc => ?_) | refine condP_dec (fun hc => ?_) (fun hc => ?_) | refine qct ?_ | refine qcf ?_ | refine condP_bool (fun hc => ?_) (fun hc => ?_)) | ((with_reducible refine condO_id ?_); refine condO_some ?_) | ((with_reducible refine resP_id ?_); refine resP_one ?_) | ((with_reducible refine callT_to ?_); refine callP_plain ?_))
    | refine wk_seq ?_ | refine wk_region ?_ | refine wo_nil ?_ | refine wk_ret ?_ | refine wk_nil ?_ | refine wo_dst rfl (opR_call ?_) | refine wo_nodst (opR_call ?_) | refine wo_dst rfl (opR_pick ?_) | refine wo_guard rfl rfl ?_ | refine wo_guardn rfl ?_ | refine wo_dst rfl (opR_pure ?_) | refine wo_nodst (opR_pure ?_)
    | refine give_ret ?_ | refine give_end ?_)
      exact ⟨btrue ⟨hst, hlm⟩, by (repeat (first | exact Gr.refl _ | assumption | (refine Gr.trans ?_ (by assumption)) | refine Gr.set ?_ (by first | exact Nat.le_refl _ | omega | (simp only [next_new, next_set]; omega)) _ | refine Gr.new ?_ _))⟩
    · rw [decide_eq_false hlm]
      repeat' (first
    | ((with_reducible first | refine optP_id ?_ | refine condP_id ?_ | refine condO_id ?_ | refine resP_id ?_ | refine callT_of ?_); conv => { arg 1; simp (disch := first | assumption | omega) only [push_cast, ↓reduceIte, reduceIte, Nat.reduceEqDiff, Nat.reduceAdd, Nat.reduceSub, Nat.reduceMul, Nat.reduceBEq, Int.reduceNeg] }; first | ((with_reducible refine optP_id ?_); refine optP_some ?_) | ((with_reducible refine condP_id ?_); first | refine qcy ?_ | refine qcx ?_ | refine qco ?_ | refine condP_decn (fun hc => ?_) (fun hc => ?_) | refine condP_dec (fun hc => ?_) (fun hc => ?_) | refine qct ?_ | refine qcf ?_ | refine condP_bool (fun hc => ?_) (fun hc => ?_)) | ((with_reducible refine condO_id ?_); refine condO_some ?_) | ((with_reducible refine resP_id ?_); refine resP_one ?_) | ((with_reducible refine callT_to ?_); refine callP_plain ?_))
    | refine wk_seq ?_ | refine wk_region ?_ | refine wo_nil ?_ | refine wk_ret ?_ | refine wk_nil ?_ | refine wo_dst rfl (opR_call ?_) | refine wo_nodst (opR_call ?_) | refine wo_dst rfl (opR_pick ?_) | refine wo_guard rfl rfl ?_ | refine wo_guardn rfl ?_ | refine wo_dst rfl (opR_pure ?_) | refine wo_nodst (opR_pure ?_)
    | refine give_ret ?_ | refine give_end ?_)
      exact ⟨bfalse fun h => hlm h.2, by (repeat (first | exact Gr.refl _ | assumption | (refine Gr.trans ?_ (by assumption)) | refine Gr.set ?_ (by first | exact Nat.le_refl _ | omega | (simp only [next_new, next_set]; omega)) _ | refine Gr.new ?_ _))⟩
  · repeat' (first
    | ((with_reducible first | refine optP_id ?_ | refine condP_id ?_ | refine condO_id ?_ | refine resP_id ?_ | refine callT_of ?_); conv => { arg 1; simp (disch := first | assumption | omega) only [push_cast, ↓reduceIte, reduceIte, Nat.reduceEqDiff, Nat.reduceAdd, Nat.reduceSub, Nat.reduceMul, Nat.reduceBEq, Int.reduceNeg] }; first | ((with_reducible refine optP_id ?_); refine optP_some ?_) | ((with_reducible refine condP_id ?_); first | refine qcy ?_ | refine qcx ?_ | refine qco ?_ | refine condP_decn (fun hc => ?_) (fun hc => ?_) | refine condP_dec (fun hc => ?_) (fun hc => ?_) | refine qct ?_ | refine qcf ?_ | refine condP_bool (fun hc => ?_) (fun hc => ?_)) | ((with_reducible refine condO_id ?_); refine condO_some ?_) | ((with_reducible refine resP_id ?_); refine resP_one ?_) | ((with_reducible refine callT_to ?_); refine callP_plain ?_))
    | refine wk_seq ?_ | refine wk_region ?_ | refine wo_nil ?_ | refine wk_ret ?_ | refine wk_nil ?_ | refine wo_dst rfl (opR_call ?_) | refine wo_nodst (opR_call ?_) | refine wo_dst rfl (opR_pick ?_) | refine wo_guard rfl rfl ?_ | refine wo_guardn rfl ?_ | refine wo_dst rfl (opR_pure ?_) | refine wo_nodst (opR_pure ?_)
    | refine give_ret ?_ | refine give_end ?_)
    exact ⟨bfalse fun h => hst h.1, by (repeat (first | exact Gr.refl _ | assumption | (refine Gr.trans ?_ (by assumption)) | refine Gr.set ?_ (by first | exact Nat.le_refl _ | omega | (simp only [next_new, next_set]; omega)) _ | refine Gr.new ?_ _))⟩
/-- the digits of a number, the least significant one first -/
def bigL (X k : Nat) : List Int := (List.range k).map fun i => ((X / 60 ^ i % 60 : Nat) : Int)
theorem bigL_len (X k : Nat) : (bigL X k).length = k := by simp [bigL]
theorem bigL_step (X k : Nat) : bigL X (k + 1) = bigL X k ++ [((X / 60 ^ k % 60 : Nat) : Int)] := by
  unfold bigL
  rw [List.range_succ, List.map_append]
  rfl
theorem bigL_digs (X k : Nat) : digs (bigL X k) := fun x hx => by
  unfold bigL at hx
  obtain ⟨i, _, rfl⟩ := List.mem_map.1 hx
  have : X / 60 ^ i % 60 < 60 := Nat.mod_lt _ (by decide)
  omega
theorem bigL_leN (X : Nat) : ∀ k, leN (bigL X k) = X % 60 ^ k
  | 0 => by simp [bigL, leN, Nat.mod_one]
  | k + 1 => by
    rw [bigL_step, leN_app, bigL_leN X k, bigL_len, Nat.pow_succ, Nat.mod_mul]
    show _ + 60 ^ k * (((X / 60 ^ k % 60 : Nat) : Int).toNat + 60 * 0) = _
    rw [Int.toNat_natCast, Nat.mul_zero, Nat.add_zero]
set_option maxRecDepth 100000 in
set_option maxHeartbeats 8000000 in
theorem bigof_w (X : Nat) (hX : X < 60 ^ 10) (h : AHeap) :
    Wc pr (.func 73) [.int .i64 (X : Int)] h fun r h' => (∃ m b, r = .slice (ownB m b) m.length m.length ∧ IIn h' (.slice (ownB m b) m.length m.length) m ∧ digs m ∧ noEnd m ∧ leN m = X ∧ m.length ≤ 10) ∧ Gr h h' := by
  refine wc_func Tryz.func73 rfl rfl rfl rfl ?_
  repeat' (first
    | ((with_reducible first | refine optP_id ?_ | refine condP_id ?_ | refine resP_id ?_); conv => { arg 1; simp (disch := first | assumption | omega) only [push_cast, ↓reduceIte, reduceIte, Nat.reduceEqDiff, Nat.reduceAdd, Nat.reduceSub, Nat.reduceMul, Nat.reduceBEq, Int.reduceNeg] }; first | ((with_reducible refine optP_id ?_); refine optP_some ?_) | ((with_reducible refine condP_id ?_); first | refine qcy ?_ | refine qcx ?_ | refine qco ?_ | refine condP_decn (fun hc => ?_) (fun hc => ?_) | refine condP_dec (fun hc => ?_) (fun hc => ?_) | refine qct ?_ | refine qcf ?_ | refine condP_bool (fun hc => ?_) (fun hc => ?_)) | ((with_reducible refine resP_id ?_); refine resP_one ?_))
    | refine wk_seq ?_ | refine wk_region ?_ | refine wk_block ?_ | refine wk_inBlock ?_ | refine wk_skip ?_ | refine wo_nil ?_ | refine wk_exit ?_ | refine exitK_code ?_ | refine exitK_hit ?_ | refine exitK_miss rfl ?_ | refine exitK_inLoop ?_ | refine wk_cond ?_ | refine wk_ret ?_ | refine wk_nil ?_ | refine wo_dst rfl (opR_pure ?_) | refine wo_nodst (opR_pure ?_)
    | refine give_ret ?_ | refine give_end ?_)
  refine wk_loop (fun n E H => ∃ (i Y b : Nat), n = Y ∧ Y = X / 60 ^ i ∧ (i = 0 ∨ X / 60 ^ (i - 1) % 60 ≠ 0 ∨ 0 < Y) ∧ OwnI h.next H (bigL X i) b ∧ Gr h H ∧ E.look 0 top = .int .i64 (Y : Int) ∧ E.look 3 top = .slice (ownB (bigL X i) b) (bigL X i).length (bigL X i).length) X
    ⟨0, X, 0, rfl, by rw [Nat.pow_zero, Nat.div_one], .inl rfl, fun hn => absurd rfl hn, by (repeat (first | exact Gr.refl _ | assumption | (refine Gr.trans ?_ (by assumption)) | refine Gr.set ?_ (by first | exact Nat.le_refl _ | omega | (simp only [next_new, next_set]; omega)) _ | refine Gr.new ?_ _)), by simp (disch := first | assumption | omega) only [push_cast, ↓reduceIte, reduceIte, Nat.reduceEqDiff, Nat.reduceAdd, Nat.reduceSub, Nat.reduceMul, Nat.reduceBEq, Int.reduceNeg], by show _ = Value.slice none 0 0; simp (disch := first | assumption | omega) only [push_cast, ↓reduceIte, reduceIte, Nat.reduceEqDiff, Nat.reduceAdd, Nat.reduceSub, Nat.reduceMul, Nat.reduceBEq, Int.reduceNeg]⟩ ?_
  rintro n E H ⟨i, Y, b, rfl, hY, hlast, hown, gr, e0, e3⟩ next
  have gn := gr.1
  by_cases hpos : 0 < n
  · have hi : i < 10 := by
      apply Classical.byContradiction
      intro hh
      have h8 : 60 ^ 10 ≤ 60 ^ i := Nat.pow_le_pow_right (by decide) (by omega)
      have : X / 60 ^ i = 0 := Nat.div_eq_of_lt (by omega)
      omega
    have y0 : (n : Int) > 0 := by omega
    have hle : n ≤ X := by rw [hY]; exact Nat.div_le_self _ _
    have hst := bigL_step X i
    rw [← hY] at hst
    have hlen := bigL_len X i
    have hY' : n / 60 = X / 60 ^ (i + 1) := by rw [hY, Nat.div_div_eq_div_mul, Nat.pow_succ]
    have em : (n : Int) % 60 = ((n % 60 : Nat) : Int) := by omega
    have eq : (n : Int) / 60 = ((n / 60 : Nat) : Int) := by omega
    have hn60 : n = 60 * (n / 60) + n % 60 := by omega
    have hlast' : n % 60 ≠ 0 ∨ 0 < n / 60 := by omega
    rw [hY] at hlast'
    rw [← hY] at hlast'
    generalize hD : n % 60 = d at *
    generalize hQ : n / 60 = q at *
    generalize bigL X i = L at *
    repeat' (first
    | ((with_reducible first | refine optP_id ?_ | refine condP_id ?_ | refine resP_id ?_); conv => { arg 1; simp (disch := first | assumption | omega) only [push_cast, ↓reduceIte, reduceIte, Nat.reduceEqDiff, Nat.reduceAdd, Nat.reduceSub, Nat.reduceMul, Nat.reduceBEq, Int.reduceNeg, e0, e3, em] }; first | ((with_reducible refine optP_id ?_); refine optP_some ?_) | ((with_reducible refine condP_id ?_); first | refine qcy ?_ | refine qcx ?_ | refine qco ?_ | refine condP_decn (fun hc => ?_) (fun hc => ?_) | refine condP_dec (fun hc => ?_) (fun hc => ?_) | refine qct ?_ | refine qcf ?_ | refine condP_bool (fun hc => ?_) (fun hc => ?_)) | ((with_reducible refine resP_id ?_); refine resP_one ?_))
    | refine wk_seq ?_ | refine wk_region ?_ | refine wk_block ?_ | refine wk_inBlock ?_ | refine wk_skip ?_ | refine wo_nil ?_ | refine wk_exit ?_ | refine exitK_code ?_ | refine exitK_hit ?_ | refine exitK_miss rfl ?_ | refine exitK_inLoop ?_ | refine wk_cond ?_ | refine wk_ret ?_ | refine wk_nil ?_ | refine wo_dst rfl (opR_pure ?_) | refine wo_nodst (opR_pure ?_)
    | refine give_ret ?_ | refine give_end ?_)
    conv => { arg 1; simp (disch := first | assumption | omega) only [push_cast, ↓reduceIte, reduceIte, Nat.reduceEqDiff, Nat.reduceAdd, Nat.reduceSub, Nat.reduceMul, Nat.reduceBEq, Int.reduceNeg, ap22] }
    refine optP_one (x := (d : Int)) (e' := 3) (rw' := true) encI_len (fun _ => rfl) (by omega) (by omega) (fun hn => by obtain ⟨q0, q1, q2⟩ := hown hn; simp (disch := first | assumption | omega) only [push_cast, ↓reduceIte, reduceIte, Nat.reduceEqDiff, Nat.reduceAdd, Nat.reduceSub, Nat.reduceMul, Nat.reduceBEq, Int.reduceNeg]; exact q2) (by unfold encI; simp (disch := first | assumption | omega) only [push_cast, ↓reduceIte, reduceIte, Nat.reduceEqDiff, Nat.reduceAdd, Nat.reduceSub, Nat.reduceMul, Nat.reduceBEq, Int.reduceNeg]) ?_
    intro H3 n3 new3 keep3
    simp only [next_new] at n3 new3 keep3
    repeat' (first
    | ((with_reducible first | refine optP_id ?_ | refine condP_id ?_ | refine resP_id ?_); conv => { arg 1; simp (disch := first | assumption | omega) only [push_cast, ↓reduceIte, reduceIte, Nat.reduceEqDiff, Nat.reduceAdd, Nat.reduceSub, Nat.reduceMul, Nat.reduceBEq, Int.reduceNeg, e0, e3, eq] }; first | ((with_reducible refine optP_id ?_); refine optP_some ?_) | ((with_reducible refine condP_id ?_); first | refine qcy ?_ | refine qcx ?_ | refine qco ?_ | refine condP_decn (fun hc => ?_) (fun hc => ?_) | refine condP_dec (fun hc => ?_) (fun hc => ?_) | refine qct ?_ | refine qcf ?_ | refine condP_bool (fun hc => ?_) (fun hc => ?_)) | ((with_reducible refine resP_id ?_); refine resP_one ?_))
    | refine wk_seq ?_ | refine wk_region ?_ | refine wk_block ?_ | refine wk_inBlock ?_ | refine wk_skip ?_ | refine wo_nil ?_ | refine wk_exit ?_ | refine exitK_code ?_ | refine exitK_hit ?_ | refine exitK_miss rfl ?_ | refine exitK_inLoop ?_ | refine wk_cond ?_ | refine wk_ret ?_ | refine wk_nil ?_ | refine wo_dst rfl (opR_pure ?_) | refine wo_nodst (opR_pure ?_)
    | refine give_ret ?_ | refine give_end ?_)
    refine next q _ _ (by omega) ⟨i + 1, q, H.next + 1, rfl, hY', .inr ?_, by rw [hst]; exact fun _ => ⟨by omega, by omega, new3⟩, ⟨by omega, fun c hc => ?_⟩, by simp (disch := first | assumption | omega) only [push_cast, ↓reduceIte, reduceIte, Nat.reduceEqDiff, Nat.reduceAdd, Nat.reduceSub, Nat.reduceMul, Nat.reduceBEq, Int.reduceNeg], by rw [hst]; simp (disch := first | assumption | omega) only [push_cast, ↓reduceIte, reduceIte, Nat.reduceEqDiff, Nat.reduceAdd, Nat.reduceSub, Nat.reduceMul, Nat.reduceBEq, Int.reduceNeg]⟩
    · rcases hlast' with q1 | q1
      · left; rw [Nat.add_sub_cancel, ← hY, hD]; exact q1
      · exact .inr q1
    · rw [keep3 c (by omega) (fun hn => by have := (hown hn).1; omega)]
      simp (disch := first | assumption | omega) only [push_cast, ↓reduceIte, reduceIte, Nat.reduceEqDiff, Nat.reduceAdd, Nat.reduceSub, Nat.reduceMul, Nat.reduceBEq, Int.reduceNeg]
      exact gr.2 c hc
  · have n0 : ¬ (n : Int) > 0 := by omega
    have hz : X / 60 ^ i = 0 := by omega
    have hlt : X < 60 ^ i := by
      rcases Nat.lt_or_ge X (60 ^ i) with q | q
      · exact q
      · have := Nat.div_pos q (pow60_pos i); omega
    have hi10 : i ≤ 10 := by
      rcases hlast with q | q | q
      · omega
      · apply Classical.byContradiction
        intro hh
        apply q
        have : 60 ^ 10 ≤ 60 ^ (i - 1) := Nat.pow_le_pow_right (by decide) (by omega)
        rw [Nat.div_eq_of_lt (by omega)]
      · omega
    have hlen := bigL_len X i
    have hne : noEnd (bigL X i) := by
      rcases hlast with q | q | q
      · left; rw [q]; rfl
      · rcases Nat.eq_zero_or_pos i with q0 | q0
        · left; rw [q0]; rfl
        · obtain ⟨j, rfl⟩ : ∃ j, i = j + 1 := ⟨i - 1, by omega⟩
          right
          rw [hlen, Nat.add_sub_cancel, bigL_step, List.getElem?_append_right (by rw [bigL_len]; exact Nat.le_refl _), bigL_len, Nat.sub_self]
          intro hh
          have := Option.some.inj hh
          rw [Nat.add_sub_cancel] at q
          omega
      · omega
    repeat' (first
    | ((with_reducible first | refine optP_id ?_ | refine condP_id ?_ | refine resP_id ?_); conv => { arg 1; simp (disch := first | assumption | omega) only [push_cast, ↓reduceIte, reduceIte, Nat.reduceEqDiff, Nat.reduceAdd, Nat.reduceSub, Nat.reduceMul, Nat.reduceBEq, Int.reduceNeg, e0, e3] }; first | ((with_reducible refine optP_id ?_); refine optP_some ?_) | ((with_reducible refine condP_id ?_); first | refine qcy ?_ | refine qcx ?_ | refine qco ?_ | refine condP_decn (fun hc => ?_) (fun hc => ?_) | refine condP_dec (fun hc => ?_) (fun hc => ?_) | refine qct ?_ | refine qcf ?_ | refine condP_bool (fun hc => ?_) (fun hc => ?_)) | ((with_reducible refine resP_id ?_); refine resP_one ?_))
    | refine wk_seq ?_ | refine wk_region ?_ | refine wk_block ?_ | refine wk_inBlock ?_ | refine wk_skip ?_ | refine wo_nil ?_ | refine wk_exit ?_ | refine exitK_code ?_ | refine exitK_hit ?_ | refine exitK_miss rfl ?_ | refine exitK_inLoop ?_ | refine wk_cond ?_ | refine wk_ret ?_ | refine wk_nil ?_ | refine wo_dst rfl (opR_pure ?_) | refine wo_nodst (opR_pure ?_)
    | refine give_ret ?_ | refine give_end ?_)
    exact ⟨⟨_, _, rfl, OwnI.inn hown (by omega), bigL_digs X i, hne, by rw [bigL_leN, Nat.mod_eq_of_lt hlt], by omega⟩, gr⟩
set_option maxRecDepth 100000 in
set_option maxHeartbeats 8000000 in
theorem rpower_w (k : Nat) (hk : k ≤ 100) (h : AHeap) :
    Wc pr (.func 109) [.int .i64 (k : Int)] h fun r h' => (∃ m a c, r = .slice a m.length c ∧ IIn h' (.slice a m.length c) m ∧ digs m ∧ leN m = 60 ^ k ∧ m.length = k + 1) ∧ Gr h h' := by
  refine wc_func Tryz.func109 rfl rfl rfl rfl ?_
  obtain ⟨N, hN⟩ : ∃ N, N = k + 1 := ⟨_, rfl⟩
  have eN : (k : Int) + 1 = (N : Int) := by omega
  have mk := mk22 N (by omega)
  have hkN : k < (List.replicate N (0 : Int)).length := by rw [List.length_replicate]; omega
  have ov : over (ints .i64 (List.replicate N 0)) k [.int .i64 1] = some (ints .i64 ((List.replicate N 0).set k 1)) := ints_over .i64 _ hkN
  have hl : ((List.replicate N (0 : Int)).set k 1).length = N := by rw [List.length_set, List.length_replicate]
  have hv : leN ((List.replicate N (0 : Int)).set k 1) = 60 ^ k := by
    have := leN_set hkN 1
    rw [List.getElem_replicate, leN_zeros] at this
    simpa using this
  have hd : digs ((List.replicate N (0 : Int)).set k 1) := digs_set (fun x hx => by rw [List.eq_of_mem_replicate hx]; omega) k (by omega)
  generalize hC : ints .i64 (List.replicate N 0) = C at *
  generalize (List.replicate N (0 : Int)).set k 1 = M at *
  generalize hC2 : ints .i64 M = C2 at *
  repeat' (first
    | ((with_reducible first | refine optP_id ?_ | refine resP_id ?_); conv => { arg 1; simp (disch := first | assumption | omega) only [push_cast, ↓reduceIte, reduceIte, Nat.reduceEqDiff, Nat.reduceAdd, Nat.reduceSub, Nat.reduceMul, Nat.reduceBEq, Int.reduceNeg, eN, mk, ov, Nat.zero_add, Nat.mul_one] }; first | ((with_reducible refine optP_id ?_); refine optP_some ?_) | ((with_reducible refine resP_id ?_); refine resP_one ?_))
    | refine wk_seq ?_ | refine wk_region ?_ | refine wo_nil ?_ | refine wk_ret ?_ | refine wk_nil ?_ | refine wo_dst rfl (opR_pure ?_) | refine wo_nodst (opR_pure ?_)
    | refine give_ret ?_ | refine give_end ?_)
  have hin : IIn ((h.new (.cells C 3 true)).set h.next (.cells C2 3 true)) (.slice (some ⟨h.next, 0, none⟩) M.length (EX + N)) M := ints_inI (rw' := true) (by simp only [next_set, next_new]; omega) (by rw [capLo_ex, hl]; exact Nat.le_refl _) (by rw [hC2]; simp (disch := first | assumption | omega) only [push_cast, ↓reduceIte, reduceIte, Nat.reduceEqDiff, Nat.reduceAdd, Nat.reduceSub, Nat.reduceMul, Nat.reduceBEq, Int.reduceNeg])
  exact ⟨⟨M, some ⟨h.next, 0, none⟩, EX + N, by rw [hl], hin, hd, hv, by omega⟩, by (repeat (first | exact Gr.refl _ | assumption | (refine Gr.trans ?_ (by assumption)) | refine Gr.set ?_ (by first | exact Nat.le_refl _ | omega | (simp only [next_new, next_set]; omega)) _ | refine Gr.new ?_ _))⟩
end Go.Proofs.YtcfohcpcepeolaaGreatDoor
/- Contracts of the reference: over, plus, placed; numberOf of great numbers. -/
namespace Go.Proofs.YtcfohcpcepeolaaGreatDoor
open Go.Ev
theorem drop_cons {l : List Int} {k : Nat} (hk : k < l.length) : leN (l.drop k) = (l[k]).toNat + 60 * leN (l.drop (k + 1)) := by
  rw [List.drop_eq_getElem_cons hk, leN]
theorem drop_set {l : List Int} {k : Nat} (hk : k < l.length) (v : Int) : leN ((l.set k v).drop k) = v.toNat + 60 * leN (l.drop (k + 1)) := by
  rw [drop_cons (by rw [List.length_set]; exact hk), List.getElem_set_self, List.drop_set_of_lt (by omega)]
set_option maxRecDepth 100000 in
set_option maxHeartbeats 8000000 in
theorem rover_w (x : List Int) (d : Nat) (hx : digs x) (lx : x.length ≤ 200) (hd : 1 ≤ d) (hd2 : d ≤ 1099511627776) (v : Value) (h : AHeap) (hv : IIn h v x) :
    Wc pr (.func 91) [v, .int .i64 (d : Int)] h fun r h' => (∃ m a c, r = .tuple #[.slice a m.length c, .int .i64 ((leN x % d : Nat) : Int)] ∧ IIn h' (.slice a m.length c) m ∧ digs m ∧ noEnd m ∧ leN m = leN x / d ∧ m.length ≤ 200) ∧ Gr h h' := by
  obtain ⟨ax, cx, rfl, _, hvx⟩ := id hv
  obtain ⟨N, hN⟩ : ∃ N, N = x.length := ⟨_, rfl⟩
  have mk := mk22 N (by omega)
  rw [hN] at mk
  refine wc_func Tryz.func91 rfl rfl rfl rfl ?_
  repeat' (first
    | ((with_reducible first | refine optP_id ?_ | refine condP_id ?_ | refine resP_id ?_ | refine callT_of ?_); conv => { arg 1; simp (disch := first | assumption | omega) only [push_cast, ↓reduceIte, reduceIte, Nat.reduceEqDiff, Nat.reduceAdd, Nat.reduceSub, Nat.reduceMul, Nat.reduceBEq, Int.reduceNeg, mk] }; first | ((with_reducible refine optP_id ?_); refine optP_some ?_) | ((with_reducible refine condP_id ?_); first | refine qcy ?_ | refine qcx ?_ | refine qco ?_ | refine condP_decn (fun hc => ?_) (fun hc => ?_) | refine condP_dec (fun hc => ?_) (fun hc => ?_) | refine qct ?_ | refine qcf ?_ | refine condP_bool (fun hc => ?_) (fun hc => ?_)) | ((with_reducible refine resP_id ?_); refine resP_two ?_) | ((with_reducible refine callT_to ?_); refine callP_plain ?_))
    | refine wk_seq ?_ | refine wk_region ?_ | refine wk_block ?_ | refine wk_inBlock ?_ | refine wk_skip ?_ | refine wo_nil ?_ | refine wk_exit ?_ | refine exitK_code ?_ | refine exitK_hit ?_ | refine exitK_miss rfl ?_ | refine exitK_inLoop ?_ | refine wk_cond ?_ | refine wk_ret ?_ | refine wk_nil ?_ | refine wo_dst rfl (opR_call ?_) | refine wo_nodst (opR_call ?_) | refine wo_dst rfl (opR_pure ?_) | refine wo_nodst (opR_pure ?_)
    | refine give_ret ?_ | refine give_end ?_)
  refine wk_loop (fun n E H => ∃ (k : Nat) (O : List Int), n = k ∧ k ≤ x.length ∧ O.length = x.length ∧ digs O ∧ leN (O.drop k) = leN (x.drop k) / d ∧ Gr h H ∧ h.next < H.next ∧ H.get h.next = some (.cells (ints .i64 O) 3 true) ∧ E.look 0 top = .slice ax x.length cx ∧ E.look 1 top = .int .i64 (d : Int) ∧ E.look 6 top = .slice (some ⟨h.next, 0, none⟩) x.length (EX + x.length) ∧ E.look 7 top = .int .i64 ((leN (x.drop k) % d : Nat) : Int) ∧ E.look 8 top = .int .i64 ((k : Int) - 1)) x.length
    ⟨x.length, List.replicate x.length 0, rfl, Nat.le_refl _, List.length_replicate, fun z hz => by rw [List.eq_of_mem_replicate hz]; omega, by simp [leN], by (repeat (first | exact Gr.refl _ | assumption | (refine Gr.trans ?_ (by assumption)) | refine Gr.set ?_ (by first | exact Nat.le_refl _ | omega | (simp only [next_new, next_set]; omega)) _ | refine Gr.new ?_ _)), by simp only [next_new]; omega, by simp (disch := first | assumption | omega) only [push_cast, ↓reduceIte, reduceIte, Nat.reduceEqDiff, Nat.reduceAdd, Nat.reduceSub, Nat.reduceMul, Nat.reduceBEq, Int.reduceNeg], by simp (disch := first | assumption | omega) only [push_cast, ↓reduceIte, reduceIte, Nat.reduceEqDiff, Nat.reduceAdd, Nat.reduceSub, Nat.reduceMul, Nat.reduceBEq, Int.reduceNeg], by simp (disch := first | assumption | omega) only [push_cast, ↓reduceIte, reduceIte, Nat.reduceEqDiff, Nat.reduceAdd, Nat.reduceSub, Nat.reduceMul, Nat.reduceBEq, Int.reduceNeg], by simp (disch := first | assumption | omega) only [push_cast, ↓reduceIte, reduceIte, Nat.reduceEqDiff, Nat.reduceAdd, Nat.reduceSub, Nat.reduceMul, Nat.reduceBEq, Int.reduceNeg], by rw [List.drop_length]; show _ = Value.int .i64 ((0 % d : Nat) : Int); rw [Nat.zero_mod]; simp (disch := first | assumption | omega) only [push_cast, ↓reduceIte, reduceIte, Nat.reduceEqDiff, Nat.reduceAdd, Nat.reduceSub, Nat.reduceMul, Nat.reduceBEq, Int.reduceNeg, Int.natCast_zero], by simp (disch := first | assumption | omega) only [push_cast, ↓reduceIte, reduceIte, Nat.reduceEqDiff, Nat.reduceAdd, Nat.reduceSub, Nat.reduceMul, Nat.reduceBEq, Int.reduceNeg]⟩ ?_
  rintro n E H ⟨k, O, rfl, hk, lO, dO, vO, gr, hnx, cO, e0, e1, e6, e7, e8⟩ next
  by_cases hz : n = 0
  · subst hz
    have n0 : ¬ ((((0 : Nat) : Int) - 1) ≥ 0) := by omega
    rw [List.drop_zero] at e7
    rw [List.drop_zero, List.drop_zero] at vO
    repeat' (first
    | ((with_reducible first | refine optP_id ?_ | refine condP_id ?_ | refine resP_id ?_ | refine callT_of ?_); conv => { arg 1; simp (disch := first | assumption | omega) only [push_cast, ↓reduceIte, reduceIte, Nat.reduceEqDiff, Nat.reduceAdd, Nat.reduceSub, Nat.reduceMul, Nat.reduceBEq, Int.reduceNeg, e0, e1, e6, e7, e8] }; first | ((with_reducible refine optP_id ?_); refine optP_some ?_) | ((with_reducible refine condP_id ?_); first | refine qcy ?_ | refine qcx ?_ | refine qco ?_ | refine condP_decn (fun hc => ?_) (fun hc => ?_) | refine condP_dec (fun hc => ?_) (fun hc => ?_) | refine qct ?_ | refine qcf ?_ | refine condP_bool (fun hc => ?_) (fun hc => ?_)) | ((with_reducible refine resP_id ?_); refine resP_two ?_) | ((with_reducible refine callT_to ?_); refine callP_plain ?_))
    | refine wk_seq ?_ | refine wk_region ?_ | refine wk_block ?_ | refine wk_inBlock ?_ | refine wk_skip ?_ | refine wo_nil ?_ | refine wk_exit ?_ | refine exitK_code ?_ | refine exitK_hit ?_ | refine exitK_miss rfl ?_ | refine exitK_inLoop ?_ | refine wk_cond ?_ | refine wk_ret ?_ | refine wk_nil ?_ | refine wo_dst rfl (opR_call ?_) | refine wo_nodst (opR_call ?_) | refine wo_dst rfl (opR_pure ?_) | refine wo_nodst (opR_pure ?_)
    | refine give_ret ?_ | refine give_end ?_)
    have hin : IIn H (.slice (some ⟨h.next, 0, none⟩) O.length (EX + x.length)) O := ints_inI hnx (by rw [capLo_ex, lO]; exact Nat.le_refl _) cO
    rw [lO] at hin
    refine (trim_w O dO _ _ hin (by omega)).mono ?_
    rintro _ _ ⟨⟨m, am, cm, rfl, im, dm, em, vm, lm, _⟩, rfl⟩
    repeat' (first
    | ((with_reducible first | refine optP_id ?_ | refine condP_id ?_ | refine resP_id ?_ | refine callT_of ?_); conv => { arg 1; simp (disch := first | assumption | omega) only [push_cast, ↓reduceIte, reduceIte, Nat.reduceEqDiff, Nat.reduceAdd, Nat.reduceSub, Nat.reduceMul, Nat.reduceBEq, Int.reduceNeg, e7] }; first | ((with_reducible refine optP_id ?_); refine optP_some ?_) | ((with_reducible refine condP_id ?_); first | refine qcy ?_ | refine qcx ?_ | refine qco ?_ | refine condP_decn (fun hc => ?_) (fun hc => ?_) | refine condP_dec (fun hc => ?_) (fun hc => ?_) | refine qct ?_ | refine qcf ?_ | refine condP_bool (fun hc => ?_) (fun hc => ?_)) | ((with_reducible refine resP_id ?_); refine resP_two ?_) | ((with_reducible refine callT_to ?_); refine callP_plain ?_))
    | refine wk_seq ?_ | refine wk_region ?_ | refine wk_block ?_ | refine wk_inBlock ?_ | refine wk_skip ?_ | refine wo_nil ?_ | refine wk_exit ?_ | refine exitK_code ?_ | refine exitK_hit ?_ | refine exitK_miss rfl ?_ | refine exitK_inLoop ?_ | refine wk_cond ?_ | refine wk_ret ?_ | refine wk_nil ?_ | refine wo_dst rfl (opR_call ?_) | refine wo_nodst (opR_call ?_) | refine wo_dst rfl (opR_pure ?_) | refine wo_nodst (opR_pure ?_)
    | refine give_ret ?_ | refine give_end ?_)
    exact ⟨⟨m, am, cm, rfl, im, dm, em, by rw [vm, vO], by omega⟩, gr⟩
  · obtain ⟨j, rfl⟩ : ∃ j, n = j + 1 := ⟨n - 1, by omega⟩
    have ej : (((j + 1 : Nat) : Int) - 1) = (j : Int) := by omega
    rw [ej] at e8
    have hj : j < x.length := by omega
    have j0 : (j : Int) ≥ 0 := by omega
    obtain ⟨bx, offx, allx, rwx, hax, hbx, hgx, htx⟩ := hvx (by intro h; rw [h] at hj; exact absurd hj (Nat.not_lt_zero _))
    have hx1 := at_cut1 _ _ _ (htx j hj)
    rw [Nat.mul_one] at hx1
    have dx := hx _ (List.getElem_mem hj)
    have tx := drop_cons hj
    obtain ⟨xi, hxi⟩ : ∃ xi : Nat, x[j] = (xi : Int) := ⟨x[j].toNat, by omega⟩
    rw [hxi, Int.toNat_natCast] at tx
    rw [hxi] at hx1 dx
    have hgxH : H.get bx = some (.cells allx 3 rwx) := by rw [gr.2 bx hbx]; exact hgx
    have e0' : E.look 0 top = .slice (some ⟨bx, offx, none⟩) x.length cx := by rw [e0, hax]
    have txm : leN (x.drop j) = leN (x.drop (j + 1)) * 60 + xi := by omega
    have hOj : j < O.length := by omega
    have hset := drop_set hOj
    obtain ⟨s1, s2, s3⟩ := div_step (leN (x.drop (j + 1))) xi d (by omega) (by omega)
    rw [← txm] at s1 s2 s3
    have hr : leN (x.drop (j + 1)) % d < d := Nat.mod_lt _ (by omega)
    have hq60 : (leN (x.drop (j + 1)) % d * 60 + xi) / d < 60 := by rw [s1]; exact Nat.mod_lt _ (by decide)
    have ov : over (ints .i64 O) j [.int .i64 (((leN (x.drop (j + 1)) % d * 60 + xi) / d : Nat) : Int)] = some (ints .i64 (O.set j (((leN (x.drop (j + 1)) % d * 60 + xi) / d : Nat) : Int))) := ints_over .i64 _ hOj
    have hds : digs (O.set j (((leN (x.drop (j + 1)) % d * 60 + xi) / d : Nat) : Int)) := digs_set dO j (by omega)
    have hls : (O.set j (((leN (x.drop (j + 1)) % d * 60 + xi) / d : Nat) : Int)).length = x.length := by rw [List.length_set]; exact lO
    have hvs : leN ((O.set j (((leN (x.drop (j + 1)) % d * 60 + xi) / d : Nat) : Int)).drop j) = leN (x.drop j) / d := by
      rw [hset, Int.toNat_natCast, vO, s3, s1]; omega
    have eR : ((leN (x.drop (j + 1)) % d : Nat) : Int) * 60 + (xi : Int) = ((leN (x.drop (j + 1)) % d * 60 + xi : Nat) : Int) := by omega
    generalize hRR : leN (x.drop (j + 1)) % d * 60 + xi = R at *
    have hRb : R < 70000000000000 := by omega
    have hRm : R % d = leN (x.drop j) % d := s2
    generalize leN (x.drop (j + 1)) % d = r0 at *
    have n0 : ¬ (d : Int) = 0 := by omega
    have eQ : (R : Int) / (d : Int) = ((R / d : Nat) : Int) := rfl
    have eM : (R : Int) % (d : Int) = ((R % d : Nat) : Int) := rfl
    generalize R / d = q at *
    have hmd : R % d < d := Nat.mod_lt _ (by omega)
    generalize R % d = m at *
    generalize O.set j (q : Int) = O2 at *
    generalize ints .i64 O = C at *
    generalize hC2 : ints .i64 O2 = C2 at *
    repeat' (first
    | ((with_reducible first | refine optP_id ?_ | refine condP_id ?_ | refine resP_id ?_ | refine callT_of ?_); conv => { arg 1; simp (disch := first | assumption | omega) only [push_cast, ↓reduceIte, reduceIte, Nat.reduceEqDiff, Nat.reduceAdd, Nat.reduceSub, Nat.reduceMul, Nat.reduceBEq, Int.reduceNeg, e0', e1, e6, e7, e8, hgxH, hx1, eR, eQ, eM, cO, ov, Nat.zero_add, Nat.mul_one] }; first | ((with_reducible refine optP_id ?_); refine optP_some ?_) | ((with_reducible refine condP_id ?_); first | refine qcy ?_ | refine qcx ?_ | refine qco ?_ | refine condP_decn (fun hc => ?_) (fun hc => ?_) | refine condP_dec (fun hc => ?_) (fun hc => ?_) | refine qct ?_ | refine qcf ?_ | refine condP_bool (fun hc => ?_) (fun hc => ?_)) | ((with_reducible refine resP_id ?_); refine resP_two ?_) | ((with_reducible refine callT_to ?_); refine callP_plain ?_))
    | refine wk_seq ?_ | refine wk_region ?_ | refine wk_block ?_ | refine wk_inBlock ?_ | refine wk_skip ?_ | refine wo_nil ?_ | refine wk_exit ?_ | refine exitK_code ?_ | refine exitK_hit ?_ | refine exitK_miss rfl ?_ | refine exitK_inLoop ?_ | refine wk_cond ?_ | refine wk_ret ?_ | refine wk_nil ?_ | refine wo_dst rfl (opR_call ?_) | refine wo_nodst (opR_call ?_) | refine wo_dst rfl (opR_pure ?_) | refine wo_nodst (opR_pure ?_)
    | refine give_ret ?_ | refine give_end ?_)
    exact next j _ _ (by omega) ⟨j, O2, rfl, by omega, hls, hds, hvs, by (repeat (first | exact Gr.refl _ | assumption | (refine Gr.trans ?_ (by assumption)) | refine Gr.set ?_ (by first | exact Nat.le_refl _ | omega | (simp only [next_new, next_set]; omega)) _ | refine Gr.new ?_ _)), by simp only [next_set]; omega, by rw [hC2]; simp (disch := first | assumption | omega) only [push_cast, ↓reduceIte, reduceIte, Nat.reduceEqDiff, Nat.reduceAdd, Nat.reduceSub, Nat.reduceMul, Nat.reduceBEq, Int.reduceNeg], by simp (disch := first | assumption | omega) only [push_cast, ↓reduceIte, reduceIte, Nat.reduceEqDiff, Nat.reduceAdd, Nat.reduceSub, Nat.reduceMul, Nat.reduceBEq, Int.reduceNeg, e0], by simp (disch := first | assumption | omega) only [push_cast, ↓reduceIte, reduceIte, Nat.reduceEqDiff, Nat.reduceAdd, Nat.reduceSub, Nat.reduceMul, Nat.reduceBEq, Int.reduceNeg, e1], by simp (disch := first | assumption | omega) only [push_cast, ↓reduceIte, reduceIte, Nat.reduceEqDiff, Nat.reduceAdd, Nat.reduceSub, Nat.reduceMul, Nat.reduceBEq, Int.reduceNeg, e6], by rw [← hRm]; simp (disch := first | assumption | omega) only [push_cast, ↓reduceIte, reduceIte, Nat.reduceEqDiff, Nat.reduceAdd, Nat.reduceSub, Nat.reduceMul, Nat.reduceBEq, Int.reduceNeg], by simp (disch := first | assumption | omega) only [push_cast, ↓reduceIte, reduceIte, Nat.reduceEqDiff, Nat.reduceAdd, Nat.reduceSub, Nat.reduceMul, Nat.reduceBEq, Int.reduceNeg]⟩
end Go.Proofs.YtcfohcpcepeolaaGreatDoor
/- Contracts of the reference: plus, placed. -/
namespace Go.Proofs.YtcfohcpcepeolaaGreatDoor
open Go.Ev
end Go.Proofs.YtcfohcpcepeolaaGreatDoor
namespace Go.Proofs.YtcfohcpcepeolaaGreatDoor
open Go.Ev
/-- a place-value number: X times 60 to the power s -/
def plR (X : Nat) (s : Int) (v : Value) (sh : Int) (H : AHeap) : Prop := (X = 0 ∧ v = .slice none 0 0 ∧ sh = 0) ∨ (X ≠ 0 ∧ ∃ d e, IIn H v d ∧ valid d ∧ d ≠ [] ∧ valN d * 60 ^ e = X ∧ sh = s + ((e : Nat) : Int) ∧ d.length ≤ 1000)
theorem plR.gr {X : Nat} {s sh : Int} {v : Value} {H H' : AHeap} (p : plR X s v sh H) (g : Gr H H') : plR X s v sh H' := by
  rcases p with p | ⟨p, d, e, i, q⟩
  · exact .inl p
  · exact .inr ⟨p, d, e, SlIn.gr i g, q⟩
/-- it is a list, whatever it holds -/
theorem plR.list {X : Nat} {s sh : Int} {v : Value} {H : AHeap} (p : plR X s v sh H) : ∃ d a c, v = .slice a d.length c ∧ IIn H (.slice a d.length c) d ∧ okC (.slice a d.length c) = true := by
  rcases p with ⟨_, rfl, _⟩ | ⟨_, d, _, i, _, hn, _⟩
  · exact ⟨[], none, 0, rfl, ⟨none, 0, rfl, Nat.zero_le _, fun h => absurd rfl h⟩, rfl⟩
  · obtain ⟨a, c, rfl, _, hv⟩ := id i
    obtain ⟨b, off, _, _, rfl, _⟩ := hv hn
    exact ⟨d, _, c, rfl, i, rfl⟩
set_option maxRecDepth 100000 in
set_option maxHeartbeats 8000000 in
theorem placed_w (x : List Int) (s : Int) (hs : -1000 ≤ s ∧ s ≤ 1000) (hd : digs x) (he : noEnd x) (lx : x.length ≤ 1000) (v : Value) (h : AHeap) (hv : IIn h v x) :
    Wc pr (.func 79) [v, .int .i64 s] h fun r h' => (∃ w sh b, r = .tuple #[.agg #[w, .int .i64 sh], .bool b] ∧ plR (leN x) s w sh h') ∧ Gr h h' := by
  obtain ⟨a, c, rfl, _⟩ := id hv
  refine wc_func Tryz.func79 rfl rfl rfl rfl ?_
  repeat' (first
    | ((with_reducible first | refine optP_id ?_ | refine condP_id ?_ | refine condO_id ?_ | refine resP_id ?_ | refine callT_of ?_); conv => { arg 1; simp (disch := first | assumption | omega) only [push_cast, ↓reduceIte, reduceIte, Nat.reduceEqDiff, Nat.reduceAdd, Nat.reduceSub, Nat.reduceMul, Nat.reduceBEq, Int.reduceNeg] }; first | ((with_reducible refine optP_id ?_); refine optP_some ?_) | ((with_reducible refine condP_id ?_); first | refine qcy ?_ | refine qcx ?_ | refine qco ?_ | refine condP_decn (fun hc => ?_) (fun hc => ?_) | refine condP_dec (fun hc => ?_) (fun hc => ?_) | refine qct ?_ | refine qcf ?_ | refine condP_bool (fun hc => ?_) (fun hc => ?_)) | ((with_reducible refine condO_id ?_); refine condO_some ?_) | ((with_reducible refine resP_id ?_); refine resP_two ?_) | ((with_reducible refine callT_to ?_); refine callP_plain ?_))
    | refine wk_seq ?_ | refine wk_region ?_ | refine wk_skip ?_ | refine wk_draw (by kernel_rfl) (by decide +kernel) ?_ | refine wk_drawn [(11, 16)] (by kernel_rfl) (by decide +kernel) ?_ | refine wo_nil ?_ | refine wk_cond ?_ | refine wk_ret ?_ | refine wk_nil ?_ | refine wo_dst rfl (opR_call ?_) | refine wo_nodst (opR_call ?_) | refine wo_dst rfl (opR_pick ?_) | refine wo_guard rfl rfl ?_ | refine wo_guardn rfl ?_ | refine wo_dst rfl (opR_pure ?_) | refine wo_nodst (opR_pure ?_)
    | refine wd_dst rfl (opR_call ?_) | refine wd_nodst (opR_call ?_) | refine wd_dst rfl (opR_pick ?_) | refine wd_guard rfl rfl ?_ | refine wd_guardn rfl ?_ | refine wd_dst rfl (opR_pure ?_) | refine wd_nodst (opR_pure ?_) | refine opR_call ?_ | refine opR_pick ?_ | refine opR_pure ?_ | (refine wd_nil ?_; refine doneD rfl rfl ?_ ?_) | refine again_nil | refine again_cons ?_ ?_ | refine again_plain rfl rfl rfl ?_ | refine again_guard rfl rfl rfl rfl ?_ | exact same_undef | exact same_of rfl rfl | refine give_ret ?_ | refine give_end ?_)
  refine (rdigits_w x hd he lx _ _ (SlIn.gr hv (by (repeat (first | exact Gr.refl _ | assumption | (refine Gr.trans ?_ (by assumption)) | refine Gr.set ?_ (by first | exact Nat.le_refl _ | omega | (simp only [next_new, next_set]; omega)) _ | refine Gr.new ?_ _))))).mono ?_
  rintro _ h1 ⟨⟨d, ad, cd, z, rfl, id', nd, hz, hzl, hbd⟩, g1⟩; have n1 := g1.1; have k1 := g1.2; try simp only [next_new, next_set] at n1 k1
  by_cases hd0 : d = []
  · have n0 : (d.length : Int) = 0 := len0.2 hd0
    have hx0 := nd.2.1.1 hd0
    repeat' (first
    | ((with_reducible first | refine optP_id ?_ | refine condP_id ?_ | refine condO_id ?_ | refine resP_id ?_ | refine callT_of ?_); conv => { arg 1; simp (disch := first | assumption | omega) only [push_cast, ↓reduceIte, reduceIte, Nat.reduceEqDiff, Nat.reduceAdd, Nat.reduceSub, Nat.reduceMul, Nat.reduceBEq, Int.reduceNeg, k1] }; first | ((with_reducible refine optP_id ?_); refine optP_some ?_) | ((with_reducible refine condP_id ?_); first | refine qcy ?_ | refine qcx ?_ | refine qco ?_ | refine condP_decn (fun hc => ?_) (fun hc => ?_) | refine condP_dec (fun hc => ?_) (fun hc => ?_) | refine qct ?_ | refine qcf ?_ | refine condP_bool (fun hc => ?_) (fun hc => ?_)) | ((with_reducible refine condO_id ?_); refine condO_some ?_) | ((with_reducible refine resP_id ?_); refine resP_two ?_) | ((with_reducible refine callT_to ?_); refine callP_plain ?_))
    | refine wk_seq ?_ | refine wk_region ?_ | refine wk_skip ?_ | refine wk_draw (by kernel_rfl) (by decide +kernel) ?_ | refine wk_drawn [(11, 16)] (by kernel_rfl) (by decide +kernel) ?_ | refine wo_nil ?_ | refine wk_cond ?_ | refine wk_ret ?_ | refine wk_nil ?_ | refine wo_dst rfl (opR_call ?_) | refine wo_nodst (opR_call ?_) | refine wo_dst rfl (opR_pick ?_) | refine wo_guard rfl rfl ?_ | refine wo_guardn rfl ?_ | refine wo_dst rfl (opR_pure ?_) | refine wo_nodst (opR_pure ?_)
    | refine wd_dst rfl (opR_call ?_) | refine wd_nodst (opR_call ?_) | refine wd_dst rfl (opR_pick ?_) | refine wd_guard rfl rfl ?_ | refine wd_guardn rfl ?_ | refine wd_dst rfl (opR_pure ?_) | refine wd_nodst (opR_pure ?_) | refine opR_call ?_ | refine opR_pick ?_ | refine opR_pure ?_ | (refine wd_nil ?_; refine doneD rfl rfl ?_ ?_) | refine again_nil | refine again_cons ?_ ?_ | refine again_plain rfl rfl rfl ?_ | refine again_guard rfl rfl rfl rfl ?_ | exact same_undef | exact same_of rfl rfl | refine give_ret ?_ | refine give_end ?_)
    exact ⟨⟨_, _, _, rfl, .inl ⟨hx0, rfl, rfl⟩⟩, by (repeat (first | exact Gr.refl _ | assumption | (refine Gr.trans ?_ (by assumption)) | refine Gr.set ?_ (by first | exact Nat.le_refl _ | omega | (simp only [next_new, next_set]; omega)) _ | refine Gr.new ?_ _))⟩
  · have n0 : ¬ (d.length : Int) = 0 := fun hh => hd0 (len0.1 hh)
    have hx0 : leN x ≠ 0 := fun hh => hd0 (nd.2.1.2 hh)
    have hz' := hz hd0
    have hdl : d.length ≤ 1000 := Nat.le_trans (nf_len nd (leN_lt hd)) lx
    repeat' (first
    | ((with_reducible first | refine optP_id ?_ | refine condP_id ?_ | refine condO_id ?_ | refine resP_id ?_ | refine callT_of ?_); conv => { arg 1; simp (disch := first | assumption | omega) only [push_cast, ↓reduceIte, reduceIte, Nat.reduceEqDiff, Nat.reduceAdd, Nat.reduceSub, Nat.reduceMul, Nat.reduceBEq, Int.reduceNeg, k1] }; first | ((with_reducible refine optP_id ?_); refine optP_some ?_) | ((with_reducible refine condP_id ?_); first | refine qcy ?_ | refine qcx ?_ | refine qco ?_ | refine condP_decn (fun hc => ?_) (fun hc => ?_) | refine condP_dec (fun hc => ?_) (fun hc => ?_) | refine qct ?_ | refine qcf ?_ | refine condP_bool (fun hc => ?_) (fun hc => ?_)) | ((with_reducible refine condO_id ?_); refine condO_some ?_) | ((with_reducible refine resP_id ?_); refine resP_two ?_) | ((with_reducible refine callT_to ?_); refine callP_plain ?_))
    | refine wk_seq ?_ | refine wk_region ?_ | refine wk_skip ?_ | refine wk_draw (by kernel_rfl) (by decide +kernel) ?_ | refine wk_drawn [(11, 16)] (by kernel_rfl) (by decide +kernel) ?_ | refine wo_nil ?_ | refine wk_cond ?_ | refine wk_ret ?_ | refine wk_nil ?_ | refine wo_dst rfl (opR_call ?_) | refine wo_nodst (opR_call ?_) | refine wo_dst rfl (opR_pick ?_) | refine wo_guard rfl rfl ?_ | refine wo_guardn rfl ?_ | refine wo_dst rfl (opR_pure ?_) | refine wo_nodst (opR_pure ?_)
    | refine wd_dst rfl (opR_call ?_) | refine wd_nodst (opR_call ?_) | refine wd_dst rfl (opR_pick ?_) | refine wd_guard rfl rfl ?_ | refine wd_guardn rfl ?_ | refine wd_dst rfl (opR_pure ?_) | refine wd_nodst (opR_pure ?_) | refine opR_call ?_ | refine opR_pick ?_ | refine opR_pure ?_ | (refine wd_nil ?_; refine doneD rfl rfl ?_ ?_) | refine again_nil | refine again_cons ?_ ?_ | refine again_plain rfl rfl rfl ?_ | refine again_guard rfl rfl rfl rfl ?_ | exact same_undef | exact same_of rfl rfl | refine give_ret ?_ | refine give_end ?_)
    all_goals exact ⟨⟨_, _, _, rfl, .inr ⟨hx0, d, z, IIn.set (IIn.set (SlIn.gr id' (by (repeat (first | exact Gr.refl _ | assumption | (refine Gr.trans ?_ (by assumption)) | refine Gr.set ?_ (by first | exact Nat.le_refl _ | omega | (simp only [next_new, next_set]; omega)) _ | refine Gr.new ?_ _)))) (fun b o q e hh => by
        obtain ⟨_, _, e2, _, hv2⟩ := id id'
        obtain ⟨b2, o2, _, _, e3, e4, _⟩ := hv2 hd0
        cases e2
        rw [e3] at e
        cases e
        omega)) (fun b o q e hh => by have := hbd b o q e; simp only [next_new] at this; omega), nd.1, hd0, hz', rfl, hdl⟩⟩, by (repeat (first | exact Gr.refl _ | assumption | (refine Gr.trans ?_ (by assumption)) | refine Gr.set ?_ (by first | exact Nat.le_refl _ | omega | (simp only [next_new, next_set]; omega)) _ | refine Gr.new ?_ _))⟩
end Go.Proofs.YtcfohcpcepeolaaGreatDoor
