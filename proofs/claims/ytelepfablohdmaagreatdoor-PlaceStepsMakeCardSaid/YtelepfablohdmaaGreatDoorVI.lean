/- Reciprocals of regular numbers. -/
import Derived.Test.YtelepfablohdmaaGreatDoorVG
set_option linter.unusedSimpArgs false
set_option linter.unusedVariables false
/- Contracts: exponents, inverse. -/
namespace Go.Proofs.YtelepfablohdmaaGreatDoor
open Go.Ev
/-- another prime than those of the base divides X -/
def irr (X : Nat) : Prop := ∃ R, R ≠ 1 ∧ R % 2 ≠ 0 ∧ R % 3 ≠ 0 ∧ R % 5 ≠ 0 ∧ R ∣ X
def expR (X : Nat) (r : Value) : Prop := (∃ a b c : Nat, X = 2 ^ a * 3 ^ b * 5 ^ c ∧ a ≤ 900 ∧ b ≤ 900 ∧ c ≤ 900 ∧ r = .tuple #[.int .i64 (a : Int), .int .i64 (b : Int), .int .i64 (c : Int), .int .i64 0]) ∨ (irr X ∧ r = .tuple #[.int .i64 0, .int .i64 0, .int .i64 0, .int .i64 31])
theorem not_dvd {a b n : Nat} (h : b % n ≠ 0) (hd : a ∣ b) : a % n ≠ 0 := fun h2 => h (Nat.mod_eq_zero_of_dvd (Nat.dvd_trans (Nat.dvd_of_mod_eq_zero h2) hd))
set_option maxRecDepth 100000 in
set_option maxHeartbeats 8000000 in
theorem exp_w (X : Nat) (hX0 : 0 < X) (hX : X < 60 ^ 146) (h : AHeap) : Wc pr (.func 81) [numV X] h fun r h' => expR X r ∧ Gr h h' := by
  rw [num_cells]
  have hf0 := ints_flat .u8 (numD X)
  have hc0 : takeN 146 (ints .u8 (numD X)) = some (ints .u8 (numD X)) := num_cut X
  have w0 := fun H => without_w X 2 hX0 hX (by omega) (by omega) H
  rw [num_cells] at w0
  have hn0 := num_len X
  refine wc_func Tryz.func81 rfl rfl rfl rfl ?_
  generalize ints .u8 (numD X) = C0 at *
  repeat' (first
    | ((with_reducible first | refine optP_id ?_ | refine condP_id ?_ | refine resP_id ?_ | refine callT_of ?_); conv => { arg 1; simp (disch := first | assumption | omega) only [push_cast, ↓reduceIte, reduceIte, Nat.reduceEqDiff, Nat.reduceAdd, Nat.reduceSub, Nat.reduceMul, Nat.reduceBEq, Int.reduceNeg, hf0, hc0] }; first | ((with_reducible refine optP_id ?_); refine optP_some ?_) | ((with_reducible refine condP_id ?_); first | refine qcy ?_ | refine qcx ?_ | refine qco ?_ | refine condP_decn (fun hc => ?_) (fun hc => ?_) | refine condP_dec (fun hc => ?_) (fun hc => ?_) | refine qct ?_ | refine qcf ?_ | refine condP_bool (fun hc => ?_) (fun hc => ?_)) | ((with_reducible refine resP_id ?_); refine resP_four ?_) | ((with_reducible refine callT_to ?_); refine callP_plain ?_))
    | refine wk_seq ?_ | refine wk_region ?_ | refine wk_skip ?_ | refine wo_nil ?_ | refine wk_cond ?_ | refine wk_ret ?_ | refine wk_nil ?_ | refine wo_dst rfl (opR_call ?_) | refine wo_nodst (opR_call ?_) | refine wo_dst rfl (opR_pure ?_) | refine wo_nodst (opR_pure ?_)
    | refine give_ret ?_ | refine give_end ?_)
  refine (w0 _).mono ?_
  rintro _ h1 ⟨⟨R1, a, rfl, q1, q2, q3, q4⟩, g1⟩; have n1 := g1.1; have k1 := g1.2; try simp only [next_new, next_set] at n1 k1
  have hR1 : R1 < 60 ^ 146 := Nat.lt_of_le_of_lt (by rw [q1]; exact Nat.le_mul_of_pos_right _ (Nat.pow_pos (by omega))) hX
  rw [num_cells]
  have c0 : h1.get h.next = some (.cells C0 87 true) := by rw [k1 _ (by omega)]; simp (disch := first | assumption | omega) only [push_cast, ↓reduceIte, reduceIte, Nat.reduceEqDiff, Nat.reduceAdd, Nat.reduceSub, Nat.reduceMul, Nat.reduceBEq, Int.reduceNeg]
  have s1 := storeK_all (num_ne R1) (num_len R1) (ints_flat .u8 (numD R1)) c0 (over_all (by rw [num_len, hn0]))
  have hc1 : takeN 146 (ints .u8 (numD R1)) = some (ints .u8 (numD R1)) := num_cut R1
  have w1 := fun H => without_w R1 3 q3 hR1 (by omega) (by omega) H
  rw [num_cells] at w1
  have hn1 := num_len R1
  generalize ints .u8 (numD R1) = C1 at *
  repeat' (first
    | ((with_reducible first | refine optP_id ?_ | refine condP_id ?_ | refine resP_id ?_ | refine callT_of ?_); conv => { arg 1; simp (disch := first | assumption | omega) only [push_cast, ↓reduceIte, reduceIte, Nat.reduceEqDiff, Nat.reduceAdd, Nat.reduceSub, Nat.reduceMul, Nat.reduceBEq, Int.reduceNeg, s1, hc1] }; first | ((with_reducible refine optP_id ?_); refine optP_some ?_) | ((with_reducible refine condP_id ?_); first | refine qcy ?_ | refine qcx ?_ | refine qco ?_ | refine condP_decn (fun hc => ?_) (fun hc => ?_) | refine condP_dec (fun hc => ?_) (fun hc => ?_) | refine qct ?_ | refine qcf ?_ | refine condP_bool (fun hc => ?_) (fun hc => ?_)) | ((with_reducible refine resP_id ?_); refine resP_four ?_) | ((with_reducible refine callT_to ?_); refine callP_plain ?_))
    | refine wk_seq ?_ | refine wk_region ?_ | refine wk_skip ?_ | refine wo_nil ?_ | refine wk_cond ?_ | refine wk_ret ?_ | refine wk_nil ?_ | refine wo_dst rfl (opR_call ?_) | refine wo_nodst (opR_call ?_) | refine wo_dst rfl (opR_pure ?_) | refine wo_nodst (opR_pure ?_)
    | refine give_ret ?_ | refine give_end ?_)
  refine (w1 _).mono ?_
  rintro _ h2 ⟨⟨R2, b, rfl, r1, r2, r3, r4⟩, g2⟩; have n2 := g2.1; have k2 := g2.2; try simp only [next_new, next_set] at n2 k2
  have hR2 : R2 < 60 ^ 146 := Nat.lt_of_le_of_lt (by rw [r1]; exact Nat.le_mul_of_pos_right _ (Nat.pow_pos (by omega))) hR1
  rw [num_cells]
  have c1 : h2.get h.next = some (.cells C1 87 true) := by rw [k2 _ (by omega)]; simp (disch := first | assumption | omega) only [push_cast, ↓reduceIte, reduceIte, Nat.reduceEqDiff, Nat.reduceAdd, Nat.reduceSub, Nat.reduceMul, Nat.reduceBEq, Int.reduceNeg]
  have s2 := storeK_all (num_ne R2) (num_len R2) (ints_flat .u8 (numD R2)) c1 (over_all (by rw [num_len, hn1]))
  have hc2 : takeN 146 (ints .u8 (numD R2)) = some (ints .u8 (numD R2)) := num_cut R2
  have w2 := fun H => without_w R2 5 r3 hR2 (by omega) (by omega) H
  rw [num_cells] at w2
  have hn2 := num_len R2
  generalize ints .u8 (numD R2) = C2 at *
  repeat' (first
    | ((with_reducible first | refine optP_id ?_ | refine condP_id ?_ | refine resP_id ?_ | refine callT_of ?_); conv => { arg 1; simp (disch := first | assumption | omega) only [push_cast, ↓reduceIte, reduceIte, Nat.reduceEqDiff, Nat.reduceAdd, Nat.reduceSub, Nat.reduceMul, Nat.reduceBEq, Int.reduceNeg, s2, hc2] }; first | ((with_reducible refine optP_id ?_); refine optP_some ?_) | ((with_reducible refine condP_id ?_); first | refine qcy ?_ | refine qcx ?_ | refine qco ?_ | refine condP_decn (fun hc => ?_) (fun hc => ?_) | refine condP_dec (fun hc => ?_) (fun hc => ?_) | refine qct ?_ | refine qcf ?_ | refine condP_bool (fun hc => ?_) (fun hc => ?_)) | ((with_reducible refine resP_id ?_); refine resP_four ?_) | ((with_reducible refine callT_to ?_); refine callP_plain ?_))
    | refine wk_seq ?_ | refine wk_region ?_ | refine wk_skip ?_ | refine wo_nil ?_ | refine wk_cond ?_ | refine wk_ret ?_ | refine wk_nil ?_ | refine wo_dst rfl (opR_call ?_) | refine wo_nodst (opR_call ?_) | refine wo_dst rfl (opR_pure ?_) | refine wo_nodst (opR_pure ?_)
    | refine give_ret ?_ | refine give_end ?_)
  refine (w2 _).mono ?_
  rintro _ h3 ⟨⟨R3, c, rfl, t1, t2, t3, t4⟩, g3⟩; have n3 := g3.1; have k3 := g3.2; try simp only [next_new, next_set] at n3 k3
  have hR3 : R3 < 60 ^ 146 := Nat.lt_of_le_of_lt (by rw [t1]; exact Nat.le_mul_of_pos_right _ (Nat.pow_pos (by omega))) hR2
  rw [num_cells]
  have c2 : h3.get h.next = some (.cells C2 87 true) := by rw [k3 _ (by omega)]; simp (disch := first | assumption | omega) only [push_cast, ↓reduceIte, reduceIte, Nat.reduceEqDiff, Nat.reduceAdd, Nat.reduceSub, Nat.reduceMul, Nat.reduceBEq, Int.reduceNeg]
  have s3 := storeK_all (num_ne R3) (num_len R3) (ints_flat .u8 (numD R3)) c2 (over_all (by rw [num_len, hn2]))
  have hc3 : takeN 146 (ints .u8 (numD R3)) = some (ints .u8 (numD R3)) := num_cut R3
  have w3 := fun H => isone_w R3 hR3 H
  rw [num_cells] at w3
  generalize ints .u8 (numD R3) = C3 at *
  repeat' (first
    | ((with_reducible first | refine optP_id ?_ | refine condP_id ?_ | refine resP_id ?_ | refine callT_of ?_); conv => { arg 1; simp (disch := first | assumption | omega) only [push_cast, ↓reduceIte, reduceIte, Nat.reduceEqDiff, Nat.reduceAdd, Nat.reduceSub, Nat.reduceMul, Nat.reduceBEq, Int.reduceNeg, s3, hc3] }; first | ((with_reducible refine optP_id ?_); refine optP_some ?_) | ((with_reducible refine condP_id ?_); first | refine qcy ?_ | refine qcx ?_ | refine qco ?_ | refine condP_decn (fun hc => ?_) (fun hc => ?_) | refine condP_dec (fun hc => ?_) (fun hc => ?_) | refine qct ?_ | refine qcf ?_ | refine condP_bool (fun hc => ?_) (fun hc => ?_)) | ((with_reducible refine resP_id ?_); refine resP_four ?_) | ((with_reducible refine callT_to ?_); refine callP_plain ?_))
    | refine wk_seq ?_ | refine wk_region ?_ | refine wk_skip ?_ | refine wo_nil ?_ | refine wk_cond ?_ | refine wk_ret ?_ | refine wk_nil ?_ | refine wo_dst rfl (opR_call ?_) | refine wo_nodst (opR_call ?_) | refine wo_dst rfl (opR_pure ?_) | refine wo_nodst (opR_pure ?_)
    | refine give_ret ?_ | refine give_end ?_)
  refine (w3 _).mono ?_
  rintro _ h4 ⟨rfl, g4⟩; have n4 := g4.1; have k4 := g4.2; try simp only [next_new, next_set] at n4 k4
  have d32 : R3 ∣ R2 := ⟨5 ^ c, t1⟩
  have d31 : R3 ∣ R1 := Nat.dvd_trans d32 ⟨3 ^ b, r1⟩
  have d30 : R3 ∣ X := Nat.dvd_trans d31 ⟨2 ^ a, q1⟩
  by_cases h1' : R3 = 1
  · rw [decide_eq_true h1']
    repeat' (first
    | ((with_reducible first | refine optP_id ?_ | refine condP_id ?_ | refine resP_id ?_ | refine callT_of ?_); conv => { arg 1; simp (disch := first | assumption | omega) only [push_cast, ↓reduceIte, reduceIte, Nat.reduceEqDiff, Nat.reduceAdd, Nat.reduceSub, Nat.reduceMul, Nat.reduceBEq, Int.reduceNeg, k4] }; first | ((with_reducible refine optP_id ?_); refine optP_some ?_) | ((with_reducible refine condP_id ?_); first | refine qcy ?_ | refine qcx ?_ | refine qco ?_ | refine condP_decn (fun hc => ?_) (fun hc => ?_) | refine condP_dec (fun hc => ?_) (fun hc => ?_) | refine qct ?_ | refine qcf ?_ | refine condP_bool (fun hc => ?_) (fun hc => ?_)) | ((with_reducible refine resP_id ?_); refine resP_four ?_) | ((with_reducible refine callT_to ?_); refine callP_plain ?_))
    | refine wk_seq ?_ | refine wk_region ?_ | refine wk_skip ?_ | refine wo_nil ?_ | refine wk_cond ?_ | refine wk_ret ?_ | refine wk_nil ?_ | refine wo_dst rfl (opR_call ?_) | refine wo_nodst (opR_call ?_) | refine wo_dst rfl (opR_pure ?_) | refine wo_nodst (opR_pure ?_)
    | refine give_ret ?_ | refine give_end ?_)
    refine ⟨.inl ⟨a, b, c, ?_, q4, r4, t4, rfl⟩, by (repeat (first | exact Gr.refl _ | assumption | (refine Gr.trans ?_ (by assumption)) | refine Gr.set ?_ (by first | exact Nat.le_refl _ | omega | (simp only [next_new, next_set]; omega)) _ | refine Gr.new ?_ _))⟩
    rw [q1, r1, t1, h1', Nat.one_mul, Nat.mul_comm, Nat.mul_comm (5 ^ c), Nat.mul_assoc]
  · rw [decide_eq_false h1']
    repeat' (first
    | ((with_reducible first | refine optP_id ?_ | refine condP_id ?_ | refine resP_id ?_ | refine callT_of ?_); conv => { arg 1; simp (disch := first | assumption | omega) only [push_cast, ↓reduceIte, reduceIte, Nat.reduceEqDiff, Nat.reduceAdd, Nat.reduceSub, Nat.reduceMul, Nat.reduceBEq, Int.reduceNeg, k4] }; first | ((with_reducible refine optP_id ?_); refine optP_some ?_) | ((with_reducible refine condP_id ?_); first | refine qcy ?_ | refine qcx ?_ | refine qco ?_ | refine condP_decn (fun hc => ?_) (fun hc => ?_) | refine condP_dec (fun hc => ?_) (fun hc => ?_) | refine qct ?_ | refine qcf ?_ | refine condP_bool (fun hc => ?_) (fun hc => ?_)) | ((with_reducible refine resP_id ?_); refine resP_four ?_) | ((with_reducible refine callT_to ?_); refine callP_plain ?_))
    | refine wk_seq ?_ | refine wk_region ?_ | refine wk_skip ?_ | refine wo_nil ?_ | refine wk_cond ?_ | refine wk_ret ?_ | refine wk_nil ?_ | refine wo_dst rfl (opR_call ?_) | refine wo_nodst (opR_call ?_) | refine wo_dst rfl (opR_pure ?_) | refine wo_nodst (opR_pure ?_)
    | refine give_ret ?_ | refine give_end ?_)
    exact ⟨.inr ⟨⟨R3, h1', not_dvd q2 d31, not_dvd r2 d32, t2, d30⟩, rfl⟩, by (repeat (first | exact Gr.refl _ | assumption | (refine Gr.trans ?_ (by assumption)) | refine Gr.set ?_ (by first | exact Nat.le_refl _ | omega | (simp only [next_new, next_set]; omega)) _ | refine Gr.new ?_ _))⟩
theorem max3 {P : Program} (h : AHeap) (ts : List TypeId) (a b c : Nat) : builtinOp P h .max ts [.int .i64 (a : Int), .int .i64 (b : Int), .int .i64 (c : Int)] = some (.int .i64 ((max (max a b) c : Nat) : Int), h) := by
  show some (Value.int .i64 (cond (ltI (cond (ltI (a : Int) (b : Int)) (b : Int) (a : Int)) (c : Int)) (c : Int) (cond (ltI (a : Int) (b : Int)) (b : Int) (a : Int))), h) = _
  rw [ltI_spec, ltI_spec]
  have e1 : cond (decide ((a : Int) < (b : Int))) (b : Int) (a : Int) = ((max a b : Nat) : Int) := by
    by_cases hab : (a : Int) < (b : Int)
    · rw [decide_eq_true hab, cond_true]; omega
    · rw [decide_eq_false hab, cond_false]; omega
  rw [e1]
  congr 2
  by_cases hab : ((max a b : Nat) : Int) < (c : Int)
  · rw [decide_eq_true hab, cond_true]; congr 1; omega
  · rw [decide_eq_false hab, cond_false]; congr 1; omega
theorem bv87 : buildV Tryz.prog 87 [] = some (.agg (ints .u8 (numD 0)).toArray) := by kernel_rfl
/-- the exponent of the power of 60 -/
def exE (a b c : Nat) : Nat := max (max ((a + 1) / 2) b) c
def inv60 (a b c : Nat) : Nat := 2 ^ (2 * exE a b c - a) * 3 ^ (exE a b c - b) * 5 ^ (exE a b c - c)
theorem inv60_mul (a b c : Nat) : 2 ^ a * 3 ^ b * 5 ^ c * inv60 a b c = 60 ^ exE a b c := inv_mul (by unfold exE; omega) (by unfold exE; omega) (by unfold exE; omega)
theorem inv60_pos (a b c : Nat) : 0 < inv60 a b c := Nat.mul_pos (Nat.mul_pos (Nat.pow_pos (by decide)) (Nat.pow_pos (by decide))) (Nat.pow_pos (by decide))
theorem inv60_le (a b c : Nat) : inv60 a b c ≤ 60 ^ exE a b c := by
  rw [← inv60_mul]
  exact Nat.le_mul_of_pos_left _ (Nat.mul_pos (Nat.mul_pos (Nat.pow_pos (by decide)) (Nat.pow_pos (by decide))) (Nat.pow_pos (by decide)))
def invR (X : Nat) (r : Value) : Prop := (∃ a b c : Nat, X = 2 ^ a * 3 ^ b * 5 ^ c ∧ exE a b c ≤ 100 ∧ r = .tuple #[numV (inv60 a b c), .int .i64 ((exE a b c : Nat) : Int), .int .i64 0]) ∨ (irr X ∧ r = .tuple #[numV 0, .int .i64 0, .int .i64 31])
theorem exE_le {a b c : Nat} (h : 2 ^ a * 3 ^ b * 5 ^ c < 60 ^ 16) : exE a b c ≤ 100 := by
  have p2 : 0 < 2 ^ a := Nat.pow_pos (by decide)
  have p3 : 0 < 3 ^ b := Nat.pow_pos (by decide)
  have p5 : 0 < 5 ^ c := Nat.pow_pos (by decide)
  have h2 : 2 ^ a ≤ 2 ^ a * 3 ^ b * 5 ^ c := by rw [Nat.mul_assoc]; exact Nat.le_mul_of_pos_right _ (Nat.mul_pos p3 p5)
  have h3 : 3 ^ b ≤ 2 ^ a * 3 ^ b * 5 ^ c := Nat.le_trans (Nat.le_mul_of_pos_left _ p2) (Nat.le_mul_of_pos_right _ p5)
  have h5 : 5 ^ c ≤ 2 ^ a * 3 ^ b * 5 ^ c := Nat.le_mul_of_pos_left _ (Nat.mul_pos p2 p3)
  have a1 := pow_small_k (by decide) h2 h
  have a2 := pow_small_k (by decide) h3 h
  have a3 := pow_small_k (by decide) h5 h
  unfold exE
  omega
set_option maxRecDepth 100000 in
set_option maxHeartbeats 8000000 in
theorem inv_w (X : Nat) (hX0 : 0 < X) (hX : X < 60 ^ 16) (h : AHeap) : Wc pr (.func 84) [numV X] h fun r h' => invR X r ∧ Gr h h' := by
  have hX146 : X < 60 ^ 146 := Nat.lt_of_lt_of_le hX (Nat.pow_le_pow_right (by decide) (by omega))
  have we := fun H => exp_w X hX0 hX146 H
  rw [num_cells] at we ⊢
  have hf0 := ints_flat .u8 (numD X)
  have hc0 : takeN 146 (ints .u8 (numD X)) = some (ints .u8 (numD X)) := num_cut X
  have zv := zv87
  have bv := bv87
  refine wc_func Tryz.func84 rfl rfl rfl rfl ?_
  generalize ints .u8 (numD X) = C0 at *
  generalize hZ : ints .u8 (numD 0) = Z at *
  repeat' (first
    | ((with_reducible first | refine optP_id ?_ | refine condP_id ?_ | refine resP_id ?_ | refine callT_of ?_); conv => { arg 1; simp (disch := first | assumption | omega) only [push_cast, ↓reduceIte, reduceIte, Nat.reduceEqDiff, Nat.reduceAdd, Nat.reduceSub, Nat.reduceMul, Nat.reduceBEq, Int.reduceNeg, hf0, hc0, zv] }; first | ((with_reducible refine optP_id ?_); refine optP_some ?_) | ((with_reducible refine condP_id ?_); first | refine qcy ?_ | refine qcx ?_ | refine qco ?_ | refine condP_decn (fun hc => ?_) (fun hc => ?_) | refine condP_dec (fun hc => ?_) (fun hc => ?_) | refine qct ?_ | refine qcf ?_ | refine condP_bool (fun hc => ?_) (fun hc => ?_)) | ((with_reducible refine resP_id ?_); refine resP_three ?_) | ((with_reducible refine callT_to ?_); refine callP_plain ?_))
    | refine wk_seq ?_ | refine wk_region ?_ | refine wk_skip ?_ | refine wo_nil ?_ | refine wk_cond ?_ | refine wk_ret ?_ | refine wk_nil ?_ | refine wo_dst rfl (opR_call ?_) | refine wo_nodst (opR_call ?_) | refine wo_dst rfl (opR_pure ?_) | refine wo_nodst (opR_pure ?_)
    | refine give_ret ?_ | refine give_end ?_)
  refine (we _).mono ?_
  rintro _ h1 ⟨⟨a, b, c, hE, ha, hb, hc, rfl⟩ | ⟨hi, rfl⟩, g1⟩; all_goals have n1 := g1.1; have k1 := g1.2; try simp only [next_new, next_set] at n1 k1
  · have hex := exE_le (by rw [← hE]; exact hX)
    have i1 : (a + 1) / 2 ≤ exE a b c := by unfold exE; omega
    have i2 : b ≤ exE a b c := by unfold exE; omega
    have i3 : c ≤ exE a b c := by unfold exE; omega
    have mx : ∀ H ts, builtinOp Tryz.prog H .max ts [.int .i64 (((a + 1) / 2 : Nat) : Int), .int .i64 (b : Int), .int .i64 (c : Int)] = some (.int .i64 ((exE a b c : Nat) : Int), H) := fun H ts => max3 H ts _ _ _
    have hmul := inv60_mul a b c
    have hpos := inv60_pos a b c
    have hle := inv60_le a b c
    have h145 : inv60 a b c < 60 ^ 145 := Nat.lt_of_le_of_lt hle (Nat.lt_of_le_of_lt (Nat.pow_le_pow_right (by decide) hex) ((Nat.pow_lt_pow_iff_right (by decide)).2 (by omega)))
    have hY : inv60 a b c = 2 ^ (2 * exE a b c - a) * 3 ^ (exE a b c - b) * 5 ^ (exE a b c - c) := rfl
    have p3 : 0 < 3 ^ (exE a b c - b) := Nat.pow_pos (by decide)
    have p5 : 0 < 5 ^ (exE a b c - c) := Nat.pow_pos (by decide)
    have y2 : 2 ^ (2 * exE a b c - a) * 3 ^ (exE a b c - b) < 60 ^ 145 := Nat.lt_of_le_of_lt (by rw [hY]; exact Nat.le_mul_of_pos_right _ p5) h145
    have y1 : 2 ^ (2 * exE a b c - a) < 60 ^ 145 := Nat.lt_of_le_of_lt (Nat.le_mul_of_pos_right _ p3) y2
    have y3 := h145
    rw [hY] at y3
    have fin : invR X (.tuple #[numV (inv60 a b c), .int .i64 ((exE a b c : Nat) : Int), .int .i64 0]) := .inl ⟨a, b, c, hE, hex, rfl⟩
    rw [hY] at fin
    generalize exE a b c = E at *
    obtain ⟨m, hm⟩ : ∃ m : Nat, m = (a + 1) / 2 := ⟨_, rfl⟩
    have e21 : ((a : Int) + 1) / 2 = (m : Int) := by omega
    rw [← hm] at mx
    obtain ⟨t2, ht2⟩ : ∃ t : Nat, t = 2 * E - a := ⟨_, rfl⟩
    obtain ⟨t3, ht3⟩ : ∃ t : Nat, t = E - b := ⟨_, rfl⟩
    obtain ⟨t5, ht5⟩ : ∃ t : Nat, t = E - c := ⟨_, rfl⟩
    have eA : (2 : Int) * (E : Int) - (a : Int) = (t2 : Int) := by omega
    have eB : (E : Int) - (b : Int) = (t3 : Int) := by omega
    have eC : (E : Int) - (c : Int) = (t5 : Int) := by omega
    rw [← ht2, ← ht3, ← ht5] at fin y3
    rw [← ht2, ← ht3] at y2
    rw [← ht2] at y1
    repeat' (first
    | ((with_reducible first | refine optP_id ?_ | refine condP_id ?_ | refine resP_id ?_ | refine callT_of ?_); conv => { arg 1; simp (disch := first | assumption | omega) only [push_cast, ↓reduceIte, reduceIte, Nat.reduceEqDiff, Nat.reduceAdd, Nat.reduceSub, Nat.reduceMul, Nat.reduceBEq, Int.reduceNeg, k1, e21, mx] }; first | ((with_reducible refine optP_id ?_); refine optP_some ?_) | ((with_reducible refine condP_id ?_); first | refine qcy ?_ | refine qcx ?_ | refine qco ?_ | refine condP_decn (fun hc => ?_) (fun hc => ?_) | refine condP_dec (fun hc => ?_) (fun hc => ?_) | refine qct ?_ | refine qcf ?_ | refine condP_bool (fun hc => ?_) (fun hc => ?_)) | ((with_reducible refine resP_id ?_); refine resP_three ?_) | ((with_reducible refine callT_to ?_); refine callP_plain ?_))
    | refine wk_seq ?_ | refine wk_region ?_ | refine wk_skip ?_ | refine wo_nil ?_ | refine wk_cond ?_ | refine wk_ret ?_ | refine wk_nil ?_ | refine wo_dst rfl (opR_call ?_) | refine wo_nodst (opR_call ?_) | refine wo_dst rfl (opR_pure ?_) | refine wo_nodst (opR_pure ?_)
    | refine give_ret ?_ | refine give_end ?_)
    refine (numof_w 1 (by omega) _).mono ?_
    rintro _ h2 ⟨rfl, g2⟩; have n2 := g2.1; have k2 := g2.2; try simp only [next_new, next_set] at n2 k2
    repeat' (first
    | ((with_reducible first | refine optP_id ?_ | refine condP_id ?_ | refine resP_id ?_ | refine callT_of ?_); conv => { arg 1; simp (disch := first | assumption | omega) only [push_cast, ↓reduceIte, reduceIte, Nat.reduceEqDiff, Nat.reduceAdd, Nat.reduceSub, Nat.reduceMul, Nat.reduceBEq, Int.reduceNeg, k1, k2, eA] }; first | ((with_reducible refine optP_id ?_); refine optP_some ?_) | ((with_reducible refine condP_id ?_); first | refine qcy ?_ | refine qcx ?_ | refine qco ?_ | refine condP_decn (fun hc => ?_) (fun hc => ?_) | refine condP_dec (fun hc => ?_) (fun hc => ?_) | refine qct ?_ | refine qcf ?_ | refine condP_bool (fun hc => ?_) (fun hc => ?_)) | ((with_reducible refine resP_id ?_); refine resP_three ?_) | ((with_reducible refine callT_to ?_); refine callP_plain ?_))
    | refine wk_seq ?_ | refine wk_region ?_ | refine wk_skip ?_ | refine wo_nil ?_ | refine wk_cond ?_ | refine wk_ret ?_ | refine wk_nil ?_ | refine wo_dst rfl (opR_call ?_) | refine wo_nodst (opR_call ?_) | refine wo_dst rfl (opR_pure ?_) | refine wo_nodst (opR_pure ?_)
    | refine give_ret ?_ | refine give_end ?_)
    refine (scaled_w 1 2 t2 (by rw [Nat.one_mul]; exact y1) (by omega) (by omega) (by omega) _).mono ?_
    rintro _ h3 ⟨rfl, g3⟩; have n3 := g3.1; have k3 := g3.2; try simp only [next_new, next_set] at n3 k3
    repeat' (first
    | ((with_reducible first | refine optP_id ?_ | refine condP_id ?_ | refine resP_id ?_ | refine callT_of ?_); conv => { arg 1; simp (disch := first | assumption | omega) only [push_cast, ↓reduceIte, reduceIte, Nat.reduceEqDiff, Nat.reduceAdd, Nat.reduceSub, Nat.reduceMul, Nat.reduceBEq, Int.reduceNeg, k1, k2, k3, eB] }; first | ((with_reducible refine optP_id ?_); refine optP_some ?_) | ((with_reducible refine condP_id ?_); first | refine qcy ?_ | refine qcx ?_ | refine qco ?_ | refine condP_decn (fun hc => ?_) (fun hc => ?_) | refine condP_dec (fun hc => ?_) (fun hc => ?_) | refine qct ?_ | refine qcf ?_ | refine condP_bool (fun hc => ?_) (fun hc => ?_)) | ((with_reducible refine resP_id ?_); refine resP_three ?_) | ((with_reducible refine callT_to ?_); refine callP_plain ?_))
    | refine wk_seq ?_ | refine wk_region ?_ | refine wk_skip ?_ | refine wo_nil ?_ | refine wk_cond ?_ | refine wk_ret ?_ | refine wk_nil ?_ | refine wo_dst rfl (opR_call ?_) | refine wo_nodst (opR_call ?_) | refine wo_dst rfl (opR_pure ?_) | refine wo_nodst (opR_pure ?_)
    | refine give_ret ?_ | refine give_end ?_)
    refine (scaled_w _ 3 t3 y2 (by omega) (by omega) (by omega) _).mono ?_
    rintro _ h4 ⟨rfl, g4⟩; have n4 := g4.1; have k4 := g4.2; try simp only [next_new, next_set] at n4 k4
    repeat' (first
    | ((with_reducible first | refine optP_id ?_ | refine condP_id ?_ | refine resP_id ?_ | refine callT_of ?_); conv => { arg 1; simp (disch := first | assumption | omega) only [push_cast, ↓reduceIte, reduceIte, Nat.reduceEqDiff, Nat.reduceAdd, Nat.reduceSub, Nat.reduceMul, Nat.reduceBEq, Int.reduceNeg, k1, k2, k3, k4, eC] }; first | ((with_reducible refine optP_id ?_); refine optP_some ?_) | ((with_reducible refine condP_id ?_); first | refine qcy ?_ | refine qcx ?_ | refine qco ?_ | refine condP_decn (fun hc => ?_) (fun hc => ?_) | refine condP_dec (fun hc => ?_) (fun hc => ?_) | refine qct ?_ | refine qcf ?_ | refine condP_bool (fun hc => ?_) (fun hc => ?_)) | ((with_reducible refine resP_id ?_); refine resP_three ?_) | ((with_reducible refine callT_to ?_); refine callP_plain ?_))
    | refine wk_seq ?_ | refine wk_region ?_ | refine wk_skip ?_ | refine wo_nil ?_ | refine wk_cond ?_ | refine wk_ret ?_ | refine wk_nil ?_ | refine wo_dst rfl (opR_call ?_) | refine wo_nodst (opR_call ?_) | refine wo_dst rfl (opR_pure ?_) | refine wo_nodst (opR_pure ?_)
    | refine give_ret ?_ | refine give_end ?_)
    refine (scaled_w _ 5 t5 y3 (by omega) (by omega) (by omega) _).mono ?_
    rintro _ h5 ⟨rfl, g5⟩; have n5 := g5.1; have k5 := g5.2; try simp only [next_new, next_set] at n5 k5
    rw [num_cells] at fin
    rw [num_cells]
    generalize hYY : 2 ^ t2 * 3 ^ t3 * 5 ^ t5 = YY at *
    have c1 : h5.get (h.next + 1) = some (.cells Z 87 true) := by rw [k5 _ (by omega), k4 _ (by omega), k3 _ (by omega), k2 _ (by omega), k1 _ (by omega)]; simp (disch := first | assumption | omega) only [push_cast, ↓reduceIte, reduceIte, Nat.reduceEqDiff, Nat.reduceAdd, Nat.reduceSub, Nat.reduceMul, Nat.reduceBEq, Int.reduceNeg]
    have s1 := storeK_all (num_ne YY) (num_len YY) (ints_flat .u8 (numD YY)) c1 (over_all (by rw [← hZ, num_len, num_len]))
    have s2 := storeK_all (H := h5.set (h.next + 1) (.cells (ints .u8 (numD YY)) 87 true)) (b := h.next + 1) (e := 87) (num_ne YY) (num_len YY) (ints_flat .u8 (numD YY)) (by simp (disch := first | assumption | omega) only [push_cast, ↓reduceIte, reduceIte, Nat.reduceEqDiff, Nat.reduceAdd, Nat.reduceSub, Nat.reduceMul, Nat.reduceBEq, Int.reduceNeg]) (over_all rfl)
    have hcY : takeN 146 (ints .u8 (numD YY)) = some (ints .u8 (numD YY)) := num_cut YY
    generalize ints .u8 (numD YY) = CY at *
    repeat' (first
    | ((with_reducible first | refine optP_id ?_ | refine condP_id ?_ | refine resP_id ?_ | refine callT_of ?_); conv => { arg 1; simp (disch := first | assumption | omega) only [push_cast, ↓reduceIte, reduceIte, Nat.reduceEqDiff, Nat.reduceAdd, Nat.reduceSub, Nat.reduceMul, Nat.reduceBEq, Int.reduceNeg, s1, s2, hcY] }; first | ((with_reducible refine optP_id ?_); refine optP_some ?_) | ((with_reducible refine condP_id ?_); first | refine qcy ?_ | refine qcx ?_ | refine qco ?_ | refine condP_decn (fun hc => ?_) (fun hc => ?_) | refine condP_dec (fun hc => ?_) (fun hc => ?_) | refine qct ?_ | refine qcf ?_ | refine condP_bool (fun hc => ?_) (fun hc => ?_)) | ((with_reducible refine resP_id ?_); refine resP_three ?_) | ((with_reducible refine callT_to ?_); refine callP_plain ?_))
    | refine wk_seq ?_ | refine wk_region ?_ | refine wk_skip ?_ | refine wo_nil ?_ | refine wk_cond ?_ | refine wk_ret ?_ | refine wk_nil ?_ | refine wo_dst rfl (opR_call ?_) | refine wo_nodst (opR_call ?_) | refine wo_dst rfl (opR_pure ?_) | refine wo_nodst (opR_pure ?_)
    | refine give_ret ?_ | refine give_end ?_)
    exact ⟨fin, by (repeat (first | exact Gr.refl _ | assumption | (refine Gr.trans ?_ (by assumption)) | refine Gr.set ?_ (by first | exact Nat.le_refl _ | omega | (simp only [next_new, next_set]; omega)) _ | refine Gr.new ?_ _))⟩
  · have fin : invR X (.tuple #[numV 0, .int .i64 0, .int .i64 31]) := .inr ⟨hi, rfl⟩
    rw [num_cells, hZ] at fin
    have c1 : h1.get (h.next + 1) = some (.cells Z 87 true) := by rw [k1 _ (by omega)]; simp (disch := first | assumption | omega) only [push_cast, ↓reduceIte, reduceIte, Nat.reduceEqDiff, Nat.reduceAdd, Nat.reduceSub, Nat.reduceMul, Nat.reduceBEq, Int.reduceNeg]
    have zne : Z ≠ [] := by rw [← hZ]; exact num_ne _
    have znl : Z.length = 146 := by rw [← hZ]; exact num_len _
    have znf : allFlat Z = true := by rw [← hZ]; exact ints_flat _ _
    have s1 := storeK_all zne znl znf c1 (over_all rfl)
    have hcz : takeN 146 Z = some Z := by rw [← hZ]; exact num_cut 0
    repeat' (first
    | ((with_reducible first | refine optP_id ?_ | refine condP_id ?_ | refine resP_id ?_ | refine callT_of ?_); conv => { arg 1; simp (disch := first | assumption | omega) only [push_cast, ↓reduceIte, reduceIte, Nat.reduceEqDiff, Nat.reduceAdd, Nat.reduceSub, Nat.reduceMul, Nat.reduceBEq, Int.reduceNeg, k1, bv, s1, hcz] }; first | ((with_reducible refine optP_id ?_); refine optP_some ?_) | ((with_reducible refine condP_id ?_); first | refine qcy ?_ | refine qcx ?_ | refine qco ?_ | refine condP_decn (fun hc => ?_) (fun hc => ?_) | refine condP_dec (fun hc => ?_) (fun hc => ?_) | refine qct ?_ | refine qcf ?_ | refine condP_bool (fun hc => ?_) (fun hc => ?_)) | ((with_reducible refine resP_id ?_); refine resP_three ?_) | ((with_reducible refine callT_to ?_); refine callP_plain ?_))
    | refine wk_seq ?_ | refine wk_region ?_ | refine wk_skip ?_ | refine wo_nil ?_ | refine wk_cond ?_ | refine wk_ret ?_ | refine wk_nil ?_ | refine wo_dst rfl (opR_call ?_) | refine wo_nodst (opR_call ?_) | refine wo_dst rfl (opR_pure ?_) | refine wo_nodst (opR_pure ?_)
    | refine give_ret ?_ | refine give_end ?_)
    exact ⟨fin, by (repeat (first | exact Gr.refl _ | assumption | (refine Gr.trans ?_ (by assumption)) | refine Gr.set ?_ (by first | exact Nat.le_refl _ | omega | (simp only [next_new, next_set]; omega)) _ | refine Gr.new ?_ _))⟩
end Go.Proofs.YtelepfablohdmaaGreatDoor
/- Contracts: nonzero, Regular, Recip. -/
namespace Go.Proofs.YtelepfablohdmaaGreatDoor
open Go.Ev
set_option maxRecDepth 100000 in
set_option maxHeartbeats 8000000 in
theorem nonzero_w (l : List Int) (hl : valid l) (ll : l.length ≤ 16) (v : Value) (h : AHeap) (hv : IIn h v l) :
    Wc pr (.func 80) [v] h fun r h' => r = .tuple #[numV (valN l), .int .i64 (if l = [] then 9 else 0)] ∧ Gr h h' := by
  have wl := fun H hi => numfrom_w l hl.1 0 (by omega) v H hi
  rw [Nat.pow_zero, Nat.mul_one] at wl
  have hv0 := hv
  obtain ⟨a, c, rfl, _⟩ := hv
  have bv := bv87
  have zv := zv87
  refine wc_func Tryz.func80 rfl rfl rfl rfl ?_
  generalize hZ : ints .u8 (numD 0) = Z at *
  have zne : Z ≠ [] := by rw [← hZ]; exact num_ne _
  have znl : Z.length = 146 := by rw [← hZ]; exact num_len _
  have znf : allFlat Z = true := by rw [← hZ]; exact ints_flat _ _
  have hcz : takeN 146 Z = some Z := by rw [← hZ]; exact num_cut 0
  repeat' (first
    | ((with_reducible first | refine optP_id ?_ | refine condP_id ?_ | refine resP_id ?_ | refine callT_of ?_); conv => { arg 1; simp (disch := first | assumption | omega) only [push_cast, ↓reduceIte, reduceIte, Nat.reduceEqDiff, Nat.reduceAdd, Nat.reduceSub, Nat.reduceMul, Nat.reduceBEq, Int.reduceNeg, zv] }; first | ((with_reducible refine optP_id ?_); refine optP_some ?_) | ((with_reducible refine condP_id ?_); first | refine qcy ?_ | refine qcx ?_ | refine qco ?_ | refine condP_decn (fun hc => ?_) (fun hc => ?_) | refine condP_dec (fun hc => ?_) (fun hc => ?_) | refine qct ?_ | refine qcf ?_ | refine condP_bool (fun hc => ?_) (fun hc => ?_)) | ((with_reducible refine resP_id ?_); refine resP_two ?_) | ((with_reducible refine callT_to ?_); refine callP_plain ?_))
    | refine wk_seq ?_ | refine wk_region ?_ | refine wk_skip ?_ | refine wo_nil ?_ | refine wk_cond ?_ | refine wk_ret ?_ | refine wk_nil ?_ | refine wo_dst rfl (opR_call ?_) | refine wo_nodst (opR_call ?_) | refine wo_dst rfl (opR_pure ?_) | refine wo_nodst (opR_pure ?_)
    | refine give_ret ?_ | refine give_end ?_)
  refine (check_w l _ _ (SlIn.gr hv0 (by (repeat (first | exact Gr.refl _ | assumption | (refine Gr.trans ?_ (by assumption)) | refine Gr.set ?_ (by first | exact Nat.le_refl _ | omega | (simp only [next_new, next_set]; omega)) _ | refine Gr.new ?_ _)))) (by omega)).mono ?_
  rintro _ _ ⟨rfl, rfl⟩
  rw [valid_check hl ll]
  by_cases hn : l = []
  · have n0 : (l.length : Int) = 0 := len0.2 hn
    have s1 := storeK_all (H := h.new (.cells Z 87 true)) (b := h.next) (e := 87) zne znl znf (by simp (disch := first | assumption | omega) only [push_cast, ↓reduceIte, reduceIte, Nat.reduceEqDiff, Nat.reduceAdd, Nat.reduceSub, Nat.reduceMul, Nat.reduceBEq, Int.reduceNeg]) (over_all rfl)
    rw [if_pos hn]
    have hv : valN l = 0 := by rw [hn]; rfl
    rw [hv, num_cells, hZ]
    repeat' (first
    | ((with_reducible first | refine optP_id ?_ | refine condP_id ?_ | refine resP_id ?_ | refine callT_of ?_); conv => { arg 1; simp (disch := first | assumption | omega) only [push_cast, ↓reduceIte, reduceIte, Nat.reduceEqDiff, Nat.reduceAdd, Nat.reduceSub, Nat.reduceMul, Nat.reduceBEq, Int.reduceNeg, zv, bv, s1, hcz] }; first | ((with_reducible refine optP_id ?_); refine optP_some ?_) | ((with_reducible refine condP_id ?_); first | refine qcy ?_ | refine qcx ?_ | refine qco ?_ | refine condP_decn (fun hc => ?_) (fun hc => ?_) | refine condP_dec (fun hc => ?_) (fun hc => ?_) | refine qct ?_ | refine qcf ?_ | refine condP_bool (fun hc => ?_) (fun hc => ?_)) | ((with_reducible refine resP_id ?_); refine resP_two ?_) | ((with_reducible refine callT_to ?_); refine callP_plain ?_))
    | refine wk_seq ?_ | refine wk_region ?_ | refine wk_skip ?_ | refine wo_nil ?_ | refine wk_cond ?_ | refine wk_ret ?_ | refine wk_nil ?_ | refine wo_dst rfl (opR_call ?_) | refine wo_nodst (opR_call ?_) | refine wo_dst rfl (opR_pure ?_) | refine wo_nodst (opR_pure ?_)
    | refine give_ret ?_ | refine give_end ?_)
    exact ⟨rfl, by (repeat (first | exact Gr.refl _ | assumption | (refine Gr.trans ?_ (by assumption)) | refine Gr.set ?_ (by first | exact Nat.le_refl _ | omega | (simp only [next_new, next_set]; omega)) _ | refine Gr.new ?_ _))⟩
  · have n0 : ¬ (l.length : Int) = 0 := fun h => hn (len0.1 h)
    rw [if_neg hn]
    repeat' (first
    | ((with_reducible first | refine optP_id ?_ | refine condP_id ?_ | refine resP_id ?_ | refine callT_of ?_); conv => { arg 1; simp (disch := first | assumption | omega) only [push_cast, ↓reduceIte, reduceIte, Nat.reduceEqDiff, Nat.reduceAdd, Nat.reduceSub, Nat.reduceMul, Nat.reduceBEq, Int.reduceNeg, zv] }; first | ((with_reducible refine optP_id ?_); refine optP_some ?_) | ((with_reducible refine condP_id ?_); first | refine qcy ?_ | refine qcx ?_ | refine qco ?_ | refine condP_decn (fun hc => ?_) (fun hc => ?_) | refine condP_dec (fun hc => ?_) (fun hc => ?_) | refine qct ?_ | refine qcf ?_ | refine condP_bool (fun hc => ?_) (fun hc => ?_)) | ((with_reducible refine resP_id ?_); refine resP_two ?_) | ((with_reducible refine callT_to ?_); refine callP_plain ?_))
    | refine wk_seq ?_ | refine wk_region ?_ | refine wk_skip ?_ | refine wo_nil ?_ | refine wk_cond ?_ | refine wk_ret ?_ | refine wk_nil ?_ | refine wo_dst rfl (opR_call ?_) | refine wo_nodst (opR_call ?_) | refine wo_dst rfl (opR_pure ?_) | refine wo_nodst (opR_pure ?_)
    | refine give_ret ?_ | refine give_end ?_)
    refine (wl _ (SlIn.gr hv0 (by (repeat (first | exact Gr.refl _ | assumption | (refine Gr.trans ?_ (by assumption)) | refine Gr.set ?_ (by first | exact Nat.le_refl _ | omega | (simp only [next_new, next_set]; omega)) _ | refine Gr.new ?_ _))))).mono ?_
    rintro _ h1 ⟨rfl, g1⟩; have n1 := g1.1; have k1 := g1.2; try simp only [next_new, next_set] at n1 k1
    rw [num_cells]
    have c1 : h1.get h.next = some (.cells Z 87 true) := by rw [k1 _ (by omega)]; simp (disch := first | assumption | omega) only [push_cast, ↓reduceIte, reduceIte, Nat.reduceEqDiff, Nat.reduceAdd, Nat.reduceSub, Nat.reduceMul, Nat.reduceBEq, Int.reduceNeg]
    have s1 := storeK_all (num_ne (valN l)) (num_len (valN l)) (ints_flat .u8 (numD (valN l))) c1 (over_all (by rw [← hZ, num_len, num_len]))
    have hcY : takeN 146 (ints .u8 (numD (valN l))) = some (ints .u8 (numD (valN l))) := num_cut _
    generalize ints .u8 (numD (valN l)) = CY at *
    repeat' (first
    | ((with_reducible first | refine optP_id ?_ | refine condP_id ?_ | refine resP_id ?_ | refine callT_of ?_); conv => { arg 1; simp (disch := first | assumption | omega) only [push_cast, ↓reduceIte, reduceIte, Nat.reduceEqDiff, Nat.reduceAdd, Nat.reduceSub, Nat.reduceMul, Nat.reduceBEq, Int.reduceNeg, k1, s1, hcY] }; first | ((with_reducible refine optP_id ?_); refine optP_some ?_) | ((with_reducible refine condP_id ?_); first | refine qcy ?_ | refine qcx ?_ | refine qco ?_ | refine condP_decn (fun hc => ?_) (fun hc => ?_) | refine condP_dec (fun hc => ?_) (fun hc => ?_) | refine qct ?_ | refine qcf ?_ | refine condP_bool (fun hc => ?_) (fun hc => ?_)) | ((with_reducible refine resP_id ?_); refine resP_two ?_) | ((with_reducible refine callT_to ?_); refine callP_plain ?_))
    | refine wk_seq ?_ | refine wk_region ?_ | refine wk_skip ?_ | refine wo_nil ?_ | refine wk_cond ?_ | refine wk_ret ?_ | refine wk_nil ?_ | refine wo_dst rfl (opR_call ?_) | refine wo_nodst (opR_call ?_) | refine wo_dst rfl (opR_pure ?_) | refine wo_nodst (opR_pure ?_)
    | refine give_ret ?_ | refine give_end ?_)
    exact ⟨rfl, by (repeat (first | exact Gr.refl _ | assumption | (refine Gr.trans ?_ (by assumption)) | refine Gr.set ?_ (by first | exact Nat.le_refl _ | omega | (simp only [next_new, next_set]; omega)) _ | refine Gr.new ?_ _))⟩
/-- what Regular returns -/
def regR (l : List Int) (r : Value) : Prop := (l = [] ∧ r = .tuple #[.int .i64 0, .int .i64 0, .int .i64 0, .int .i64 9]) ∨ (l ≠ [] ∧ expR (valN l) r)
set_option maxRecDepth 100000 in
set_option maxHeartbeats 8000000 in
theorem regular_w (l : List Int) (hl : valid l) (ll : l.length ≤ 16) (v : Value) (h : AHeap) (hv : IIn h v l) :
    Wc pr (.func 27) [v] h fun r h' => regR l r ∧ Gr h h' := by
  have xl := valN_lt16 hl ll
  have xl146 : valN l < 60 ^ 146 := Nat.lt_of_lt_of_le xl (Nat.pow_le_pow_right (by decide) (by omega))
  have wz := fun H hi => nonzero_w l hl ll v H hi
  rw [num_cells] at wz
  have hv0 := hv
  obtain ⟨a, c, rfl, _⟩ := hv
  have zv := zv87
  refine wc_func Tryz.func27 rfl rfl rfl rfl ?_
  generalize hZ : ints .u8 (numD 0) = Z at *
  have hfx := ints_flat .u8 (numD (valN l))
  have hne := num_ne (valN l)
  have hnl := num_len (valN l)
  have hcx : takeN 146 (ints .u8 (numD (valN l))) = some (ints .u8 (numD (valN l))) := num_cut _
  have ov : over0 (ints .u8 (numD (valN l))) Z = some (ints .u8 (numD (valN l))) := over_all (by rw [← hZ, num_len, num_len])
  by_cases hn : l = []
  · rw [if_pos hn] at wz
    generalize ints .u8 (numD (valN l)) = C at *
    repeat' (first
    | ((with_reducible first | refine optP_id ?_ | refine condP_id ?_ | refine resP_id ?_ | refine callT_of ?_); conv => { arg 1; simp (disch := first | assumption | omega) only [push_cast, ↓reduceIte, reduceIte, Nat.reduceEqDiff, Nat.reduceAdd, Nat.reduceSub, Nat.reduceMul, Nat.reduceBEq, Int.reduceNeg] }; first | ((with_reducible refine optP_id ?_); refine optP_some ?_) | ((with_reducible refine condP_id ?_); first | refine qcy ?_ | refine qcx ?_ | refine qco ?_ | refine condP_decn (fun hc => ?_) (fun hc => ?_) | refine condP_dec (fun hc => ?_) (fun hc => ?_) | refine qct ?_ | refine qcf ?_ | refine condP_bool (fun hc => ?_) (fun hc => ?_)) | ((with_reducible refine resP_id ?_); refine resP_four ?_) | ((with_reducible refine callT_to ?_); refine callP_plain ?_))
    | refine wk_seq ?_ | refine wk_region ?_ | refine wk_skip ?_ | refine wo_nil ?_ | refine wk_cond ?_ | refine wk_ret ?_ | refine wk_nil ?_ | refine wo_dst rfl (opR_call ?_) | refine wo_nodst (opR_call ?_) | refine wo_dst rfl (opR_pure ?_) | refine wo_nodst (opR_pure ?_)
    | refine give_ret ?_ | refine give_end ?_)
    refine (wz _ hv0).mono ?_
    rintro _ h1 ⟨rfl, g1⟩; have n1 := g1.1; have k1 := g1.2; try simp only [next_new, next_set] at n1 k1
    have s1 := storeK_all (H := h1.new (.cells Z 87 true)) (b := h1.next) (e := 87) hne hnl hfx (by simp (disch := first | assumption | omega) only [push_cast, ↓reduceIte, reduceIte, Nat.reduceEqDiff, Nat.reduceAdd, Nat.reduceSub, Nat.reduceMul, Nat.reduceBEq, Int.reduceNeg]) ov
    repeat' (first
    | ((with_reducible first | refine optP_id ?_ | refine condP_id ?_ | refine resP_id ?_ | refine callT_of ?_); conv => { arg 1; simp (disch := first | assumption | omega) only [push_cast, ↓reduceIte, reduceIte, Nat.reduceEqDiff, Nat.reduceAdd, Nat.reduceSub, Nat.reduceMul, Nat.reduceBEq, Int.reduceNeg, zv, s1] }; first | ((with_reducible refine optP_id ?_); refine optP_some ?_) | ((with_reducible refine condP_id ?_); first | refine qcy ?_ | refine qcx ?_ | refine qco ?_ | refine condP_decn (fun hc => ?_) (fun hc => ?_) | refine condP_dec (fun hc => ?_) (fun hc => ?_) | refine qct ?_ | refine qcf ?_ | refine condP_bool (fun hc => ?_) (fun hc => ?_)) | ((with_reducible refine resP_id ?_); refine resP_four ?_) | ((with_reducible refine callT_to ?_); refine callP_plain ?_))
    | refine wk_seq ?_ | refine wk_region ?_ | refine wk_skip ?_ | refine wo_nil ?_ | refine wk_cond ?_ | refine wk_ret ?_ | refine wk_nil ?_ | refine wo_dst rfl (opR_call ?_) | refine wo_nodst (opR_call ?_) | refine wo_dst rfl (opR_pure ?_) | refine wo_nodst (opR_pure ?_)
    | refine give_ret ?_ | refine give_end ?_)
    exact ⟨.inl ⟨hn, rfl⟩, by (repeat (first | exact Gr.refl _ | assumption | (refine Gr.trans ?_ (by assumption)) | refine Gr.set ?_ (by first | exact Nat.le_refl _ | omega | (simp only [next_new, next_set]; omega)) _ | refine Gr.new ?_ _))⟩
  · rw [if_neg hn] at wz
    have we := fun H => exp_w (valN l) (valN_pos hl hn) xl146 H
    rw [num_cells] at we
    generalize ints .u8 (numD (valN l)) = C at *
    repeat' (first
    | ((with_reducible first | refine optP_id ?_ | refine condP_id ?_ | refine resP_id ?_ | refine callT_of ?_); conv => { arg 1; simp (disch := first | assumption | omega) only [push_cast, ↓reduceIte, reduceIte, Nat.reduceEqDiff, Nat.reduceAdd, Nat.reduceSub, Nat.reduceMul, Nat.reduceBEq, Int.reduceNeg] }; first | ((with_reducible refine optP_id ?_); refine optP_some ?_) | ((with_reducible refine condP_id ?_); first | refine qcy ?_ | refine qcx ?_ | refine qco ?_ | refine condP_decn (fun hc => ?_) (fun hc => ?_) | refine condP_dec (fun hc => ?_) (fun hc => ?_) | refine qct ?_ | refine qcf ?_ | refine condP_bool (fun hc => ?_) (fun hc => ?_)) | ((with_reducible refine resP_id ?_); refine resP_four ?_) | ((with_reducible refine callT_to ?_); refine callP_plain ?_))
    | refine wk_seq ?_ | refine wk_region ?_ | refine wk_skip ?_ | refine wo_nil ?_ | refine wk_cond ?_ | refine wk_ret ?_ | refine wk_nil ?_ | refine wo_dst rfl (opR_call ?_) | refine wo_nodst (opR_call ?_) | refine wo_dst rfl (opR_pure ?_) | refine wo_nodst (opR_pure ?_)
    | refine give_ret ?_ | refine give_end ?_)
    refine (wz _ hv0).mono ?_
    rintro _ h1 ⟨rfl, g1⟩; have n1 := g1.1; have k1 := g1.2; try simp only [next_new, next_set] at n1 k1
    have s1 := storeK_all (H := h1.new (.cells Z 87 true)) (b := h1.next) (e := 87) hne hnl hfx (by simp (disch := first | assumption | omega) only [push_cast, ↓reduceIte, reduceIte, Nat.reduceEqDiff, Nat.reduceAdd, Nat.reduceSub, Nat.reduceMul, Nat.reduceBEq, Int.reduceNeg]) ov
    repeat' (first
    | ((with_reducible first | refine optP_id ?_ | refine condP_id ?_ | refine resP_id ?_ | refine callT_of ?_); conv => { arg 1; simp (disch := first | assumption | omega) only [push_cast, ↓reduceIte, reduceIte, Nat.reduceEqDiff, Nat.reduceAdd, Nat.reduceSub, Nat.reduceMul, Nat.reduceBEq, Int.reduceNeg, zv, s1, hcx] }; first | ((with_reducible refine optP_id ?_); refine optP_some ?_) | ((with_reducible refine condP_id ?_); first | refine qcy ?_ | refine qcx ?_ | refine qco ?_ | refine condP_decn (fun hc => ?_) (fun hc => ?_) | refine condP_dec (fun hc => ?_) (fun hc => ?_) | refine qct ?_ | refine qcf ?_ | refine condP_bool (fun hc => ?_) (fun hc => ?_)) | ((with_reducible refine resP_id ?_); refine resP_four ?_) | ((with_reducible refine callT_to ?_); refine callP_plain ?_))
    | refine wk_seq ?_ | refine wk_region ?_ | refine wk_skip ?_ | refine wo_nil ?_ | refine wk_cond ?_ | refine wk_ret ?_ | refine wk_nil ?_ | refine wo_dst rfl (opR_call ?_) | refine wo_nodst (opR_call ?_) | refine wo_dst rfl (opR_pure ?_) | refine wo_nodst (opR_pure ?_)
    | refine give_ret ?_ | refine give_end ?_)
    refine (we _).mono ?_
    rintro _ h2 ⟨he, g2⟩; have n2 := g2.1; have k2 := g2.2; try simp only [next_new, next_set] at n2 k2
    have fin : ∀ r, expR (valN l) r → regR l r := fun r h => .inr ⟨hn, h⟩
    rcases he with ⟨i, j, k, q1, q2, q3, q4, rfl⟩ | ⟨hi, rfl⟩
    · repeat' (first
    | ((with_reducible first | refine optP_id ?_ | refine condP_id ?_ | refine resP_id ?_ | refine callT_of ?_); conv => { arg 1; simp (disch := first | assumption | omega) only [push_cast, ↓reduceIte, reduceIte, Nat.reduceEqDiff, Nat.reduceAdd, Nat.reduceSub, Nat.reduceMul, Nat.reduceBEq, Int.reduceNeg, k2] }; first | ((with_reducible refine optP_id ?_); refine optP_some ?_) | ((with_reducible refine condP_id ?_); first | refine qcy ?_ | refine qcx ?_ | refine qco ?_ | refine condP_decn (fun hc => ?_) (fun hc => ?_) | refine condP_dec (fun hc => ?_) (fun hc => ?_) | refine qct ?_ | refine qcf ?_ | refine condP_bool (fun hc => ?_) (fun hc => ?_)) | ((with_reducible refine resP_id ?_); refine resP_four ?_) | ((with_reducible refine callT_to ?_); refine callP_plain ?_))
    | refine wk_seq ?_ | refine wk_region ?_ | refine wk_skip ?_ | refine wo_nil ?_ | refine wk_cond ?_ | refine wk_ret ?_ | refine wk_nil ?_ | refine wo_dst rfl (opR_call ?_) | refine wo_nodst (opR_call ?_) | refine wo_dst rfl (opR_pure ?_) | refine wo_nodst (opR_pure ?_)
    | refine give_ret ?_ | refine give_end ?_)
      exact ⟨fin _ (.inl ⟨i, j, k, q1, q2, q3, q4, rfl⟩), by (repeat (first | exact Gr.refl _ | assumption | (refine Gr.trans ?_ (by assumption)) | refine Gr.set ?_ (by first | exact Nat.le_refl _ | omega | (simp only [next_new, next_set]; omega)) _ | refine Gr.new ?_ _))⟩
    · repeat' (first
    | ((with_reducible first | refine optP_id ?_ | refine condP_id ?_ | refine resP_id ?_ | refine callT_of ?_); conv => { arg 1; simp (disch := first | assumption | omega) only [push_cast, ↓reduceIte, reduceIte, Nat.reduceEqDiff, Nat.reduceAdd, Nat.reduceSub, Nat.reduceMul, Nat.reduceBEq, Int.reduceNeg, k2] }; first | ((with_reducible refine optP_id ?_); refine optP_some ?_) | ((with_reducible refine condP_id ?_); first | refine qcy ?_ | refine qcx ?_ | refine qco ?_ | refine condP_decn (fun hc => ?_) (fun hc => ?_) | refine condP_dec (fun hc => ?_) (fun hc => ?_) | refine qct ?_ | refine qcf ?_ | refine condP_bool (fun hc => ?_) (fun hc => ?_)) | ((with_reducible refine resP_id ?_); refine resP_four ?_) | ((with_reducible refine callT_to ?_); refine callP_plain ?_))
    | refine wk_seq ?_ | refine wk_region ?_ | refine wk_skip ?_ | refine wo_nil ?_ | refine wk_cond ?_ | refine wk_ret ?_ | refine wk_nil ?_ | refine wo_dst rfl (opR_call ?_) | refine wo_nodst (opR_call ?_) | refine wo_dst rfl (opR_pure ?_) | refine wo_nodst (opR_pure ?_)
    | refine give_ret ?_ | refine give_end ?_)
      exact ⟨fin _ (.inr ⟨hi, rfl⟩), by (repeat (first | exact Gr.refl _ | assumption | (refine Gr.trans ?_ (by assumption)) | refine Gr.set ?_ (by first | exact Nat.le_refl _ | omega | (simp only [next_new, next_set]; omega)) _ | refine Gr.new ?_ _))⟩
theorem inv60_mod (a b c : Nat) : inv60 a b c % 60 ≠ 0 := fun h => by
  have h60 := Nat.dvd_of_mod_eq_zero h
  unfold inv60 at h60
  have d2 := dvd_two (a := 2) (Nat.dvd_trans (by decide : 2 ^ 2 ∣ 60) h60)
  have d3 := dvd_three (a := 1) (Nat.dvd_trans (by decide : 3 ^ 1 ∣ 60) h60)
  have d5 := dvd_five (a := 1) (Nat.dvd_trans (by decide : 5 ^ 1 ∣ 60) h60)
  have : exE a b c = max (max ((a + 1) / 2) b) c := rfl
  omega
theorem no_shift {d e Y : Nat} (h : d * 60 ^ e = Y) (hY : Y % 60 ≠ 0) : e = 0 := by
  rcases Nat.eq_zero_or_pos e with q | q
  · exact q
  · obtain ⟨y, rfl⟩ : ∃ y, e = y + 1 := ⟨e - 1, by omega⟩
    exfalso
    apply hY
    rw [← h, Nat.pow_succ, ← Nat.mul_assoc, Nat.mul_mod_left]
/-- what Recip returns -/
def recR (l : List Int) (r : Value) (h' : AHeap) : Prop := (l = [] ∧ r = .tuple #[.slice none 0 0, .int .i64 9]) ∨ (l ≠ [] ∧ irr (valN l) ∧ r = .tuple #[.slice none 0 0, .int .i64 31]) ∨ (l ≠ [] ∧ ∃ a b c, valN l = 2 ^ a * 3 ^ b * 5 ^ c ∧ exE a b c ≤ 100 ∧ digR (inv60 a b c) r h')
set_option maxRecDepth 100000 in
set_option maxHeartbeats 8000000 in
theorem recip_w (l : List Int) (hl : valid l) (ll : l.length ≤ 16) (v : Value) (h : AHeap) (hv : IIn h v l) :
    Wc pr (.func 29) [v] h fun r h' => recR l r h' ∧ Gr h h' := by
  have xl := valN_lt16 hl ll
  have wz := fun H hi => nonzero_w l hl ll v H hi
  rw [num_cells] at wz
  have hv0 := hv
  obtain ⟨a, c, rfl, _⟩ := hv
  have zv := zv87
  refine wc_func Tryz.func29 rfl rfl rfl rfl ?_
  generalize hZ : ints .u8 (numD 0) = Z at *
  have hfx := ints_flat .u8 (numD (valN l))
  have hne := num_ne (valN l)
  have hnl := num_len (valN l)
  have hcx : takeN 146 (ints .u8 (numD (valN l))) = some (ints .u8 (numD (valN l))) := num_cut _
  have ov : over0 (ints .u8 (numD (valN l))) Z = some (ints .u8 (numD (valN l))) := over_all (by rw [← hZ, num_len, num_len])
  by_cases hn : l = []
  · rw [if_pos hn] at wz
    generalize ints .u8 (numD (valN l)) = C at *
    repeat' (first
    | ((with_reducible first | refine optP_id ?_ | refine condP_id ?_ | refine resP_id ?_ | refine callT_of ?_); conv => { arg 1; simp (disch := first | assumption | omega) only [push_cast, ↓reduceIte, reduceIte, Nat.reduceEqDiff, Nat.reduceAdd, Nat.reduceSub, Nat.reduceMul, Nat.reduceBEq, Int.reduceNeg] }; first | ((with_reducible refine optP_id ?_); refine optP_some ?_) | ((with_reducible refine condP_id ?_); first | refine qcy ?_ | refine qcx ?_ | refine qco ?_ | refine condP_decn (fun hc => ?_) (fun hc => ?_) | refine condP_dec (fun hc => ?_) (fun hc => ?_) | refine qct ?_ | refine qcf ?_ | refine condP_bool (fun hc => ?_) (fun hc => ?_)) | ((with_reducible refine resP_id ?_); refine resP_two ?_) | ((with_reducible refine callT_to ?_); refine callP_plain ?_))
    | refine wk_seq ?_ | refine wk_region ?_ | refine wk_skip ?_ | refine wo_nil ?_ | refine wk_cond ?_ | refine wk_ret ?_ | refine wk_nil ?_ | refine wo_dst rfl (opR_call ?_) | refine wo_nodst (opR_call ?_) | refine wo_dst rfl (opR_pure ?_) | refine wo_nodst (opR_pure ?_)
    | refine give_ret ?_ | refine give_end ?_)
    refine (wz _ hv0).mono ?_
    rintro _ h1 ⟨rfl, g1⟩; have n1 := g1.1; have k1 := g1.2; try simp only [next_new, next_set] at n1 k1
    have s1 := storeK_all (H := h1.new (.cells Z 87 true)) (b := h1.next) (e := 87) hne hnl hfx (by simp (disch := first | assumption | omega) only [push_cast, ↓reduceIte, reduceIte, Nat.reduceEqDiff, Nat.reduceAdd, Nat.reduceSub, Nat.reduceMul, Nat.reduceBEq, Int.reduceNeg]) ov
    repeat' (first
    | ((with_reducible first | refine optP_id ?_ | refine condP_id ?_ | refine resP_id ?_ | refine callT_of ?_); conv => { arg 1; simp (disch := first | assumption | omega) only [push_cast, ↓reduceIte, reduceIte, Nat.reduceEqDiff, Nat.reduceAdd, Nat.reduceSub, Nat.reduceMul, Nat.reduceBEq, Int.reduceNeg, zv, s1] }; first | ((with_reducible refine optP_id ?_); refine optP_some ?_) | ((with_reducible refine condP_id ?_); first | refine qcy ?_ | refine qcx ?_ | refine qco ?_ | refine condP_decn (fun hc => ?_) (fun hc => ?_) | refine condP_dec (fun hc => ?_) (fun hc => ?_) | refine qct ?_ | refine qcf ?_ | refine condP_bool (fun hc => ?_) (fun hc => ?_)) | ((with_reducible refine resP_id ?_); refine resP_two ?_) | ((with_reducible refine callT_to ?_); refine callP_plain ?_))
    | refine wk_seq ?_ | refine wk_region ?_ | refine wk_skip ?_ | refine wo_nil ?_ | refine wk_cond ?_ | refine wk_ret ?_ | refine wk_nil ?_ | refine wo_dst rfl (opR_call ?_) | refine wo_nodst (opR_call ?_) | refine wo_dst rfl (opR_pure ?_) | refine wo_nodst (opR_pure ?_)
    | refine give_ret ?_ | refine give_end ?_)
    exact ⟨.inl ⟨hn, rfl⟩, by (repeat (first | exact Gr.refl _ | assumption | (refine Gr.trans ?_ (by assumption)) | refine Gr.set ?_ (by first | exact Nat.le_refl _ | omega | (simp only [next_new, next_set]; omega)) _ | refine Gr.new ?_ _))⟩
  · rw [if_neg hn] at wz
    have wi := fun H => inv_w (valN l) (valN_pos hl hn) xl H
    rw [num_cells] at wi
    generalize ints .u8 (numD (valN l)) = C at *
    repeat' (first
    | ((with_reducible first | refine optP_id ?_ | refine condP_id ?_ | refine resP_id ?_ | refine callT_of ?_); conv => { arg 1; simp (disch := first | assumption | omega) only [push_cast, ↓reduceIte, reduceIte, Nat.reduceEqDiff, Nat.reduceAdd, Nat.reduceSub, Nat.reduceMul, Nat.reduceBEq, Int.reduceNeg] }; first | ((with_reducible refine optP_id ?_); refine optP_some ?_) | ((with_reducible refine condP_id ?_); first | refine qcy ?_ | refine qcx ?_ | refine qco ?_ | refine condP_decn (fun hc => ?_) (fun hc => ?_) | refine condP_dec (fun hc => ?_) (fun hc => ?_) | refine qct ?_ | refine qcf ?_ | refine condP_bool (fun hc => ?_) (fun hc => ?_)) | ((with_reducible refine resP_id ?_); refine resP_two ?_) | ((with_reducible refine callT_to ?_); refine callP_plain ?_))
    | refine wk_seq ?_ | refine wk_region ?_ | refine wk_skip ?_ | refine wo_nil ?_ | refine wk_cond ?_ | refine wk_ret ?_ | refine wk_nil ?_ | refine wo_dst rfl (opR_call ?_) | refine wo_nodst (opR_call ?_) | refine wo_dst rfl (opR_pure ?_) | refine wo_nodst (opR_pure ?_)
    | refine give_ret ?_ | refine give_end ?_)
    refine (wz _ hv0).mono ?_
    rintro _ h1 ⟨rfl, g1⟩; have n1 := g1.1; have k1 := g1.2; try simp only [next_new, next_set] at n1 k1
    have s1 := storeK_all (H := h1.new (.cells Z 87 true)) (b := h1.next) (e := 87) hne hnl hfx (by simp (disch := first | assumption | omega) only [push_cast, ↓reduceIte, reduceIte, Nat.reduceEqDiff, Nat.reduceAdd, Nat.reduceSub, Nat.reduceMul, Nat.reduceBEq, Int.reduceNeg]) ov
    repeat' (first
    | ((with_reducible first | refine optP_id ?_ | refine condP_id ?_ | refine resP_id ?_ | refine callT_of ?_); conv => { arg 1; simp (disch := first | assumption | omega) only [push_cast, ↓reduceIte, reduceIte, Nat.reduceEqDiff, Nat.reduceAdd, Nat.reduceSub, Nat.reduceMul, Nat.reduceBEq, Int.reduceNeg, zv, s1, hcx] }; first | ((with_reducible refine optP_id ?_); refine optP_some ?_) | ((with_reducible refine condP_id ?_); first | refine qcy ?_ | refine qcx ?_ | refine qco ?_ | refine condP_decn (fun hc => ?_) (fun hc => ?_) | refine condP_dec (fun hc => ?_) (fun hc => ?_) | refine qct ?_ | refine qcf ?_ | refine condP_bool (fun hc => ?_) (fun hc => ?_)) | ((with_reducible refine resP_id ?_); refine resP_two ?_) | ((with_reducible refine callT_to ?_); refine callP_plain ?_))
    | refine wk_seq ?_ | refine wk_region ?_ | refine wk_skip ?_ | refine wo_nil ?_ | refine wk_cond ?_ | refine wk_ret ?_ | refine wk_nil ?_ | refine wo_dst rfl (opR_call ?_) | refine wo_nodst (opR_call ?_) | refine wo_dst rfl (opR_pure ?_) | refine wo_nodst (opR_pure ?_)
    | refine give_ret ?_ | refine give_end ?_)
    refine (wi _).mono ?_
    rintro _ h2 ⟨he, g2⟩; have n2 := g2.1; have k2 := g2.2; try simp only [next_new, next_set] at n2 k2
    rcases he with ⟨i, j, k, q1, q2, rfl⟩ | ⟨hi, rfl⟩
    · have fin : ∀ r H, digR (inv60 i j k) r H → recR l r H := fun r H h => .inr (.inr ⟨hn, i, j, k, q1, q2, h⟩)
      have h102 : inv60 i j k < 60 ^ 101 := Nat.lt_of_le_of_lt (inv60_le i j k) ((Nat.pow_lt_pow_iff_right (by decide)).2 (by omega))
      have h146 : inv60 i j k < 60 ^ 146 := Nat.lt_trans h102 ((Nat.pow_lt_pow_iff_right (by decide)).2 (by omega))
      have hpos := inv60_pos i j k
      have hmod := inv60_mod i j k
      generalize inv60 i j k = Y at *
      have wp := fun H => place_w Y h146 0 (by omega) (by omega) H
      rw [num_cells] at wp ⊢
      have s2 := storeK_all (H := h2.new (.cells Z 87 true)) (b := h2.next) (e := 87) (old := Z) (num_ne Y) (num_len Y) (ints_flat .u8 (numD Y)) (by simp (disch := first | assumption | omega) only [push_cast, ↓reduceIte, reduceIte, Nat.reduceEqDiff, Nat.reduceAdd, Nat.reduceSub, Nat.reduceMul, Nat.reduceBEq, Int.reduceNeg]) (over_all (by rw [← hZ, num_len, num_len]))
      have hcy : takeN 146 (ints .u8 (numD Y)) = some (ints .u8 (numD Y)) := num_cut _
      generalize ints .u8 (numD Y) = CY at *
      repeat' (first
    | ((with_reducible first | refine optP_id ?_ | refine condP_id ?_ | refine resP_id ?_ | refine callT_of ?_); conv => { arg 1; simp (disch := first | assumption | omega) only [push_cast, ↓reduceIte, reduceIte, Nat.reduceEqDiff, Nat.reduceAdd, Nat.reduceSub, Nat.reduceMul, Nat.reduceBEq, Int.reduceNeg, zv, s2, hcy] }; first | ((with_reducible refine optP_id ?_); refine optP_some ?_) | ((with_reducible refine condP_id ?_); first | refine qcy ?_ | refine qcx ?_ | refine qco ?_ | refine condP_decn (fun hc => ?_) (fun hc => ?_) | refine condP_dec (fun hc => ?_) (fun hc => ?_) | refine qct ?_ | refine qcf ?_ | refine condP_bool (fun hc => ?_) (fun hc => ?_)) | ((with_reducible refine resP_id ?_); refine resP_two ?_) | ((with_reducible refine callT_to ?_); refine callP_plain ?_))
    | refine wk_seq ?_ | refine wk_region ?_ | refine wk_skip ?_ | refine wo_nil ?_ | refine wk_cond ?_ | refine wk_ret ?_ | refine wk_nil ?_ | refine wo_dst rfl (opR_call ?_) | refine wo_nodst (opR_call ?_) | refine wo_dst rfl (opR_pure ?_) | refine wo_nodst (opR_pure ?_)
    | refine give_ret ?_ | refine give_end ?_)
      refine (wp _).mono ?_
      rintro _ h3 ⟨hp, g3⟩; have n3 := g3.1; have k3 := g3.2; try simp only [next_new, next_set] at n3 k3
      rcases hp with ⟨h0, rfl⟩ | ⟨h0, d, e, w, hd, hdn, hval, hle2, ⟨hE, rfl, hin⟩ | ⟨hE, rfl⟩⟩
      · exact absurd h0 (by omega)
      · obtain ⟨aw, cw, rfl, q⟩ := id hin
        have hpz := placeE_zero (s := 0 + (e : Int)) hd hdn (by omega) (by have := no_shift hval hmod; omega)
        repeat' (first
    | ((with_reducible first | refine optP_id ?_ | refine condP_id ?_ | refine resP_id ?_ | refine callT_of ?_); conv => { arg 1; simp (disch := first | assumption | omega) only [push_cast, ↓reduceIte, reduceIte, Nat.reduceEqDiff, Nat.reduceAdd, Nat.reduceSub, Nat.reduceMul, Nat.reduceBEq, Int.reduceNeg, k1, k2, k3] }; first | ((with_reducible refine optP_id ?_); refine optP_some ?_) | ((with_reducible refine condP_id ?_); first | refine qcy ?_ | refine qcx ?_ | refine qco ?_ | refine condP_decn (fun hc => ?_) (fun hc => ?_) | refine condP_dec (fun hc => ?_) (fun hc => ?_) | refine qct ?_ | refine qcf ?_ | refine condP_bool (fun hc => ?_) (fun hc => ?_)) | ((with_reducible refine resP_id ?_); refine resP_two ?_) | ((with_reducible refine callT_to ?_); refine callP_plain ?_))
    | refine wk_seq ?_ | refine wk_region ?_ | refine wk_skip ?_ | refine wo_nil ?_ | refine wk_cond ?_ | refine wk_ret ?_ | refine wk_nil ?_ | refine wo_dst rfl (opR_call ?_) | refine wo_nodst (opR_call ?_) | refine wo_dst rfl (opR_pure ?_) | refine wo_nodst (opR_pure ?_)
    | refine give_ret ?_ | refine give_end ?_)
        exact ⟨fin _ _ ⟨d, _, ⟨hd, ⟨fun h => absurd h hdn, fun h => absurd h h0⟩, e, hval⟩, .inl ⟨by
          apply Classical.byContradiction
          intro hh
          exact hpz.2 (by omega) hE, rfl, SlIn.gr hin (by (repeat (first | exact Gr.refl _ | assumption | (refine Gr.trans ?_ (by assumption)) | refine Gr.set ?_ (by first | exact Nat.le_refl _ | omega | (simp only [next_new, next_set]; omega)) _ | refine Gr.new ?_ _)))⟩⟩, by (repeat (first | exact Gr.refl _ | assumption | (refine Gr.trans ?_ (by assumption)) | refine Gr.set ?_ (by first | exact Nat.le_refl _ | omega | (simp only [next_new, next_set]; omega)) _ | refine Gr.new ?_ _))⟩
      · have hpz := placeE_zero (s := 0 + (e : Int)) hd hdn (by omega) (by have := no_shift hval hmod; omega)
        repeat' (first
    | ((with_reducible first | refine optP_id ?_ | refine condP_id ?_ | refine resP_id ?_ | refine callT_of ?_); conv => { arg 1; simp (disch := first | assumption | omega) only [push_cast, ↓reduceIte, reduceIte, Nat.reduceEqDiff, Nat.reduceAdd, Nat.reduceSub, Nat.reduceMul, Nat.reduceBEq, Int.reduceNeg, k1, k2, k3] }; first | ((with_reducible refine optP_id ?_); refine optP_some ?_) | ((with_reducible refine condP_id ?_); first | refine qcy ?_ | refine qcx ?_ | refine qco ?_ | refine condP_decn (fun hc => ?_) (fun hc => ?_) | refine condP_dec (fun hc => ?_) (fun hc => ?_) | refine qct ?_ | refine qcf ?_ | refine condP_bool (fun hc => ?_) (fun hc => ?_)) | ((with_reducible refine resP_id ?_); refine resP_two ?_) | ((with_reducible refine callT_to ?_); refine callP_plain ?_))
    | refine wk_seq ?_ | refine wk_region ?_ | refine wk_skip ?_ | refine wo_nil ?_ | refine wk_cond ?_ | refine wk_ret ?_ | refine wk_nil ?_ | refine wo_dst rfl (opR_call ?_) | refine wo_nodst (opR_call ?_) | refine wo_dst rfl (opR_pure ?_) | refine wo_nodst (opR_pure ?_)
    | refine give_ret ?_ | refine give_end ?_)
        exact ⟨fin _ _ ⟨d, .bool true, ⟨hd, ⟨fun h => absurd h hdn, fun h => absurd h h0⟩, e, hval⟩, .inr ⟨by
          apply Classical.byContradiction
          intro hh
          exact hE (hpz.1 (by omega)), rfl⟩⟩, by (repeat (first | exact Gr.refl _ | assumption | (refine Gr.trans ?_ (by assumption)) | refine Gr.set ?_ (by first | exact Nat.le_refl _ | omega | (simp only [next_new, next_set]; omega)) _ | refine Gr.new ?_ _))⟩
    · have fin : ∀ r H, r = .tuple #[.slice none 0 0, .int .i64 31] → recR l r H := fun r H h => .inr (.inl ⟨hn, hi, h⟩)
      have hcz : takeN 146 Z = some Z := by rw [← hZ]; exact num_cut 0
      have zne : Z ≠ [] := by rw [← hZ]; exact num_ne _
      have znl : Z.length = 146 := by rw [← hZ]; exact num_len _
      have znf : allFlat Z = true := by rw [← hZ]; exact ints_flat _ _
      rw [num_cells, hZ]
      have s2 := storeK_all (H := h2.new (.cells Z 87 true)) (b := h2.next) (e := 87) zne znl znf (by simp (disch := first | assumption | omega) only [push_cast, ↓reduceIte, reduceIte, Nat.reduceEqDiff, Nat.reduceAdd, Nat.reduceSub, Nat.reduceMul, Nat.reduceBEq, Int.reduceNeg]) (over_all rfl)
      repeat' (first
    | ((with_reducible first | refine optP_id ?_ | refine condP_id ?_ | refine resP_id ?_ | refine callT_of ?_); conv => { arg 1; simp (disch := first | assumption | omega) only [push_cast, ↓reduceIte, reduceIte, Nat.reduceEqDiff, Nat.reduceAdd, Nat.reduceSub, Nat.reduceMul, Nat.reduceBEq, Int.reduceNeg, zv, s2, hcz] }; first | ((with_reducible refine optP_id ?_); refine optP_some ?_) | ((with_reducible refine condP_id ?_); first | refine qcy ?_ | refine qcx ?_ | refine qco ?_ | refine condP_decn (fun hc => ?_) (fun hc => ?_) | refine condP_dec (fun hc => ?_) (fun hc => ?_) | refine qct ?_ | refine qcf ?_ | refine condP_bool (fun hc => ?_) (fun hc => ?_)) | ((with_reducible refine resP_id ?_); refine resP_two ?_) | ((with_reducible refine callT_to ?_); refine callP_plain ?_))
    | refine wk_seq ?_ | refine wk_region ?_ | refine wk_skip ?_ | refine wo_nil ?_ | refine wk_cond ?_ | refine wk_ret ?_ | refine wk_nil ?_ | refine wo_dst rfl (opR_call ?_) | refine wo_nodst (opR_call ?_) | refine wo_dst rfl (opR_pure ?_) | refine wo_nodst (opR_pure ?_)
    | refine give_ret ?_ | refine give_end ?_)
      exact ⟨fin _ _ rfl, by (repeat (first | exact Gr.refl _ | assumption | (refine Gr.trans ?_ (by assumption)) | refine Gr.set ?_ (by first | exact Nat.le_refl _ | omega | (simp only [next_new, next_set]; omega)) _ | refine Gr.new ?_ _))⟩
end Go.Proofs.YtelepfablohdmaaGreatDoor
/- Contract: digitsOf. -/
namespace Go.Proofs.YtelepfablohdmaaGreatDoor
open Go.Ev
theorem bs22_3 (x y z : Int) : buildSliceA Tryz.prog 22 3 [(0, .int .i64 x), (1, .int .i64 y), (2, .int .i64 z)] = some (.cells [.int .i64 x, .int .i64 y, .int .i64 z] 3 true, fun b => .slice (some ⟨b, 0, none⟩) 3 (EX + 3)) := by kernel_rfl
attribute [push_cast] bs22_3
/-- the primes of the base -/
def prm : Nat → Nat
  | 0 => 2
  | 1 => 3
  | _ => 5
/-- the product of the powers of the first k primes -/
def acc (q : Nat → Nat) : Nat → Nat
  | 0 => 1
  | k + 1 => acc q k * prm k ^ q k
theorem slP0 (h : AHeap) (b : Nat) : sliceSl h 3 1 (.slice (some ⟨b, 0, none⟩) 3 (EX + 3)) (some (.int .i64 0)) (some (.int .i64 1)) none = some (.slice (some ⟨b, 0, none⟩) 1 (EX + 3), h) := by kernel_rfl
theorem slP1 (h : AHeap) (b : Nat) : sliceSl h 3 1 (.slice (some ⟨b, 0, none⟩) 3 (EX + 3)) (some (.int .i64 1)) (some (.int .i64 2)) none = some (.slice (some ⟨b, 1, none⟩) 1 (EX + 2), h) := by kernel_rfl
theorem slP2 (h : AHeap) (b : Nat) : sliceSl h 3 1 (.slice (some ⟨b, 0, none⟩) 3 (EX + 3)) (some (.int .i64 2)) (some (.int .i64 3)) none = some (.slice (some ⟨b, 2, none⟩) 1 (EX + 1), h) := by kernel_rfl
theorem prime_in {H : AHeap} {b k c : Nat} {x : Int} {C : List Value} (hb : b < H.next) (hg : H.get b = some (.cells C 3 true)) (hc : 1 ≤ capLo c) (hx : cut C k 1 = some [.int .i64 x]) : IIn H (.slice (some ⟨b, k, none⟩) 1 c) [x] :=
  ⟨_, c, rfl, hc, fun _ => ⟨b, k, C, true, rfl, hb, hg, fun i hi => by
    have : i = 0 := by simp at hi; omega
    subst this
    exact hx⟩⟩
theorem slP (H : AHeap) (b k : Nat) (hk : k < 3) (hb : b < H.next) (hg : H.get b = some (.cells [.int .i64 2, .int .i64 3, .int .i64 5] 3 true)) : ∃ a c, sliceSl H 3 1 (.slice (some ⟨b, 0, none⟩) 3 (EX + 3)) (some (.int .i64 (k : Int))) (some (.int .i64 ((k : Int) + 1))) none = some (.slice a 1 c, H) ∧ IIn H (.slice a 1 c) [((prm k : Nat) : Int)] := by
  have : k = 0 ∨ k = 1 ∨ k = 2 := by omega
  rcases this with rfl | rfl | rfl
  · exact ⟨_, _, slP0 H b, prime_in hb hg (by rw [capLo_ex]; decide) rfl⟩
  · exact ⟨_, _, slP1 H b, prime_in hb hg (by rw [capLo_ex]; decide) rfl⟩
  · exact ⟨_, _, slP2 H b, prime_in hb hg (by rw [capLo_ex]; decide) rfl⟩
theorem acc_small {q : Nat → Nat} (hq : ∀ k, q k ≤ 12) {k i : Nat} (hk : k < 3) (hi : i ≤ q k) : acc q k * prm k ^ i < 60 ^ 16 := by
  have hi2 : i ≤ 12 := Nat.le_trans hi (hq k)
  have p2 : 2 ^ q 0 ≤ 2 ^ 12 := Nat.pow_le_pow_right (by decide) (hq 0)
  have p3 : 3 ^ q 1 ≤ 3 ^ 12 := Nat.pow_le_pow_right (by decide) (hq 1)
  have : k = 0 ∨ k = 1 ∨ k = 2 := by omega
  rcases this with rfl | rfl | rfl
  · have p : 2 ^ i ≤ 2 ^ 12 := Nat.pow_le_pow_right (by decide) hi2
    show 1 * 2 ^ i < _
    omega
  · have p : 3 ^ i ≤ 3 ^ 12 := Nat.pow_le_pow_right (by decide) hi2
    show 1 * 2 ^ q 0 * 3 ^ i < _
    rw [Nat.one_mul]
    exact Nat.lt_of_le_of_lt (Nat.mul_le_mul p2 p) (by decide)
  · have p : 5 ^ i ≤ 5 ^ 12 := Nat.pow_le_pow_right (by decide) hi2
    show 1 * 2 ^ q 0 * 3 ^ q 1 * 5 ^ i < _
    rw [Nat.one_mul]
    exact Nat.lt_of_le_of_lt (Nat.mul_le_mul (Nat.mul_le_mul p2 p3) p) (by decide)
theorem prm_valid (k : Nat) : valid [((prm k : Nat) : Int)] ∧ valN [((prm k : Nat) : Int)] = prm k ∧ 0 < prm k := by
  have h1 : 0 < prm k ∧ prm k < 60 := by
    unfold prm
    split <;> decide
  refine ⟨⟨fun x hx => ?_, ?_, fun _ => ?_⟩, by simp [valN], h1.1⟩
  · rw [List.mem_singleton.1 hx]; omega
  · intro h
    have := Option.some.inj (show some ((prm k : Nat) : Int) = some 0 from h)
    omega
  · intro h
    have := Option.some.inj (show some ((prm k : Nat) : Int) = some 0 from h)
    omega
theorem nf_mul {X p : Nat} {A d : List Int} (hp : 0 < p) (h : nf X A) (h2 : nf (valN A * p) d) : nf (X * p) d := by
  obtain ⟨v, z, e, q⟩ := h
  obtain ⟨v2, z2, e2, q2⟩ := h2
  refine ⟨v2, ?_, e2 + e, ?_⟩
  · rw [z2, Nat.mul_eq_zero, Nat.mul_eq_zero, ← z, (nf_self v).2.1]
  · rw [Nat.pow_add, ← Nat.mul_assoc, q2, ← q, Nat.mul_right_comm]
set_option maxRecDepth 100000 in
set_option maxHeartbeats 8000000 in
theorem digitsof_w (p0 p1 p2 : Int) (q : Nat → Nat) (h0 : p0 % 13 = (q 0 : Int)) (h1 : p1 % 13 = (q 1 : Int)) (h2 : p2 % 13 = (q 2 : Int)) (hq : ∀ k, q k ≤ 12) (h : AHeap) :
    Wc pr (.func 47) [.agg #[.int .i64 p0, .int .i64 p1, .int .i64 p2]] h fun r h' => (∃ d w, nf (acc q 3) d ∧ d.length ≤ 16 ∧ r = .tuple #[w, .bool true] ∧ IIn h' w d) ∧ Gr h h' := by
  have hidx : ∀ k, k < 3 → ∃ pk : Int, at? [Value.int .i64 p0, .int .i64 p1, .int .i64 p2] k = some (.int .i64 pk) ∧ pk % 13 = (q k : Int) := fun k hk => by
    have : k = 0 ∨ k = 1 ∨ k = 2 := by omega
    rcases this with rfl | rfl | rfl
    · exact ⟨p0, rfl, h0⟩
    · exact ⟨p1, rfl, h1⟩
    · exact ⟨p2, rfl, h2⟩
  have hf : allFlat [Value.int .i64 p0, .int .i64 p1, .int .i64 p2] = true := rfl
  refine wc_func Tryz.func47 rfl rfl rfl rfl ?_
  generalize hC : [Value.int .i64 p0, .int .i64 p1, .int .i64 p2] = C at *
  generalize hP : [Value.int .i64 2, .int .i64 3, .int .i64 5] = CP
  repeat' (first
    | ((with_reducible first | refine optP_id ?_ | refine condP_id ?_ | refine resP_id ?_ | refine callT_of ?_); conv => { arg 1; simp (disch := first | assumption | omega) only [push_cast, ↓reduceIte, reduceIte, Nat.reduceEqDiff, Nat.reduceAdd, Nat.reduceSub, Nat.reduceMul, Nat.reduceBEq, Int.reduceNeg, hf] }; first | ((with_reducible refine optP_id ?_); refine optP_some ?_) | ((with_reducible refine condP_id ?_); first | refine qcy ?_ | refine qcx ?_ | refine qco ?_ | refine condP_decn (fun hc => ?_) (fun hc => ?_) | refine condP_dec (fun hc => ?_) (fun hc => ?_) | refine qct ?_ | refine qcf ?_ | refine condP_bool (fun hc => ?_) (fun hc => ?_)) | ((with_reducible refine resP_id ?_); refine resP_two ?_) | ((with_reducible refine callT_to ?_); refine callP_plain ?_))
    | refine wk_seq ?_ | refine wk_region ?_ | refine wk_block ?_ | refine wk_inBlock ?_ | refine wk_skip ?_ | refine wo_nil ?_ | refine wk_exit ?_ | refine exitK_code ?_ | refine exitK_hit ?_ | refine exitK_miss rfl ?_ | refine exitK_inLoop ?_ | refine wk_cond ?_ | refine wk_ret ?_ | refine wk_nil ?_ | refine wo_dst rfl (opR_call ?_) | refine wo_nodst (opR_call ?_) | refine wo_dst rfl (opR_pure ?_) | refine wo_nodst (opR_pure ?_)
    | refine give_ret ?_ | refine give_end ?_)
  have hvone : nf (acc q 0) [1] := nf_self one_valid
  refine wk_loop (fun n E H => ∃ (k : Nat) (A : List Int) (aA : Option Addr) (cA : Nat), n = 3 - k ∧ k ≤ 3 ∧ nf (acc q k) A ∧ A.length ≤ 16 ∧ IIn H (.slice aA A.length cA) A ∧ Gr h H ∧ h.next + 2 < H.next ∧ H.get h.next = some (.cells C 64 true) ∧ H.get (h.next + 1 + 1) = some (.cells [.int .i64 2, .int .i64 3, .int .i64 5] 3 true) ∧ E.look 1 top = .pointer (some ⟨h.next, 0, none⟩) ∧ E.look 4 top = .slice aA A.length cA ∧ E.look 5 top = .slice (some ⟨h.next + 1 + 1, 0, none⟩) 3 (EX + 3) ∧ E.look 6 top = .int .i64 (k : Int)) 3
    ⟨0, [1], some ⟨h.next + 1, 0, none⟩, EX + 1, by omega, by omega, hvone, by decide, one_in (by simp only [next_new]; omega) (by simp (disch := first | assumption | omega) only [push_cast, ↓reduceIte, reduceIte, Nat.reduceEqDiff, Nat.reduceAdd, Nat.reduceSub, Nat.reduceMul, Nat.reduceBEq, Int.reduceNeg]), by (repeat (first | exact Gr.refl _ | assumption | (refine Gr.trans ?_ (by assumption)) | refine Gr.set ?_ (by first | exact Nat.le_refl _ | omega | (simp only [next_new, next_set]; omega)) _ | refine Gr.new ?_ _)), by simp only [next_new]; omega, by simp (disch := first | assumption | omega) only [push_cast, ↓reduceIte, reduceIte, Nat.reduceEqDiff, Nat.reduceAdd, Nat.reduceSub, Nat.reduceMul, Nat.reduceBEq, Int.reduceNeg], by simp (disch := first | assumption | omega) only [push_cast, ↓reduceIte, reduceIte, Nat.reduceEqDiff, Nat.reduceAdd, Nat.reduceSub, Nat.reduceMul, Nat.reduceBEq, Int.reduceNeg], by simp (disch := first | assumption | omega) only [push_cast, ↓reduceIte, reduceIte, Nat.reduceEqDiff, Nat.reduceAdd, Nat.reduceSub, Nat.reduceMul, Nat.reduceBEq, Int.reduceNeg], by simp (disch := first | assumption | omega) only [push_cast, ↓reduceIte, reduceIte, Nat.reduceEqDiff, Nat.reduceAdd, Nat.reduceSub, Nat.reduceMul, Nat.reduceBEq, Int.reduceNeg, List.length_singleton], by simp (disch := first | assumption | omega) only [push_cast, ↓reduceIte, reduceIte, Nat.reduceEqDiff, Nat.reduceAdd, Nat.reduceSub, Nat.reduceMul, Nat.reduceBEq, Int.reduceNeg], by simp (disch := first | assumption | omega) only [push_cast, ↓reduceIte, reduceIte, Nat.reduceEqDiff, Nat.reduceAdd, Nat.reduceSub, Nat.reduceMul, Nat.reduceBEq, Int.reduceNeg, Int.natCast_zero]⟩ ?_
  rintro n E H ⟨k, A, aA, cA, rfl, hk3, nA, lA, iA, gr, hnx, cC, cP, e1, e4, e5, e6⟩ next
  by_cases hk : k < 3
  · have klt : (k : Int) < 3 := by omega
    obtain ⟨pk, hpk, hqk⟩ := hidx k hk
    obtain ⟨pv, pe, p0'⟩ := prm_valid k
    have hqk12 := hq k
    repeat' (first
    | ((with_reducible first | refine optP_id ?_ | refine condP_id ?_ | refine resP_id ?_ | refine callT_of ?_); conv => { arg 1; simp (disch := first | assumption | omega) only [push_cast, ↓reduceIte, reduceIte, Nat.reduceEqDiff, Nat.reduceAdd, Nat.reduceSub, Nat.reduceMul, Nat.reduceBEq, Int.reduceNeg, e1, e4, e5, e6] }; first | ((with_reducible refine optP_id ?_); refine optP_some ?_) | ((with_reducible refine condP_id ?_); first | refine qcy ?_ | refine qcx ?_ | refine qco ?_ | refine condP_decn (fun hc => ?_) (fun hc => ?_) | refine condP_dec (fun hc => ?_) (fun hc => ?_) | refine qct ?_ | refine qcf ?_ | refine condP_bool (fun hc => ?_) (fun hc => ?_)) | ((with_reducible refine resP_id ?_); refine resP_two ?_) | ((with_reducible refine callT_to ?_); refine callP_plain ?_))
    | refine wk_seq ?_ | refine wk_region ?_ | refine wk_block ?_ | refine wk_inBlock ?_ | refine wk_skip ?_ | refine wo_nil ?_ | refine wk_exit ?_ | refine exitK_code ?_ | refine exitK_hit ?_ | refine exitK_miss rfl ?_ | refine exitK_inLoop ?_ | refine wk_cond ?_ | refine wk_ret ?_ | refine wk_nil ?_ | refine wo_dst rfl (opR_call ?_) | refine wo_nodst (opR_call ?_) | refine wo_dst rfl (opR_pure ?_) | refine wo_nodst (opR_pure ?_)
    | refine give_ret ?_ | refine give_end ?_)
    refine wk_loop (fun n E H2 => ∃ (i : Nat) (A : List Int) (aA : Option Addr) (cA : Nat), n = q k - i ∧ i ≤ q k ∧ nf (acc q k * prm k ^ i) A ∧ A.length ≤ 16 ∧ IIn H2 (.slice aA A.length cA) A ∧ Gr h H2 ∧ h.next + 2 < H2.next ∧ H2.get h.next = some (.cells C 64 true) ∧ H2.get (h.next + 1 + 1) = some (.cells [.int .i64 2, .int .i64 3, .int .i64 5] 3 true) ∧ E.look 1 top = .pointer (some ⟨h.next, 0, none⟩) ∧ E.look 4 top = .slice aA A.length cA ∧ E.look 5 top = .slice (some ⟨h.next + 1 + 1, 0, none⟩) 3 (EX + 3) ∧ E.look 6 top = .int .i64 (k : Int) ∧ E.look 7 top = .int .i64 (i : Int)) (q k)
      ⟨0, A, aA, cA, by omega, by omega, by rw [Nat.pow_zero, Nat.mul_one]; exact nA, lA, iA, gr, hnx, cC, cP, by simp (disch := first | assumption | omega) only [push_cast, ↓reduceIte, reduceIte, Nat.reduceEqDiff, Nat.reduceAdd, Nat.reduceSub, Nat.reduceMul, Nat.reduceBEq, Int.reduceNeg, e1], by simp (disch := first | assumption | omega) only [push_cast, ↓reduceIte, reduceIte, Nat.reduceEqDiff, Nat.reduceAdd, Nat.reduceSub, Nat.reduceMul, Nat.reduceBEq, Int.reduceNeg, e4], by simp (disch := first | assumption | omega) only [push_cast, ↓reduceIte, reduceIte, Nat.reduceEqDiff, Nat.reduceAdd, Nat.reduceSub, Nat.reduceMul, Nat.reduceBEq, Int.reduceNeg, e5], by simp (disch := first | assumption | omega) only [push_cast, ↓reduceIte, reduceIte, Nat.reduceEqDiff, Nat.reduceAdd, Nat.reduceSub, Nat.reduceMul, Nat.reduceBEq, Int.reduceNeg, e6], by simp (disch := first | assumption | omega) only [push_cast, ↓reduceIte, reduceIte, Nat.reduceEqDiff, Nat.reduceAdd, Nat.reduceSub, Nat.reduceMul, Nat.reduceBEq, Int.reduceNeg, Int.natCast_zero]⟩ ?_
    rintro n2 E2 H2 ⟨i, A2, aA2, cA2, rfl, hi, nA2, lA2, iA2, gr2, hnx2, cC2, cP2, f1, f4, f5, f6, f7⟩ next2
    repeat' (first
    | ((with_reducible first | refine optP_id ?_ | refine condP_id ?_ | refine resP_id ?_ | refine callT_of ?_); conv => { arg 1; simp (disch := first | assumption | omega) only [push_cast, ↓reduceIte, reduceIte, Nat.reduceEqDiff, Nat.reduceAdd, Nat.reduceSub, Nat.reduceMul, Nat.reduceBEq, Int.reduceNeg, f1, f4, f5, f6, f7, cC2, hpk] }; first | ((with_reducible refine optP_id ?_); refine optP_some ?_) | ((with_reducible refine condP_id ?_); first | refine qcy ?_ | refine qcx ?_ | refine qco ?_ | refine condP_decn (fun hc => ?_) (fun hc => ?_) | refine condP_dec (fun hc => ?_) (fun hc => ?_) | refine qct ?_ | refine qcf ?_ | refine condP_bool (fun hc => ?_) (fun hc => ?_)) | ((with_reducible refine resP_id ?_); refine resP_two ?_) | ((with_reducible refine callT_to ?_); refine callP_plain ?_))
    | refine wk_seq ?_ | refine wk_region ?_ | refine wk_block ?_ | refine wk_inBlock ?_ | refine wk_skip ?_ | refine wo_nil ?_ | refine wk_exit ?_ | refine exitK_code ?_ | refine exitK_hit ?_ | refine exitK_miss rfl ?_ | refine exitK_inLoop ?_ | refine wk_cond ?_ | refine wk_ret ?_ | refine wk_nil ?_ | refine wo_dst rfl (opR_call ?_) | refine wo_nodst (opR_call ?_) | refine wo_dst rfl (opR_pure ?_) | refine wo_nodst (opR_pure ?_)
    | refine give_ret ?_ | refine give_end ?_)
    refine (bring_w pk 13 (by omega) (by omega) _).mono ?_
    rintro _ _ ⟨rfl, rfl⟩
    rw [hqk]
    by_cases hiq : i < q k
    · have ilt : (i : Int) < (q k : Int) := by omega
      obtain ⟨sa, sc, hsl, hsin⟩ := slP H2 (h.next + 1 + 1) k hk (by omega) cP2
      repeat' (first
    | ((with_reducible first | refine optP_id ?_ | refine condP_id ?_ | refine resP_id ?_ | refine callT_of ?_); conv => { arg 1; simp (disch := first | assumption | omega) only [push_cast, ↓reduceIte, reduceIte, Nat.reduceEqDiff, Nat.reduceAdd, Nat.reduceSub, Nat.reduceMul, Nat.reduceBEq, Int.reduceNeg, f1, f4, f5, f6, f7] }; first | ((with_reducible refine optP_id ?_); refine optP_some ?_) | ((with_reducible refine condP_id ?_); first | refine qcy ?_ | refine qcx ?_ | refine qco ?_ | refine condP_decn (fun hc => ?_) (fun hc => ?_) | refine condP_dec (fun hc => ?_) (fun hc => ?_) | refine qct ?_ | refine qcf ?_ | refine condP_bool (fun hc => ?_) (fun hc => ?_)) | ((with_reducible refine resP_id ?_); refine resP_two ?_) | ((with_reducible refine callT_to ?_); refine callP_plain ?_))
    | refine wk_seq ?_ | refine wk_region ?_ | refine wk_block ?_ | refine wk_inBlock ?_ | refine wk_skip ?_ | refine wo_nil ?_ | refine wk_exit ?_ | refine exitK_code ?_ | refine exitK_hit ?_ | refine exitK_miss rfl ?_ | refine exitK_inLoop ?_ | refine wk_cond ?_ | refine wk_ret ?_ | refine wk_nil ?_ | refine wo_dst rfl (opR_call ?_) | refine wo_nodst (opR_call ?_) | refine wo_dst rfl (opR_pure ?_) | refine wo_nodst (opR_pure ?_)
    | refine give_ret ?_ | refine give_end ?_)
      conv => { arg 1; simp (disch := first | assumption | omega) only [push_cast, ↓reduceIte, reduceIte, Nat.reduceEqDiff, Nat.reduceAdd, Nat.reduceSub, Nat.reduceMul, Nat.reduceBEq, Int.reduceNeg, sl22] }
      rw [hsl]
      refine optP_some ?_
      repeat' (first
    | ((with_reducible first | refine optP_id ?_ | refine condP_id ?_ | refine resP_id ?_ | refine callT_of ?_); conv => { arg 1; simp (disch := first | assumption | omega) only [push_cast, ↓reduceIte, reduceIte, Nat.reduceEqDiff, Nat.reduceAdd, Nat.reduceSub, Nat.reduceMul, Nat.reduceBEq, Int.reduceNeg, f1, f4, f5, f6, f7] }; first | ((with_reducible refine optP_id ?_); refine optP_some ?_) | ((with_reducible refine condP_id ?_); first | refine qcy ?_ | refine qcx ?_ | refine qco ?_ | refine condP_decn (fun hc => ?_) (fun hc => ?_) | refine condP_dec (fun hc => ?_) (fun hc => ?_) | refine qct ?_ | refine qcf ?_ | refine condP_bool (fun hc => ?_) (fun hc => ?_)) | ((with_reducible refine resP_id ?_); refine resP_two ?_) | ((with_reducible refine callT_to ?_); refine callP_plain ?_))
    | refine wk_seq ?_ | refine wk_region ?_ | refine wk_block ?_ | refine wk_inBlock ?_ | refine wk_skip ?_ | refine wo_nil ?_ | refine wk_exit ?_ | refine exitK_code ?_ | refine exitK_hit ?_ | refine exitK_miss rfl ?_ | refine exitK_inLoop ?_ | refine wk_cond ?_ | refine wk_ret ?_ | refine wk_nil ?_ | refine wo_dst rfl (opR_call ?_) | refine wo_nodst (opR_call ?_) | refine wo_dst rfl (opR_pure ?_) | refine wo_nodst (opR_pure ?_)
    | refine give_ret ?_ | refine give_end ?_)
      refine (mul_w A2 _ nA2.1 pv lA2 (by simp) _ _ _ iA2 hsin).mono ?_
      rintro _ H3 ⟨⟨d, w, nd, hd⟩, g3⟩; have n3 := g3.1; have k3 := g3.2; try simp only [next_new, next_set] at n3 k3
      rw [pe] at nd
      have nd2 := nf_mul p0' nA2 nd
      rw [Nat.mul_assoc, ← Nat.pow_succ] at nd2
      have ld := nf_len nd2 (acc_small hq hk (show i + 1 ≤ q k from hiq))
      obtain ⟨_, rfl, id'⟩ : d.length ≤ 16 ∧ _ ∧ _ := by
        rcases hd with hd | hd
        · exact hd
        · exact absurd hd.1 (by omega)
      obtain ⟨ad, cd, rfl, _⟩ := id id'
      repeat' (first
    | ((with_reducible first | refine optP_id ?_ | refine condP_id ?_ | refine resP_id ?_ | refine callT_of ?_); conv => { arg 1; simp (disch := first | assumption | omega) only [push_cast, ↓reduceIte, reduceIte, Nat.reduceEqDiff, Nat.reduceAdd, Nat.reduceSub, Nat.reduceMul, Nat.reduceBEq, Int.reduceNeg, f1, f4, f5, f6, f7] }; first | ((with_reducible refine optP_id ?_); refine optP_some ?_) | ((with_reducible refine condP_id ?_); first | refine qcy ?_ | refine qcx ?_ | refine qco ?_ | refine condP_decn (fun hc => ?_) (fun hc => ?_) | refine condP_dec (fun hc => ?_) (fun hc => ?_) | refine qct ?_ | refine qcf ?_ | refine condP_bool (fun hc => ?_) (fun hc => ?_)) | ((with_reducible refine resP_id ?_); refine resP_two ?_) | ((with_reducible refine callT_to ?_); refine callP_plain ?_))
    | refine wk_seq ?_ | refine wk_region ?_ | refine wk_block ?_ | refine wk_inBlock ?_ | refine wk_skip ?_ | refine wo_nil ?_ | refine wk_exit ?_ | refine exitK_code ?_ | refine exitK_hit ?_ | refine exitK_miss rfl ?_ | refine exitK_inLoop ?_ | refine wk_cond ?_ | refine wk_ret ?_ | refine wk_nil ?_ | refine wo_dst rfl (opR_call ?_) | refine wo_nodst (opR_call ?_) | refine wo_dst rfl (opR_pure ?_) | refine wo_nodst (opR_pure ?_)
    | refine give_ret ?_ | refine give_end ?_)
      exact next2 (q k - (i + 1)) _ _ (by omega) ⟨i + 1, d, ad, cd, rfl, by omega, nd2, ld, id', by (repeat (first | exact Gr.refl _ | assumption | (refine Gr.trans ?_ (by assumption)) | refine Gr.set ?_ (by first | exact Nat.le_refl _ | omega | (simp only [next_new, next_set]; omega)) _ | refine Gr.new ?_ _)), by omega, by rw [k3 _ (by omega)]; exact cC2, by rw [k3 _ (by omega)]; exact cP2, by simp (disch := first | assumption | omega) only [push_cast, ↓reduceIte, reduceIte, Nat.reduceEqDiff, Nat.reduceAdd, Nat.reduceSub, Nat.reduceMul, Nat.reduceBEq, Int.reduceNeg, f1], by simp (disch := first | assumption | omega) only [push_cast, ↓reduceIte, reduceIte, Nat.reduceEqDiff, Nat.reduceAdd, Nat.reduceSub, Nat.reduceMul, Nat.reduceBEq, Int.reduceNeg], by simp (disch := first | assumption | omega) only [push_cast, ↓reduceIte, reduceIte, Nat.reduceEqDiff, Nat.reduceAdd, Nat.reduceSub, Nat.reduceMul, Nat.reduceBEq, Int.reduceNeg, f5], by simp (disch := first | assumption | omega) only [push_cast, ↓reduceIte, reduceIte, Nat.reduceEqDiff, Nat.reduceAdd, Nat.reduceSub, Nat.reduceMul, Nat.reduceBEq, Int.reduceNeg, f6], by simp (disch := first | assumption | omega) only [push_cast, ↓reduceIte, reduceIte, Nat.reduceEqDiff, Nat.reduceAdd, Nat.reduceSub, Nat.reduceMul, Nat.reduceBEq, Int.reduceNeg, Int.natCast_add, Int.natCast_one]⟩
    · have ilt : ¬ (i : Int) < (q k : Int) := by omega
      obtain rfl : i = q k := by omega
      repeat' (first
    | ((with_reducible first | refine optP_id ?_ | refine condP_id ?_ | refine resP_id ?_ | refine callT_of ?_); conv => { arg 1; simp (disch := first | assumption | omega) only [push_cast, ↓reduceIte, reduceIte, Nat.reduceEqDiff, Nat.reduceAdd, Nat.reduceSub, Nat.reduceMul, Nat.reduceBEq, Int.reduceNeg, f1, f4, f5, f6, f7] }; first | ((with_reducible refine optP_id ?_); refine optP_some ?_) | ((with_reducible refine condP_id ?_); first | refine qcy ?_ | refine qcx ?_ | refine qco ?_ | refine condP_decn (fun hc => ?_) (fun hc => ?_) | refine condP_dec (fun hc => ?_) (fun hc => ?_) | refine qct ?_ | refine qcf ?_ | refine condP_bool (fun hc => ?_) (fun hc => ?_)) | ((with_reducible refine resP_id ?_); refine resP_two ?_) | ((with_reducible refine callT_to ?_); refine callP_plain ?_))
    | refine wk_seq ?_ | refine wk_region ?_ | refine wk_block ?_ | refine wk_inBlock ?_ | refine wk_skip ?_ | refine wo_nil ?_ | refine wk_exit ?_ | refine exitK_code ?_ | refine exitK_hit ?_ | refine exitK_miss rfl ?_ | refine exitK_inLoop ?_ | refine wk_cond ?_ | refine wk_ret ?_ | refine wk_nil ?_ | refine wo_dst rfl (opR_call ?_) | refine wo_nodst (opR_call ?_) | refine wo_dst rfl (opR_pure ?_) | refine wo_nodst (opR_pure ?_)
    | refine give_ret ?_ | refine give_end ?_)
      exact next (3 - (k + 1)) _ _ (by omega) ⟨k + 1, A2, aA2, cA2, rfl, by omega, nA2, lA2, iA2, gr2, hnx2, cC2, cP2, by simp (disch := first | assumption | omega) only [push_cast, ↓reduceIte, reduceIte, Nat.reduceEqDiff, Nat.reduceAdd, Nat.reduceSub, Nat.reduceMul, Nat.reduceBEq, Int.reduceNeg, f1], by simp (disch := first | assumption | omega) only [push_cast, ↓reduceIte, reduceIte, Nat.reduceEqDiff, Nat.reduceAdd, Nat.reduceSub, Nat.reduceMul, Nat.reduceBEq, Int.reduceNeg, f4], by simp (disch := first | assumption | omega) only [push_cast, ↓reduceIte, reduceIte, Nat.reduceEqDiff, Nat.reduceAdd, Nat.reduceSub, Nat.reduceMul, Nat.reduceBEq, Int.reduceNeg, f5], by simp (disch := first | assumption | omega) only [push_cast, ↓reduceIte, reduceIte, Nat.reduceEqDiff, Nat.reduceAdd, Nat.reduceSub, Nat.reduceMul, Nat.reduceBEq, Int.reduceNeg, Int.natCast_add, Int.natCast_one]⟩
  · have klt : ¬ (k : Int) < 3 := by omega
    obtain rfl : k = 3 := by omega
    repeat' (first
    | ((with_reducible first | refine optP_id ?_ | refine condP_id ?_ | refine resP_id ?_ | refine callT_of ?_); conv => { arg 1; simp (disch := first | assumption | omega) only [push_cast, ↓reduceIte, reduceIte, Nat.reduceEqDiff, Nat.reduceAdd, Nat.reduceSub, Nat.reduceMul, Nat.reduceBEq, Int.reduceNeg, e1, e4, e5, e6] }; first | ((with_reducible refine optP_id ?_); refine optP_some ?_) | ((with_reducible refine condP_id ?_); first | refine qcy ?_ | refine qcx ?_ | refine qco ?_ | refine condP_decn (fun hc => ?_) (fun hc => ?_) | refine condP_dec (fun hc => ?_) (fun hc => ?_) | refine qct ?_ | refine qcf ?_ | refine condP_bool (fun hc => ?_) (fun hc => ?_)) | ((with_reducible refine resP_id ?_); refine resP_two ?_) | ((with_reducible refine callT_to ?_); refine callP_plain ?_))
    | refine wk_seq ?_ | refine wk_region ?_ | refine wk_block ?_ | refine wk_inBlock ?_ | refine wk_skip ?_ | refine wo_nil ?_ | refine wk_exit ?_ | refine exitK_code ?_ | refine exitK_hit ?_ | refine exitK_miss rfl ?_ | refine exitK_inLoop ?_ | refine wk_cond ?_ | refine wk_ret ?_ | refine wk_nil ?_ | refine wo_dst rfl (opR_call ?_) | refine wo_nodst (opR_call ?_) | refine wo_dst rfl (opR_pure ?_) | refine wo_nodst (opR_pure ?_)
    | refine give_ret ?_ | refine give_end ?_)
    exact ⟨⟨A, _, nA, lA, rfl, iA⟩, gr⟩
end Go.Proofs.YtelepfablohdmaaGreatDoor
namespace Go.Proofs.YtelepfablohdmaaGreatDoor
open Go.Ev
theorem acc3 (q : Nat → Nat) : acc q 3 = 2 ^ q 0 * 3 ^ q 1 * 5 ^ q 2 := by
  show 1 * 2 ^ q 0 * 3 ^ q 1 * 5 ^ q 2 = _
  rw [Nat.one_mul]
theorem acc_pos (q : Nat → Nat) : 0 < acc q 3 := by
  rw [acc3]
  exact Nat.mul_pos (Nat.mul_pos (Nat.pow_pos (by decide)) (Nat.pow_pos (by decide))) (Nat.pow_pos (by decide))
theorem nf_dvd {X : Nat} {d : List Int} (h : nf X d) : valN d ∣ X := by
  obtain ⟨_, _, e, q⟩ := h
  exact ⟨60 ^ e, q.symm⟩
/-- the reciprocal of a regular number -/
theorem rec_reg {l : List Int} {r : Value} {h' : AHeap} {p q s K : Nat} (hr : recR l r h') (hv : valid l) (hn : l ≠ []) (hd : valN l ∣ 2 ^ p * 3 ^ q * 5 ^ s) (hK : K ≤ 15) (hp : p ≤ 2 * K) (hq : q ≤ K) (hs : s ≤ K) :
    ∃ Y E d w, nf Y d ∧ d.length ≤ K + 1 ∧ 0 < Y ∧ valN l * Y = 60 ^ E ∧ E ≤ K ∧ r = .tuple #[w, .int .i64 0] ∧ IIn h' w d := by
  rcases hr with ⟨h0, _⟩ | ⟨_, ⟨R, r1, r2, r3, r5, rd⟩, _⟩ | ⟨_, a, b, c, hE, _, d, w, nd, hw⟩
  · exact absurd h0 hn
  · exact absurd (only_one r2 r3 r5 (Nat.dvd_trans rd hd)) r1
  · have d2 : 2 ^ a ∣ valN l := by rw [hE, Nat.mul_assoc]; exact Nat.dvd_mul_right _ _
    have d3 : 3 ^ b ∣ valN l := by rw [hE]; exact Nat.dvd_trans (Nat.dvd_mul_left _ _) (Nat.dvd_mul_right _ _)
    have d5 : 5 ^ c ∣ valN l := by rw [hE]; exact Nat.dvd_mul_left _ _
    have a1 := dvd_two (Nat.dvd_trans d2 hd)
    have a2 := dvd_three (Nat.dvd_trans d3 hd)
    have a3 := dvd_five (Nat.dvd_trans d5 hd)
    have hex : exE a b c ≤ K := by unfold exE; omega
    have hlt : inv60 a b c < 60 ^ (K + 1) := Nat.lt_of_le_of_lt (inv60_le a b c) ((Nat.pow_lt_pow_iff_right (by decide)).2 (by omega))
    have ld := nf_len nd hlt
    rcases hw with ⟨_, hw, iw⟩ | ⟨hw, _⟩
    · exact ⟨_, _, d, w, nd, ld, inv60_pos a b c, by rw [hE]; exact inv60_mul a b c, hex, hw, iw⟩
    · omega
def q3 (x y z : Int) (k : Nat) : Nat := match k with | 0 => x.toNat | 1 => y.toNat | 2 => z.toNat | _ => 0
theorem q3_le {x y z : Int} {m : Nat} (hx : x ≤ m) (hy : y ≤ m) (hz : z ≤ m) : ∀ k, q3 x y z k ≤ m := fun k => by
  unfold q3
  split <;> omega
end Go.Proofs.YtelepfablohdmaaGreatDoor
