/- Contracts: exponents, inverse. -/
import Derived.Test.YtcfohcpcepeolaaDoorVG
set_option linter.unusedSimpArgs false
set_option linter.unusedVariables false
namespace Go.Proofs.YtcfohcpcepeolaaDoor
open Go.Ev
/-- another prime than those of the base divides X -/
def irr (X : Nat) : Prop := ∃ R, R ≠ 1 ∧ R % 2 ≠ 0 ∧ R % 3 ≠ 0 ∧ R % 5 ≠ 0 ∧ R ∣ X
def expR (X : Nat) (r : Value) : Prop := (∃ a b c : Nat, X = 2 ^ a * 3 ^ b * 5 ^ c ∧ a ≤ 900 ∧ b ≤ 900 ∧ c ≤ 900 ∧ r = .tuple #[.int .i64 (a : Int), .int .i64 (b : Int), .int .i64 (c : Int), .int .i64 0]) ∨ (irr X ∧ r = .tuple #[.int .i64 0, .int .i64 0, .int .i64 0, .int .i64 31])
theorem not_dvd {a b n : Nat} (h : b % n ≠ 0) (hd : a ∣ b) : a % n ≠ 0 := fun h2 => h (Nat.mod_eq_zero_of_dvd (Nat.dvd_trans (Nat.dvd_of_mod_eq_zero h2) hd))
set_option maxRecDepth 100000 in
set_option maxHeartbeats 8000000 in
theorem exp_w (X : Nat) (hX0 : 0 < X) (hX : X < 60 ^ 146) (h : AHeap) : Wc pr (.func 74) [numV X] h fun r h' => expR X r ∧ Gr h h' := by
  rw [num_cells]
  have hf0 := ints_flat .u8 (numD X)
  have hc0 : takeN 146 (ints .u8 (numD X)) = some (ints .u8 (numD X)) := num_cut X
  have w0 := fun H => without_w X 2 hX0 hX (by omega) (by omega) H
  rw [num_cells] at w0
  have hn0 := num_len X
  refine wc_func Tryd.func74 rfl rfl rfl rfl ?_
  generalize ints .u8 (numD X) = C0 at *
  repeat' (first
    | ((with_reducible first | refine optP_id ?_ | refine condP_id ?_ | refine resP_id ?_ | refine callT_of ?_); conv => { arg 1; simp (disch := first | assumption | omega) only [push_cast, ↓reduceIte, reduceIte, Nat.reduceEqDiff, Nat.reduceAdd, Nat.reduceSub, Nat.reduceMul, Nat.reduceBEq, Int.reduceNeg, hf0, hc0] }; first | ((with_reducible refine optP_id ?_); refine optP_some ?_) | ((with_reducible refine condP_id ?_); first | refine condP_yes (by first | assumption | exact fun hn => hn (by assumption) | omega | decide) ?_ | refine condP_non (by assumption) ?_ | refine condP_no (by first | assumption | omega | decide) ?_ | refine condP_decn (fun hc => ?_) (fun hc => ?_) | refine condP_dec (fun hc => ?_) (fun hc => ?_) | refine condP_true (by first | assumption | rfl) ?_ | refine condP_false (by first | assumption | rfl) ?_ | refine condP_bool (fun hc => ?_) (fun hc => ?_)) | ((with_reducible refine resP_id ?_); first | refine resP_one ?_ | refine resP_two ?_ | refine resP_three ?_ | refine resP_four ?_ | refine resP_zero ?_) | ((with_reducible refine callT_to ?_); first | refine callP_plain ?_ | refine callP_yield ?_ | (refine callP_func ?_; conv => { arg 3; simp only [push_cast] })))
    | refine wk_seq ?_ | refine wk_region ?_ | refine wk_skip ?_ | refine wo_nil ?_ | refine wk_cond ?_ | refine wk_ret ?_ | refine wk_nil ?_ | refine wo_dst rfl (opR_call ?_) | refine wo_nodst (opR_call ?_) | refine wo_dst rfl (opR_pure ?_) | refine wo_nodst (opR_pure ?_)
    | refine give_ret ?_ | refine give_end ?_)
  refine (w0 _).mono ?_
  rintro _ h1 ⟨⟨R1, a, rfl, q1, q2, q3, q4⟩, g1⟩; have n1 := g1.1; have k1 := g1.2; try simp only [next_new, next_set] at n1 k1
  have hR1 : R1 < 60 ^ 146 := Nat.lt_of_le_of_lt (by rw [q1]; exact Nat.le_mul_of_pos_right _ (Nat.pow_pos (by omega))) hX
  rw [num_cells]
  have c0 : h1.get h.next = some (.cells C0 91 true) := by rw [k1 _ (by omega)]; simp (disch := first | assumption | omega) only [push_cast, ↓reduceIte, reduceIte, Nat.reduceEqDiff, Nat.reduceAdd, Nat.reduceSub, Nat.reduceMul, Nat.reduceBEq, Int.reduceNeg]
  have s1 := storeK_all (num_ne R1) (num_len R1) (ints_flat .u8 (numD R1)) c0 (over_all (by rw [num_len, hn0]))
  have hc1 : takeN 146 (ints .u8 (numD R1)) = some (ints .u8 (numD R1)) := num_cut R1
  have w1 := fun H => without_w R1 3 q3 hR1 (by omega) (by omega) H
  rw [num_cells] at w1
  have hn1 := num_len R1
  generalize ints .u8 (numD R1) = C1 at *
  repeat' (first
    | ((with_reducible first | refine optP_id ?_ | refine condP_id ?_ | refine resP_id ?_ | refine callT_of ?_); conv => { arg 1; simp (disch := first | assumption | omega) only [push_cast, ↓reduceIte, reduceIte, Nat.reduceEqDiff, Nat.reduceAdd, Nat.reduceSub, Nat.reduceMul, Nat.reduceBEq, Int.reduceNeg, s1, hc1] }; first | ((with_reducible refine optP_id ?_); refine optP_some ?_) | ((with_reducible refine condP_id ?_); first | refine condP_yes (by first | assumption | exact fun hn => hn (by assumption) | omega | decide) ?_ | refine condP_non (by assumption) ?_ | refine condP_no (by first | assumption | omega | decide) ?_ | refine condP_decn (fun hc => ?_) (fun hc => ?_) | refine condP_dec (fun hc => ?_) (fun hc => ?_) | refine condP_true (by first | assumption | rfl) ?_ | refine condP_false (by first | assumption | rfl) ?_ | refine condP_bool (fun hc => ?_) (fun hc => ?_)) | ((with_reducible refine resP_id ?_); first | refine resP_one ?_ | refine resP_two ?_ | refine resP_three ?_ | refine resP_four ?_ | refine resP_zero ?_) | ((with_reducible refine callT_to ?_); first | refine callP_plain ?_ | refine callP_yield ?_ | (refine callP_func ?_; conv => { arg 3; simp only [push_cast] })))
    | refine wk_seq ?_ | refine wk_region ?_ | refine wk_skip ?_ | refine wo_nil ?_ | refine wk_cond ?_ | refine wk_ret ?_ | refine wk_nil ?_ | refine wo_dst rfl (opR_call ?_) | refine wo_nodst (opR_call ?_) | refine wo_dst rfl (opR_pure ?_) | refine wo_nodst (opR_pure ?_)
    | refine give_ret ?_ | refine give_end ?_)
  refine (w1 _).mono ?_
  rintro _ h2 ⟨⟨R2, b, rfl, r1, r2, r3, r4⟩, g2⟩; have n2 := g2.1; have k2 := g2.2; try simp only [next_new, next_set] at n2 k2
  have hR2 : R2 < 60 ^ 146 := Nat.lt_of_le_of_lt (by rw [r1]; exact Nat.le_mul_of_pos_right _ (Nat.pow_pos (by omega))) hR1
  rw [num_cells]
  have c1 : h2.get h.next = some (.cells C1 91 true) := by rw [k2 _ (by omega)]; simp (disch := first | assumption | omega) only [push_cast, ↓reduceIte, reduceIte, Nat.reduceEqDiff, Nat.reduceAdd, Nat.reduceSub, Nat.reduceMul, Nat.reduceBEq, Int.reduceNeg]
  have s2 := storeK_all (num_ne R2) (num_len R2) (ints_flat .u8 (numD R2)) c1 (over_all (by rw [num_len, hn1]))
  have hc2 : takeN 146 (ints .u8 (numD R2)) = some (ints .u8 (numD R2)) := num_cut R2
  have w2 := fun H => without_w R2 5 r3 hR2 (by omega) (by omega) H
  rw [num_cells] at w2
  have hn2 := num_len R2
  generalize ints .u8 (numD R2) = C2 at *
  repeat' (first
    | ((with_reducible first | refine optP_id ?_ | refine condP_id ?_ | refine resP_id ?_ | refine callT_of ?_); conv => { arg 1; simp (disch := first | assumption | omega) only [push_cast, ↓reduceIte, reduceIte, Nat.reduceEqDiff, Nat.reduceAdd, Nat.reduceSub, Nat.reduceMul, Nat.reduceBEq, Int.reduceNeg, s2, hc2] }; first | ((with_reducible refine optP_id ?_); refine optP_some ?_) | ((with_reducible refine condP_id ?_); first | refine condP_yes (by first | assumption | exact fun hn => hn (by assumption) | omega | decide) ?_ | refine condP_non (by assumption) ?_ | refine condP_no (by first | assumption | omega | decide) ?_ | refine condP_decn (fun hc => ?_) (fun hc => ?_) | refine condP_dec (fun hc => ?_) (fun hc => ?_) | refine condP_true (by first | assumption | rfl) ?_ | refine condP_false (by first | assumption | rfl) ?_ | refine condP_bool (fun hc => ?_) (fun hc => ?_)) | ((with_reducible refine resP_id ?_); first | refine resP_one ?_ | refine resP_two ?_ | refine resP_three ?_ | refine resP_four ?_ | refine resP_zero ?_) | ((with_reducible refine callT_to ?_); first | refine callP_plain ?_ | refine callP_yield ?_ | (refine callP_func ?_; conv => { arg 3; simp only [push_cast] })))
    | refine wk_seq ?_ | refine wk_region ?_ | refine wk_skip ?_ | refine wo_nil ?_ | refine wk_cond ?_ | refine wk_ret ?_ | refine wk_nil ?_ | refine wo_dst rfl (opR_call ?_) | refine wo_nodst (opR_call ?_) | refine wo_dst rfl (opR_pure ?_) | refine wo_nodst (opR_pure ?_)
    | refine give_ret ?_ | refine give_end ?_)
  refine (w2 _).mono ?_
  rintro _ h3 ⟨⟨R3, c, rfl, t1, t2, t3, t4⟩, g3⟩; have n3 := g3.1; have k3 := g3.2; try simp only [next_new, next_set] at n3 k3
  have hR3 : R3 < 60 ^ 146 := Nat.lt_of_le_of_lt (by rw [t1]; exact Nat.le_mul_of_pos_right _ (Nat.pow_pos (by omega))) hR2
  rw [num_cells]
  have c2 : h3.get h.next = some (.cells C2 91 true) := by rw [k3 _ (by omega)]; simp (disch := first | assumption | omega) only [push_cast, ↓reduceIte, reduceIte, Nat.reduceEqDiff, Nat.reduceAdd, Nat.reduceSub, Nat.reduceMul, Nat.reduceBEq, Int.reduceNeg]
  have s3 := storeK_all (num_ne R3) (num_len R3) (ints_flat .u8 (numD R3)) c2 (over_all (by rw [num_len, hn2]))
  have hc3 : takeN 146 (ints .u8 (numD R3)) = some (ints .u8 (numD R3)) := num_cut R3
  have w3 := fun H => isone_w R3 hR3 H
  rw [num_cells] at w3
  generalize ints .u8 (numD R3) = C3 at *
  repeat' (first
    | ((with_reducible first | refine optP_id ?_ | refine condP_id ?_ | refine resP_id ?_ | refine callT_of ?_); conv => { arg 1; simp (disch := first | assumption | omega) only [push_cast, ↓reduceIte, reduceIte, Nat.reduceEqDiff, Nat.reduceAdd, Nat.reduceSub, Nat.reduceMul, Nat.reduceBEq, Int.reduceNeg, s3, hc3] }; first | ((with_reducible refine optP_id ?_); refine optP_some ?_) | ((with_reducible refine condP_id ?_); first | refine condP_yes (by first | assumption | exact fun hn => hn (by assumption) | omega | decide) ?_ | refine condP_non (by assumption) ?_ | refine condP_no (by first | assumption | omega | decide) ?_ | refine condP_decn (fun hc => ?_) (fun hc => ?_) | refine condP_dec (fun hc => ?_) (fun hc => ?_) | refine condP_true (by first | assumption | rfl) ?_ | refine condP_false (by first | assumption | rfl) ?_ | refine condP_bool (fun hc => ?_) (fun hc => ?_)) | ((with_reducible refine resP_id ?_); first | refine resP_one ?_ | refine resP_two ?_ | refine resP_three ?_ | refine resP_four ?_ | refine resP_zero ?_) | ((with_reducible refine callT_to ?_); first | refine callP_plain ?_ | refine callP_yield ?_ | (refine callP_func ?_; conv => { arg 3; simp only [push_cast] })))
    | refine wk_seq ?_ | refine wk_region ?_ | refine wk_skip ?_ | refine wo_nil ?_ | refine wk_cond ?_ | refine wk_ret ?_ | refine wk_nil ?_ | refine wo_dst rfl (opR_call ?_) | refine wo_nodst (opR_call ?_) | refine wo_dst rfl (opR_pure ?_) | refine wo_nodst (opR_pure ?_)
    | refine give_ret ?_ | refine give_end ?_)
  refine (w3 _).mono ?_
  rintro _ h4 ⟨rfl, g4⟩; have n4 := g4.1; have k4 := g4.2; try simp only [next_new, next_set] at n4 k4
  have d32 : R3 ∣ R2 := ⟨5 ^ c, t1⟩
  have d31 : R3 ∣ R1 := Nat.dvd_trans d32 ⟨3 ^ b, r1⟩
  have d30 : R3 ∣ X := Nat.dvd_trans d31 ⟨2 ^ a, q1⟩
  by_cases h1' : R3 = 1
  · rw [decide_eq_true h1']
    repeat' (first
    | ((with_reducible first | refine optP_id ?_ | refine condP_id ?_ | refine resP_id ?_ | refine callT_of ?_); conv => { arg 1; simp (disch := first | assumption | omega) only [push_cast, ↓reduceIte, reduceIte, Nat.reduceEqDiff, Nat.reduceAdd, Nat.reduceSub, Nat.reduceMul, Nat.reduceBEq, Int.reduceNeg, k4] }; first | ((with_reducible refine optP_id ?_); refine optP_some ?_) | ((with_reducible refine condP_id ?_); first | refine condP_yes (by first | assumption | exact fun hn => hn (by assumption) | omega | decide) ?_ | refine condP_non (by assumption) ?_ | refine condP_no (by first | assumption | omega | decide) ?_ | refine condP_decn (fun hc => ?_) (fun hc => ?_) | refine condP_dec (fun hc => ?_) (fun hc => ?_) | refine condP_true (by first | assumption | rfl) ?_ | refine condP_false (by first | assumption | rfl) ?_ | refine condP_bool (fun hc => ?_) (fun hc => ?_)) | ((with_reducible refine resP_id ?_); first | refine resP_one ?_ | refine resP_two ?_ | refine resP_three ?_ | refine resP_four ?_ | refine resP_zero ?_) | ((with_reducible refine callT_to ?_); first | refine callP_plain ?_ | refine callP_yield ?_ | (refine callP_func ?_; conv => { arg 3; simp only [push_cast] })))
    | refine wk_seq ?_ | refine wk_region ?_ | refine wk_skip ?_ | refine wo_nil ?_ | refine wk_cond ?_ | refine wk_ret ?_ | refine wk_nil ?_ | refine wo_dst rfl (opR_call ?_) | refine wo_nodst (opR_call ?_) | refine wo_dst rfl (opR_pure ?_) | refine wo_nodst (opR_pure ?_)
    | refine give_ret ?_ | refine give_end ?_)
    refine ⟨.inl ⟨a, b, c, ?_, q4, r4, t4, rfl⟩, by (repeat (first | exact Gr.refl _ | assumption | (refine Gr.trans ?_ (by assumption)) | refine Gr.set ?_ (by first | exact Nat.le_refl _ | omega | (simp only [next_new, next_set]; omega)) _ | refine Gr.new ?_ _))⟩
    rw [q1, r1, t1, h1', Nat.one_mul, Nat.mul_comm, Nat.mul_comm (5 ^ c), Nat.mul_assoc]
  · rw [decide_eq_false h1']
    repeat' (first
    | ((with_reducible first | refine optP_id ?_ | refine condP_id ?_ | refine resP_id ?_ | refine callT_of ?_); conv => { arg 1; simp (disch := first | assumption | omega) only [push_cast, ↓reduceIte, reduceIte, Nat.reduceEqDiff, Nat.reduceAdd, Nat.reduceSub, Nat.reduceMul, Nat.reduceBEq, Int.reduceNeg, k4] }; first | ((with_reducible refine optP_id ?_); refine optP_some ?_) | ((with_reducible refine condP_id ?_); first | refine condP_yes (by first | assumption | exact fun hn => hn (by assumption) | omega | decide) ?_ | refine condP_non (by assumption) ?_ | refine condP_no (by first | assumption | omega | decide) ?_ | refine condP_decn (fun hc => ?_) (fun hc => ?_) | refine condP_dec (fun hc => ?_) (fun hc => ?_) | refine condP_true (by first | assumption | rfl) ?_ | refine condP_false (by first | assumption | rfl) ?_ | refine condP_bool (fun hc => ?_) (fun hc => ?_)) | ((with_reducible refine resP_id ?_); first | refine resP_one ?_ | refine resP_two ?_ | refine resP_three ?_ | refine resP_four ?_ | refine resP_zero ?_) | ((with_reducible refine callT_to ?_); first | refine callP_plain ?_ | refine callP_yield ?_ | (refine callP_func ?_; conv => { arg 3; simp only [push_cast] })))
    | refine wk_seq ?_ | refine wk_region ?_ | refine wk_skip ?_ | refine wo_nil ?_ | refine wk_cond ?_ | refine wk_ret ?_ | refine wk_nil ?_ | refine wo_dst rfl (opR_call ?_) | refine wo_nodst (opR_call ?_) | refine wo_dst rfl (opR_pure ?_) | refine wo_nodst (opR_pure ?_)
    | refine give_ret ?_ | refine give_end ?_)
    exact ⟨.inr ⟨⟨R3, h1', not_dvd q2 d31, not_dvd r2 d32, t2, d30⟩, rfl⟩, by (repeat (first | exact Gr.refl _ | assumption | (refine Gr.trans ?_ (by assumption)) | refine Gr.set ?_ (by first | exact Nat.le_refl _ | omega | (simp only [next_new, next_set]; omega)) _ | refine Gr.new ?_ _))⟩
theorem max3 {P : Program} (h : AHeap) (ts : List TypeId) (a b c : Nat) : builtinOp P h .max ts [.int .i64 (a : Int), .int .i64 (b : Int), .int .i64 (c : Int)] = some (.int .i64 ((max (max a b) c : Nat) : Int), h) := by
  show some (Value.int .i64 (cond (ltI (cond (ltI (a : Int) (b : Int)) (b : Int) (a : Int)) (c : Int)) (c : Int) (cond (ltI (a : Int) (b : Int)) (b : Int) (a : Int))), h) = _
  rw [ltI_spec, ltI_spec]
  have e1 : cond (decide ((a : Int) < (b : Int))) (b : Int) (a : Int) = ((max a b : Nat) : Int) := by
    by_cases hab : (a : Int) < (b : Int)
    · rw [decide_eq_true hab, cond_true]; omega
    · rw [decide_eq_false hab, cond_false]; omega
  rw [e1]
  congr 2
  by_cases hab : ((max a b : Nat) : Int) < (c : Int)
  · rw [decide_eq_true hab, cond_true]; congr 1; omega
  · rw [decide_eq_false hab, cond_false]; congr 1; omega
theorem bv91 : buildV Tryd.prog 91 [] = some (.agg (ints .u8 (numD 0)).toArray) := by kernel_rfl
/-- the exponent of the power of 60 -/
def exE (a b c : Nat) : Nat := max (max ((a + 1) / 2) b) c
def inv60 (a b c : Nat) : Nat := 2 ^ (2 * exE a b c - a) * 3 ^ (exE a b c - b) * 5 ^ (exE a b c - c)
theorem inv60_mul (a b c : Nat) : 2 ^ a * 3 ^ b * 5 ^ c * inv60 a b c = 60 ^ exE a b c := inv_mul (by unfold exE; omega) (by unfold exE; omega) (by unfold exE; omega)
theorem inv60_pos (a b c : Nat) : 0 < inv60 a b c := Nat.mul_pos (Nat.mul_pos (Nat.pow_pos (by decide)) (Nat.pow_pos (by decide))) (Nat.pow_pos (by decide))
theorem inv60_le (a b c : Nat) : inv60 a b c ≤ 60 ^ exE a b c := by
  rw [← inv60_mul]
  exact Nat.le_mul_of_pos_left _ (Nat.mul_pos (Nat.mul_pos (Nat.pow_pos (by decide)) (Nat.pow_pos (by decide))) (Nat.pow_pos (by decide)))
def invR (X : Nat) (r : Value) : Prop := (∃ a b c : Nat, X = 2 ^ a * 3 ^ b * 5 ^ c ∧ exE a b c ≤ 100 ∧ r = .tuple #[numV (inv60 a b c), .int .i64 ((exE a b c : Nat) : Int), .int .i64 0]) ∨ (irr X ∧ r = .tuple #[numV 0, .int .i64 0, .int .i64 31])
theorem exE_le {a b c : Nat} (h : 2 ^ a * 3 ^ b * 5 ^ c < 60 ^ 16) : exE a b c ≤ 100 := by
  have p2 : 0 < 2 ^ a := Nat.pow_pos (by decide)
  have p3 : 0 < 3 ^ b := Nat.pow_pos (by decide)
  have p5 : 0 < 5 ^ c := Nat.pow_pos (by decide)
  have h2 : 2 ^ a ≤ 2 ^ a * 3 ^ b * 5 ^ c := by rw [Nat.mul_assoc]; exact Nat.le_mul_of_pos_right _ (Nat.mul_pos p3 p5)
  have h3 : 3 ^ b ≤ 2 ^ a * 3 ^ b * 5 ^ c := Nat.le_trans (Nat.le_mul_of_pos_left _ p2) (Nat.le_mul_of_pos_right _ p5)
  have h5 : 5 ^ c ≤ 2 ^ a * 3 ^ b * 5 ^ c := Nat.le_mul_of_pos_left _ (Nat.mul_pos p2 p3)
  have a1 := pow_small_k (by decide) h2 h
  have a2 := pow_small_k (by decide) h3 h
  have a3 := pow_small_k (by decide) h5 h
  unfold exE
  omega
set_option maxRecDepth 100000 in
set_option maxHeartbeats 8000000 in
theorem inv_w (X : Nat) (hX0 : 0 < X) (hX : X < 60 ^ 16) (h : AHeap) : Wc pr (.func 75) [numV X] h fun r h' => invR X r ∧ Gr h h' := by
  have hX146 : X < 60 ^ 146 := Nat.lt_of_lt_of_le hX (Nat.pow_le_pow_right (by decide) (by omega))
  have we := fun H => exp_w X hX0 hX146 H
  rw [num_cells] at we ⊢
  have hf0 := ints_flat .u8 (numD X)
  have hc0 : takeN 146 (ints .u8 (numD X)) = some (ints .u8 (numD X)) := num_cut X
  have zv := zv91
  have bv := bv91
  refine wc_func Tryd.func75 rfl rfl rfl rfl ?_
  generalize ints .u8 (numD X) = C0 at *
  generalize hZ : ints .u8 (numD 0) = Z at *
  repeat' (first
    | ((with_reducible first | refine optP_id ?_ | refine condP_id ?_ | refine resP_id ?_ | refine callT_of ?_); conv => { arg 1; simp (disch := first | assumption | omega) only [push_cast, ↓reduceIte, reduceIte, Nat.reduceEqDiff, Nat.reduceAdd, Nat.reduceSub, Nat.reduceMul, Nat.reduceBEq, Int.reduceNeg, hf0, hc0, zv] }; first | ((with_reducible refine optP_id ?_); refine optP_some ?_) | ((with_reducible refine condP_id ?_); first | refine condP_yes (by first | assumption | exact fun hn => hn (by assumption) | omega | decide) ?_ | refine condP_non (by assumption) ?_ | refine condP_no (by first | assumption | omega | decide) ?_ | refine condP_decn (fun hc => ?_) (fun hc => ?_) | refine condP_dec (fun hc => ?_) (fun hc => ?_) | refine condP_true (by first | assumption | rfl) ?_ | refine condP_false (by first | assumption | rfl) ?_ | refine condP_bool (fun hc => ?_) (fun hc => ?_)) | ((with_reducible refine resP_id ?_); first | refine resP_one ?_ | refine resP_two ?_ | refine resP_three ?_ | refine resP_four ?_ | refine resP_zero ?_) | ((with_reducible refine callT_to ?_); first | refine callP_plain ?_ | refine callP_yield ?_ | (refine callP_func ?_; conv => { arg 3; simp only [push_cast] })))
    | refine wk_seq ?_ | refine wk_region ?_ | refine wk_skip ?_ | refine wo_nil ?_ | refine wk_cond ?_ | refine wk_ret ?_ | refine wk_nil ?_ | refine wo_dst rfl (opR_call ?_) | refine wo_nodst (opR_call ?_) | refine wo_dst rfl (opR_pure ?_) | refine wo_nodst (opR_pure ?_)
    | refine give_ret ?_ | refine give_end ?_)
  refine (we _).mono ?_
  rintro _ h1 ⟨⟨a, b, c, hE, ha, hb, hc, rfl⟩ | ⟨hi, rfl⟩, g1⟩; all_goals have n1 := g1.1; have k1 := g1.2; try simp only [next_new, next_set] at n1 k1
  · have hex := exE_le (by rw [← hE]; exact hX)
    have i1 : (a + 1) / 2 ≤ exE a b c := by unfold exE; omega
    have i2 : b ≤ exE a b c := by unfold exE; omega
    have i3 : c ≤ exE a b c := by unfold exE; omega
    have mx : ∀ H ts, builtinOp Tryd.prog H .max ts [.int .i64 (((a + 1) / 2 : Nat) : Int), .int .i64 (b : Int), .int .i64 (c : Int)] = some (.int .i64 ((exE a b c : Nat) : Int), H) := fun H ts => max3 H ts _ _ _
    have hmul := inv60_mul a b c
    have hpos := inv60_pos a b c
    have hle := inv60_le a b c
    have h145 : inv60 a b c < 60 ^ 145 := Nat.lt_of_le_of_lt hle (Nat.lt_of_le_of_lt (Nat.pow_le_pow_right (by decide) hex) ((Nat.pow_lt_pow_iff_right (by decide)).2 (by omega)))
    have hY : inv60 a b c = 2 ^ (2 * exE a b c - a) * 3 ^ (exE a b c - b) * 5 ^ (exE a b c - c) := rfl
    have p3 : 0 < 3 ^ (exE a b c - b) := Nat.pow_pos (by decide)
    have p5 : 0 < 5 ^ (exE a b c - c) := Nat.pow_pos (by decide)
    have y2 : 2 ^ (2 * exE a b c - a) * 3 ^ (exE a b c - b) < 60 ^ 145 := Nat.lt_of_le_of_lt (by rw [hY]; exact Nat.le_mul_of_pos_right _ p5) h145
    have y1 : 2 ^ (2 * exE a b c - a) < 60 ^ 145 := Nat.lt_of_le_of_lt (Nat.le_mul_of_pos_right _ p3) y2
    have y3 := h145
    rw [hY] at y3
    have fin : invR X (.tuple #[numV (inv60 a b c), .int .i64 ((exE a b c : Nat) : Int), .int .i64 0]) := .inl ⟨a, b, c, hE, hex, rfl⟩
    rw [hY] at fin
    generalize exE a b c = E at *
    obtain ⟨m, hm⟩ : ∃ m : Nat, m = (a + 1) / 2 := ⟨_, rfl⟩
    have e21 : ((a : Int) + 1) / 2 = (m : Int) := by omega
    rw [← hm] at mx
    obtain ⟨t2, ht2⟩ : ∃ t : Nat, t = 2 * E - a := ⟨_, rfl⟩
    obtain ⟨t3, ht3⟩ : ∃ t : Nat, t = E - b := ⟨_, rfl⟩
    obtain ⟨t5, ht5⟩ : ∃ t : Nat, t = E - c := ⟨_, rfl⟩
    have eA : (2 : Int) * (E : Int) - (a : Int) = (t2 : Int) := by omega
    have eB : (E : Int) - (b : Int) = (t3 : Int) := by omega
    have eC : (E : Int) - (c : Int) = (t5 : Int) := by omega
    rw [← ht2, ← ht3, ← ht5] at fin y3
    rw [← ht2, ← ht3] at y2
    rw [← ht2] at y1
    repeat' (first
    | ((with_reducible first | refine optP_id ?_ | refine condP_id ?_ | refine resP_id ?_ | refine callT_of ?_); conv => { arg 1; simp (disch := first | assumption | omega) only [push_cast, ↓reduceIte, reduceIte, Nat.reduceEqDiff, Nat.reduceAdd, Nat.reduceSub, Nat.reduceMul, Nat.reduceBEq, Int.reduceNeg, k1, e21, mx] }; first | ((with_reducible refine optP_id ?_); refine optP_some ?_) | ((with_reducible refine condP_id ?_); first | refine condP_yes (by first | assumption | exact fun hn => hn (by assumption) | omega | decide) ?_ | refine condP_non (by assumption) ?_ | refine condP_no (by first | assumption | omega | decide) ?_ | refine condP_decn (fun hc => ?_) (fun hc => ?_) | refine condP_dec (fun hc => ?_) (fun hc => ?_) | refine condP_true (by first | assumption | rfl) ?_ | refine condP_false (by first | assumption | rfl) ?_ | refine condP_bool (fun hc => ?_) (fun hc => ?_)) | ((with_reducible refine resP_id ?_); first | refine resP_one ?_ | refine resP_two ?_ | refine resP_three ?_ | refine resP_four ?_ | refine resP_zero ?_) | ((with_reducible refine callT_to ?_); first | refine callP_plain ?_ | refine callP_yield ?_ | (refine callP_func ?_; conv => { arg 3; simp only [push_cast] })))
    | refine wk_seq ?_ | refine wk_region ?_ | refine wk_skip ?_ | refine wo_nil ?_ | refine wk_cond ?_ | refine wk_ret ?_ | refine wk_nil ?_ | refine wo_dst rfl (opR_call ?_) | refine wo_nodst (opR_call ?_) | refine wo_dst rfl (opR_pure ?_) | refine wo_nodst (opR_pure ?_)
    | refine give_ret ?_ | refine give_end ?_)
    refine (numof_w 1 (by omega) _).mono ?_
    rintro _ h2 ⟨rfl, g2⟩; have n2 := g2.1; have k2 := g2.2; try simp only [next_new, next_set] at n2 k2
    repeat' (first
    | ((with_reducible first | refine optP_id ?_ | refine condP_id ?_ | refine resP_id ?_ | refine callT_of ?_); conv => { arg 1; simp (disch := first | assumption | omega) only [push_cast, ↓reduceIte, reduceIte, Nat.reduceEqDiff, Nat.reduceAdd, Nat.reduceSub, Nat.reduceMul, Nat.reduceBEq, Int.reduceNeg, k1, k2, eA] }; first | ((with_reducible refine optP_id ?_); refine optP_some ?_) | ((with_reducible refine condP_id ?_); first | refine condP_yes (by first | assumption | exact fun hn => hn (by assumption) | omega | decide) ?_ | refine condP_non (by assumption) ?_ | refine condP_no (by first | assumption | omega | decide) ?_ | refine condP_decn (fun hc => ?_) (fun hc => ?_) | refine condP_dec (fun hc => ?_) (fun hc => ?_) | refine condP_true (by first | assumption | rfl) ?_ | refine condP_false (by first | assumption | rfl) ?_ | refine condP_bool (fun hc => ?_) (fun hc => ?_)) | ((with_reducible refine resP_id ?_); first | refine resP_one ?_ | refine resP_two ?_ | refine resP_three ?_ | refine resP_four ?_ | refine resP_zero ?_) | ((with_reducible refine callT_to ?_); first | refine callP_plain ?_ | refine callP_yield ?_ | (refine callP_func ?_; conv => { arg 3; simp only [push_cast] })))
    | refine wk_seq ?_ | refine wk_region ?_ | refine wk_skip ?_ | refine wo_nil ?_ | refine wk_cond ?_ | refine wk_ret ?_ | refine wk_nil ?_ | refine wo_dst rfl (opR_call ?_) | refine wo_nodst (opR_call ?_) | refine wo_dst rfl (opR_pure ?_) | refine wo_nodst (opR_pure ?_)
    | refine give_ret ?_ | refine give_end ?_)
    refine (scaled_w 1 2 t2 (by rw [Nat.one_mul]; exact y1) (by omega) (by omega) (by omega) _).mono ?_
    rintro _ h3 ⟨rfl, g3⟩; have n3 := g3.1; have k3 := g3.2; try simp only [next_new, next_set] at n3 k3
    repeat' (first
    | ((with_reducible first | refine optP_id ?_ | refine condP_id ?_ | refine resP_id ?_ | refine callT_of ?_); conv => { arg 1; simp (disch := first | assumption | omega) only [push_cast, ↓reduceIte, reduceIte, Nat.reduceEqDiff, Nat.reduceAdd, Nat.reduceSub, Nat.reduceMul, Nat.reduceBEq, Int.reduceNeg, k1, k2, k3, eB] }; first | ((with_reducible refine optP_id ?_); refine optP_some ?_) | ((with_reducible refine condP_id ?_); first | refine condP_yes (by first | assumption | exact fun hn => hn (by assumption) | omega | decide) ?_ | refine condP_non (by assumption) ?_ | refine condP_no (by first | assumption | omega | decide) ?_ | refine condP_decn (fun hc => ?_) (fun hc => ?_) | refine condP_dec (fun hc => ?_) (fun hc => ?_) | refine condP_true (by first | assumption | rfl) ?_ | refine condP_false (by first | assumption | rfl) ?_ | refine condP_bool (fun hc => ?_) (fun hc => ?_)) | ((with_reducible refine resP_id ?_); first | refine resP_one ?_ | refine resP_two ?_ | refine resP_three ?_ | refine resP_four ?_ | refine resP_zero ?_) | ((with_reducible refine callT_to ?_); first | refine callP_plain ?_ | refine callP_yield ?_ | (refine callP_func ?_; conv => { arg 3; simp only [push_cast] })))
    | refine wk_seq ?_ | refine wk_region ?_ | refine wk_skip ?_ | refine wo_nil ?_ | refine wk_cond ?_ | refine wk_ret ?_ | refine wk_nil ?_ | refine wo_dst rfl (opR_call ?_) | refine wo_nodst (opR_call ?_) | refine wo_dst rfl (opR_pure ?_) | refine wo_nodst (opR_pure ?_)
    | refine give_ret ?_ | refine give_end ?_)
    refine (scaled_w _ 3 t3 y2 (by omega) (by omega) (by omega) _).mono ?_
    rintro _ h4 ⟨rfl, g4⟩; have n4 := g4.1; have k4 := g4.2; try simp only [next_new, next_set] at n4 k4
    repeat' (first
    | ((with_reducible first | refine optP_id ?_ | refine condP_id ?_ | refine resP_id ?_ | refine callT_of ?_); conv => { arg 1; simp (disch := first | assumption | omega) only [push_cast, ↓reduceIte, reduceIte, Nat.reduceEqDiff, Nat.reduceAdd, Nat.reduceSub, Nat.reduceMul, Nat.reduceBEq, Int.reduceNeg, k1, k2, k3, k4, eC] }; first | ((with_reducible refine optP_id ?_); refine optP_some ?_) | ((with_reducible refine condP_id ?_); first | refine condP_yes (by first | assumption | exact fun hn => hn (by assumption) | omega | decide) ?_ | refine condP_non (by assumption) ?_ | refine condP_no (by first | assumption | omega | decide) ?_ | refine condP_decn (fun hc => ?_) (fun hc => ?_) | refine condP_dec (fun hc => ?_) (fun hc => ?_) | refine condP_true (by first | assumption | rfl) ?_ | refine condP_false (by first | assumption | rfl) ?_ | refine condP_bool (fun hc => ?_) (fun hc => ?_)) | ((with_reducible refine resP_id ?_); first | refine resP_one ?_ | refine resP_two ?_ | refine resP_three ?_ | refine resP_four ?_ | refine resP_zero ?_) | ((with_reducible refine callT_to ?_); first | refine callP_plain ?_ | refine callP_yield ?_ | (refine callP_func ?_; conv => { arg 3; simp only [push_cast] })))
    | refine wk_seq ?_ | refine wk_region ?_ | refine wk_skip ?_ | refine wo_nil ?_ | refine wk_cond ?_ | refine wk_ret ?_ | refine wk_nil ?_ | refine wo_dst rfl (opR_call ?_) | refine wo_nodst (opR_call ?_) | refine wo_dst rfl (opR_pure ?_) | refine wo_nodst (opR_pure ?_)
    | refine give_ret ?_ | refine give_end ?_)
    refine (scaled_w _ 5 t5 y3 (by omega) (by omega) (by omega) _).mono ?_
    rintro _ h5 ⟨rfl, g5⟩; have n5 := g5.1; have k5 := g5.2; try simp only [next_new, next_set] at n5 k5
    rw [num_cells] at fin
    rw [num_cells]
    generalize hYY : 2 ^ t2 * 3 ^ t3 * 5 ^ t5 = YY at *
    have c1 : h5.get (h.next + 1) = some (.cells Z 91 true) := by rw [k5 _ (by omega), k4 _ (by omega), k3 _ (by omega), k2 _ (by omega), k1 _ (by omega)]; simp (disch := first | assumption | omega) only [push_cast, ↓reduceIte, reduceIte, Nat.reduceEqDiff, Nat.reduceAdd, Nat.reduceSub, Nat.reduceMul, Nat.reduceBEq, Int.reduceNeg]
    have s1 := storeK_all (num_ne YY) (num_len YY) (ints_flat .u8 (numD YY)) c1 (over_all (by rw [← hZ, num_len, num_len]))
    have s2 := storeK_all (H := h5.set (h.next + 1) (.cells (ints .u8 (numD YY)) 91 true)) (b := h.next + 1) (e := 91) (num_ne YY) (num_len YY) (ints_flat .u8 (numD YY)) (by simp (disch := first | assumption | omega) only [push_cast, ↓reduceIte, reduceIte, Nat.reduceEqDiff, Nat.reduceAdd, Nat.reduceSub, Nat.reduceMul, Nat.reduceBEq, Int.reduceNeg]) (over_all rfl)
    have hcY : takeN 146 (ints .u8 (numD YY)) = some (ints .u8 (numD YY)) := num_cut YY
    generalize ints .u8 (numD YY) = CY at *
    repeat' (first
    | ((with_reducible first | refine optP_id ?_ | refine condP_id ?_ | refine resP_id ?_ | refine callT_of ?_); conv => { arg 1; simp (disch := first | assumption | omega) only [push_cast, ↓reduceIte, reduceIte, Nat.reduceEqDiff, Nat.reduceAdd, Nat.reduceSub, Nat.reduceMul, Nat.reduceBEq, Int.reduceNeg, s1, s2, hcY] }; first | ((with_reducible refine optP_id ?_); refine optP_some ?_) | ((with_reducible refine condP_id ?_); first | refine condP_yes (by first | assumption | exact fun hn => hn (by assumption) | omega | decide) ?_ | refine condP_non (by assumption) ?_ | refine condP_no (by first | assumption | omega | decide) ?_ | refine condP_decn (fun hc => ?_) (fun hc => ?_) | refine condP_dec (fun hc => ?_) (fun hc => ?_) | refine condP_true (by first | assumption | rfl) ?_ | refine condP_false (by first | assumption | rfl) ?_ | refine condP_bool (fun hc => ?_) (fun hc => ?_)) | ((with_reducible refine resP_id ?_); first | refine resP_one ?_ | refine resP_two ?_ | refine resP_three ?_ | refine resP_four ?_ | refine resP_zero ?_) | ((with_reducible refine callT_to ?_); first | refine callP_plain ?_ | refine callP_yield ?_ | (refine callP_func ?_; conv => { arg 3; simp only [push_cast] })))
    | refine wk_seq ?_ | refine wk_region ?_ | refine wk_skip ?_ | refine wo_nil ?_ | refine wk_cond ?_ | refine wk_ret ?_ | refine wk_nil ?_ | refine wo_dst rfl (opR_call ?_) | refine wo_nodst (opR_call ?_) | refine wo_dst rfl (opR_pure ?_) | refine wo_nodst (opR_pure ?_)
    | refine give_ret ?_ | refine give_end ?_)
    exact ⟨fin, by (repeat (first | exact Gr.refl _ | assumption | (refine Gr.trans ?_ (by assumption)) | refine Gr.set ?_ (by first | exact Nat.le_refl _ | omega | (simp only [next_new, next_set]; omega)) _ | refine Gr.new ?_ _))⟩
  · have fin : invR X (.tuple #[numV 0, .int .i64 0, .int .i64 31]) := .inr ⟨hi, rfl⟩
    rw [num_cells, hZ] at fin
    have c1 : h1.get (h.next + 1) = some (.cells Z 91 true) := by rw [k1 _ (by omega)]; simp (disch := first | assumption | omega) only [push_cast, ↓reduceIte, reduceIte, Nat.reduceEqDiff, Nat.reduceAdd, Nat.reduceSub, Nat.reduceMul, Nat.reduceBEq, Int.reduceNeg]
    have zne : Z ≠ [] := by rw [← hZ]; exact num_ne _
    have znl : Z.length = 146 := by rw [← hZ]; exact num_len _
    have znf : allFlat Z = true := by rw [← hZ]; exact ints_flat _ _
    have s1 := storeK_all zne znl znf c1 (over_all rfl)
    have hcz : takeN 146 Z = some Z := by rw [← hZ]; exact num_cut 0
    repeat' (first
    | ((with_reducible first | refine optP_id ?_ | refine condP_id ?_ | refine resP_id ?_ | refine callT_of ?_); conv => { arg 1; simp (disch := first | assumption | omega) only [push_cast, ↓reduceIte, reduceIte, Nat.reduceEqDiff, Nat.reduceAdd, Nat.reduceSub, Nat.reduceMul, Nat.reduceBEq, Int.reduceNeg, k1, bv, s1, hcz] }; first | ((with_reducible refine optP_id ?_); refine optP_some ?_) | ((with_reducible refine condP_id ?_); first | refine condP_yes (by first | assumption | exact fun hn => hn (by assumption) | omega | decide) ?_ | refine condP_non (by assumption) ?_ | refine condP_no (by first | assumption | omega | decide) ?_ | refine condP_decn (fun hc => ?_) (fun hc => ?_) | refine condP_dec (fun hc => ?_) (fun hc => ?_) | refine condP_true (by first | assumption | rfl) ?_ | refine condP_false (by first | assumption | rfl) ?_ | refine condP_bool (fun hc => ?_) (fun hc => ?_)) | ((with_reducible refine resP_id ?_); first | refine resP_one ?_ | refine resP_two ?_ | refine resP_three ?_ | refine resP_four ?_ | refine resP_zero ?_) | ((with_reducible refine callT_to ?_); first | refine callP_plain ?_ | refine callP_yield ?_ | (refine callP_func ?_; conv => { arg 3; simp only [push_cast] })))
    | refine wk_seq ?_ | refine wk_region ?_ | refine wk_skip ?_ | refine wo_nil ?_ | refine wk_cond ?_ | refine wk_ret ?_ | refine wk_nil ?_ | refine wo_dst rfl (opR_call ?_) | refine wo_nodst (opR_call ?_) | refine wo_dst rfl (opR_pure ?_) | refine wo_nodst (opR_pure ?_)
    | refine give_ret ?_ | refine give_end ?_)
    exact ⟨fin, by (repeat (first | exact Gr.refl _ | assumption | (refine Gr.trans ?_ (by assumption)) | refine Gr.set ?_ (by first | exact Nat.le_refl _ | omega | (simp only [next_new, next_set]; omega)) _ | refine Gr.new ?_ _))⟩
end Go.Proofs.YtcfohcpcepeolaaDoor
