/- The walk of the law PlaceStepsMake. -/
import Derived.Test.YtelepfablohdmaaGreatDoorVN
import Derived.Test.YtelepfablohdmaaGreatDoorVI
set_option linter.unusedSimpArgs false
set_option linter.unusedVariables false
namespace Go.Proofs.YtelepfablohdmaaGreatDoor
open Go.Ev
theorem dig_nf {X : Nat} {r : Value} {H : AHeap} (h : digR X r H) (hX : X < 60 ^ 16) : ∃ d a c, r = .tuple #[.slice a d.length c, .int .i64 0] ∧ IIn H (.slice a d.length c) d ∧ nf X d := by
  obtain ⟨d, w, hd, ⟨h1, rfl, hin⟩ | ⟨h1, _⟩⟩ := h
  · obtain ⟨a, c, rfl, _⟩ := id hin
    exact ⟨d, a, c, rfl, hin, hd⟩
  · have := nf_len hd hX
    omega
theorem prodN_dvd (F : List Nat) (i : Nat) : prodN (F.take i) ∣ prodN F := ⟨prodN (F.drop i), by rw [← prodN_app, List.take_append_drop]⟩
theorem prodN_take {F : List Nat} {i : Nat} (h : i < F.length) : prodN (F.take (i + 1)) = prodN (F.take i) * F[i] := by
  rw [List.take_succ_eq_append_getElem h, prodN_snoc]
/-- digits whose product with P is a power of 60 -/
def invOf (P : Nat) (w : List Int) : Prop := valid w ∧ w ≠ [] ∧ ∃ E, P * valN w = 60 ^ E
theorem invOf_le {P : Nat} {w : List Int} (h : invOf P w) (hP : 0 < P) (hd : P ∣ 60 ^ 12) : valN w ≤ 60 ^ 12 ∧ w.length ≤ 13 := by
  obtain ⟨h1, h2, E, h3⟩ := h
  have hE := recip_bound hd h3 (valN_mod h1 h2) hP
  have h4 : valN w ≤ 60 ^ 12 := Nat.le_trans (Nat.le_trans (Nat.le_mul_of_pos_left _ hP) (Nat.le_of_eq h3)) (Nat.pow_le_pow_right (by decide) hE)
  refine ⟨h4, ?_⟩
  have h5 := valid_ge h1 h2
  have h6 : 60 ^ (w.length - 1) < 60 ^ 13 := Nat.lt_of_le_of_lt h5 (Nat.lt_of_le_of_lt h4 ((Nat.pow_lt_pow_iff_right (by decide)).2 (by omega)))
  have := (Nat.pow_lt_pow_iff_right (by decide : 1 < 60)).1 h6
  omega
theorem pair_val {f : Nat} {A B : List Int} (h : isPair f A B) : valN A * valN B < 60 ^ 12 ∧ valN B < 60 ^ 4 := by
  obtain ⟨h1, h2, h3, h4, h5, h6, h7, _⟩ := h
  have b := Nat.lt_of_lt_of_le (valN_lt h5.1) (Nat.pow_le_pow_right (n := 60) (by decide) h7)
  refine ⟨?_, b⟩
  have a := Nat.lt_of_lt_of_le (valN_lt h1.1) (Nat.pow_le_pow_right (n := 60) (by decide) h3)
  have := Nat.mul_lt_mul'' a b
  rw [← Nat.pow_add] at this
  exact this
theorem pair_one {f : Nat} {A B d : List Int} (h : isPair f A B) (hd : nf (valN A * valN B) d) : d = [1] := by
  obtain ⟨h1, h2, h3, h4, h5, h6, h7, E, hE⟩ := h
  rw [h4, hE] at hd
  refine nf_uniq (i := 0) (j := E) hd (nf_self one_valid) ?_
  rw [valN_one, Nat.pow_zero, Nat.mul_one, Nat.one_mul]
theorem inv_step {P f : Nat} {A B w d : List Int} (hw : invOf P w) (hp : isPair f A B) (hP : 0 < P) (hd : nf (valN w * valN B) d) : invOf (P * f) d := by
  obtain ⟨h1, h2, E, h3⟩ := hw
  obtain ⟨p1, p2, p3, p4, p5, p6, p7, E2, hE2⟩ := hp
  have hpos : 0 < valN w * valN B := Nat.mul_pos (valN_pos h1 h2) (valN_pos p5 p6)
  have hd0 : d ≠ [] := nf_pos hd (by omega)
  obtain ⟨hv, _, e, he⟩ := hd
  refine ⟨hv, hd0, ?_⟩
  have hf : 0 < f := by rw [← p4]; exact valN_pos p1 p2
  have h4 : P * f * valN d * 60 ^ e = 60 ^ (E + E2) := by
    rw [Nat.mul_assoc, he, Nat.pow_add, ← h3, ← hE2]
    generalize valN w = a; generalize valN B = b; grind
  have hq : 0 < P * f * valN d := Nat.mul_pos (Nat.mul_pos hP hf) (valN_pos hv hd0)
  have h5 : 60 ^ e ≤ 60 ^ (E + E2) := by rw [← h4]; exact Nat.le_mul_of_pos_left _ hq
  have h6 := (Nat.pow_le_pow_iff_right (by decide : 1 < 60)).1 h5
  exact ⟨E + E2 - e, Nat.eq_of_mul_eq_mul_right (pow60_pos e) (by rw [h4, ← Nat.pow_add]; congr 1; omega)⟩
theorem invOf_uniq {P Y E : Nat} {w r : List Int} (hw : invOf P w) (hr : nf Y r) (hY : P * Y = 60 ^ E) (hP : 0 < P) : w = r := by
  obtain ⟨h1, h2, E1, h3⟩ := hw
  refine nf_uniq (i := E) (j := E1) (nf_self h1) hr ?_
  refine Nat.eq_of_mul_eq_mul_left hP ?_
  rw [← Nat.mul_assoc, h3, ← Nat.mul_assoc, hY, Nat.mul_comm]
theorem at_cut2 : ∀ (cs : List Value) (off : Nat) (u v : Value), cut cs off 2 = some [u, v] → at? cs off = some u ∧ at? cs (off + 1) = some v
  | [], 0, u, v, h => by cases h
  | [x], 0, u, v, h => by cases h
  | x :: y :: cs, 0, u, v, h => by
    have h2 : some [x, y] = some [u, v] := h
    cases h2; exact ⟨rfl, rfl⟩
  | [], off + 1, u, v, h => by cases h
  | x :: cs, off + 1, u, v, h => at_cut2 cs off u v h
theorem dvd60 {X a b c : Nat} (h : X ∣ 2 ^ a * 3 ^ b * 5 ^ c) (ha : a ≤ 12) (hb : b ≤ 12) (hc : c ≤ 12) : X ∣ 60 ^ 12 := by
  refine Nat.dvd_trans h ?_
  rw [pow60]
  exact Nat.mul_dvd_mul (Nat.mul_dvd_mul (Nat.pow_dvd_pow 2 (by omega)) (Nat.pow_dvd_pow 3 (by omega))) (Nat.pow_dvd_pow 5 (by omega))
theorem prodN_pos {F : List Nat} (h : ∀ f ∈ F, f ∈ facN) : 0 < prodN F := Nat.lt_of_lt_of_le (Nat.pow_pos (by decide)) (prodN_len fun f hf => (fac_reg f (h f hf)).1)
set_option maxRecDepth 100000 in
set_option maxHeartbeats 16000000 in
theorem stepsmake_w (x0 x1 x2 : Int) (h : AHeap) :
    Wc pr (.func 9) [.agg #[.int .i64 x0, .int .i64 x1, .int .i64 x2]] h fun r h' => r = .bool true := by
  have hfx : allFlat [Value.int .i64 x0, .int .i64 x1, .int .i64 x2] = true := rfl
  have hcx : takeN 3 [Value.int .i64 x0, .int .i64 x1, .int .i64 x2] = some [Value.int .i64 x0, .int .i64 x1, .int .i64 x2] := rfl
  have bx0 := Int.emod_nonneg x0 (b := 13) (by omega)
  have bx1 := Int.emod_nonneg x1 (b := 13) (by omega)
  have bx2 := Int.emod_nonneg x2 (b := 13) (by omega)
  have cx0 := Int.emod_lt_of_pos x0 (b := 13) (by omega)
  have cx1 := Int.emod_lt_of_pos x1 (b := 13) (by omega)
  have cx2 := Int.emod_lt_of_pos x2 (b := 13) (by omega)
  have wq := q3_le (m := 12) (x := x0 % 13) (y := x1 % 13) (z := x2 % 13) (by omega) (by omega) (by omega)
  have wd := fun H => digitsof_w x0 x1 x2 (q3 (x0 % 13) (x1 % 13) (x2 % 13)) (by show _ = (((x0 % 13).toNat : Nat) : Int); omega) (by show _ = (((x1 % 13).toNat : Nat) : Int); omega) (by show _ = (((x2 % 13).toNat : Nat) : Int); omega) wq H
  refine wc_func Tryz.func9 rfl rfl rfl rfl ?_
  generalize q3 (x0 % 13) (x1 % 13) (x2 % 13) = q at *
  generalize [Value.int .i64 x0, .int .i64 x1, .int .i64 x2] = CX at *
  repeat' (first
    | ((with_reducible first | refine optP_id ?_ | refine condP_id ?_ | refine condO_id ?_ | refine resP_id ?_ | refine callT_of ?_); conv => { arg 1; simp (disch := first | assumption | omega) only [push_cast, ↓reduceIte, reduceIte, Nat.reduceEqDiff, Nat.reduceAdd, Nat.reduceSub, Nat.reduceMul, Nat.reduceBEq, Int.reduceNeg, hfx, hcx] }; first | ((with_reducible refine optP_id ?_); refine optP_some ?_) | ((with_reducible refine condP_id ?_); first | refine qcy ?_ | refine qcx ?_ | refine qco ?_ | refine condP_decn (fun hc => ?_) (fun hc => ?_) | refine condP_dec (fun hc => ?_) (fun hc => ?_) | refine qct ?_ | refine qcf ?_ | refine condP_bool (fun hc => ?_) (fun hc => ?_)) | ((with_reducible refine condO_id ?_); refine condO_some ?_) | ((with_reducible refine resP_id ?_); refine resP_one ?_) | ((with_reducible refine callT_to ?_); refine callP_plain ?_))
    | refine wk_seq ?_ | refine wk_region ?_ | refine wk_block ?_ | refine wk_inBlock ?_ | refine wk_skip ?_ | refine wk_draw (by kernel_rfl) (by decide +kernel) ?_ | refine wo_nil ?_ | refine wk_exit ?_ | refine exitK_code ?_ | refine exitK_hit ?_ | refine exitK_miss rfl ?_ | refine exitK_inLoop ?_ | refine wk_cond ?_ | refine wk_ret ?_ | refine wk_nil ?_ | refine wo_dst rfl (opR_call ?_) | refine wo_nodst (opR_call ?_) | refine wo_dst rfl (opR_pick ?_) | refine wo_guard rfl rfl ?_ | refine wo_guardn rfl ?_ | refine wo_dst rfl (opR_pure ?_) | refine wo_nodst (opR_pure ?_)
    | refine give_ret ?_ | refine give_end ?_)
  refine (wd _).mono ?_
  rintro _ h1 ⟨⟨A, wA, nA, lA, rfl, iA⟩, g1⟩; have n1 := g1.1; have k1 := g1.2; try simp only [next_new, next_set] at n1 k1
  obtain ⟨aA, cA, rfl, _⟩ := id iA
  have dA := nf_dvd nA
  have hA0 := nf_pos nA (by have := acc_pos q; omega)
  have pA := valN_pos nA.1 hA0
  rw [acc3] at dA
  have q0 := wq 0
  have q1 := wq 1
  have q2 := wq 2
  have d60 := dvd60 dA q0 q1 q2
  repeat' (first
    | ((with_reducible first | refine optP_id ?_ | refine condP_id ?_ | refine condO_id ?_ | refine resP_id ?_ | refine callT_of ?_); conv => { arg 1; simp (disch := first | assumption | omega) only [push_cast, ↓reduceIte, reduceIte, Nat.reduceEqDiff, Nat.reduceAdd, Nat.reduceSub, Nat.reduceMul, Nat.reduceBEq, Int.reduceNeg, k1] }; first | ((with_reducible refine optP_id ?_); refine optP_some ?_) | ((with_reducible refine condP_id ?_); first | refine qcy ?_ | refine qcx ?_ | refine qco ?_ | refine condP_decn (fun hc => ?_) (fun hc => ?_) | refine condP_dec (fun hc => ?_) (fun hc => ?_) | refine qct ?_ | refine qcf ?_ | refine condP_bool (fun hc => ?_) (fun hc => ?_)) | ((with_reducible refine condO_id ?_); refine condO_some ?_) | ((with_reducible refine resP_id ?_); refine resP_one ?_) | ((with_reducible refine callT_to ?_); refine callP_plain ?_))
    | refine wk_seq ?_ | refine wk_region ?_ | refine wk_block ?_ | refine wk_inBlock ?_ | refine wk_skip ?_ | refine wk_draw (by kernel_rfl) (by decide +kernel) ?_ | refine wo_nil ?_ | refine wk_exit ?_ | refine exitK_code ?_ | refine exitK_hit ?_ | refine exitK_miss rfl ?_ | refine exitK_inLoop ?_ | refine wk_cond ?_ | refine wk_ret ?_ | refine wk_nil ?_ | refine wo_dst rfl (opR_call ?_) | refine wo_nodst (opR_call ?_) | refine wo_dst rfl (opR_pick ?_) | refine wo_guard rfl rfl ?_ | refine wo_guardn rfl ?_ | refine wo_dst rfl (opR_pure ?_) | refine wo_nodst (opR_pure ?_)
    | refine give_ret ?_ | refine give_end ?_)
  refine (steps_w A _ _ _ nA.1 hA0 lA dA _ _ iA).mono ?_
  rintro _ h2 ⟨⟨F, W, bo, rfl, hB, hel, hF, hprod⟩, g2⟩; have n2 := g2.1; have k2 := g2.2; try simp only [next_new, next_set] at n2 k2
  have hF96 : F.length ≤ 96 := facs_len hF (show 1 * prodN F = valN A by rw [Nat.one_mul, hprod]) (by omega) (valN_lt16 nA.1 lA)
  have hWF := hel.1
  repeat' (first
    | ((with_reducible first | refine optP_id ?_ | refine condP_id ?_ | refine condO_id ?_ | refine resP_id ?_ | refine callT_of ?_); conv => { arg 1; simp (disch := first | assumption | omega) only [push_cast, ↓reduceIte, reduceIte, Nat.reduceEqDiff, Nat.reduceAdd, Nat.reduceSub, Nat.reduceMul, Nat.reduceBEq, Int.reduceNeg, k1, k2] }; first | ((with_reducible refine optP_id ?_); refine optP_some ?_) | ((with_reducible refine condP_id ?_); first | refine qcy ?_ | refine qcx ?_ | refine qco ?_ | refine condP_decn (fun hc => ?_) (fun hc => ?_) | refine condP_dec (fun hc => ?_) (fun hc => ?_) | refine qct ?_ | refine qcf ?_ | refine condP_bool (fun hc => ?_) (fun hc => ?_)) | ((with_reducible refine condO_id ?_); refine condO_some ?_) | ((with_reducible refine resP_id ?_); refine resP_one ?_) | ((with_reducible refine callT_to ?_); refine callP_plain ?_))
    | refine wk_seq ?_ | refine wk_region ?_ | refine wk_block ?_ | refine wk_inBlock ?_ | refine wk_skip ?_ | refine wk_draw (by kernel_rfl) (by decide +kernel) ?_ | refine wo_nil ?_ | refine wk_exit ?_ | refine exitK_code ?_ | refine exitK_hit ?_ | refine exitK_miss rfl ?_ | refine exitK_inLoop ?_ | refine wk_cond ?_ | refine wk_ret ?_ | refine wk_nil ?_ | refine wo_dst rfl (opR_call ?_) | refine wo_nodst (opR_call ?_) | refine wo_dst rfl (opR_pick ?_) | refine wo_guard rfl rfl ?_ | refine wo_guardn rfl ?_ | refine wo_dst rfl (opR_pure ?_) | refine wo_nodst (opR_pure ?_)
    | refine give_ret ?_ | refine give_end ?_)
  refine (recip_w A nA.1 lA _ _ (SlIn.gr iA (by (repeat (first | exact Gr.refl _ | assumption | (refine Gr.trans ?_ (by assumption)) | refine Gr.set ?_ (by first | exact Nat.le_refl _ | omega | (simp only [next_new, next_set]; omega)) _ | refine Gr.new ?_ _))))).mono ?_
  rintro _ h3 ⟨hX, g3⟩; have n3 := g3.1; have k3 := g3.2; try simp only [next_new, next_set] at n3 k3
  obtain ⟨Y, E, R, wR, nR, lR, pY, eA, hEK, rfl, iR⟩ := rec_reg (K := 12) hX nA.1 hA0 dA (by omega) (by omega) (by omega) (by omega)
  obtain ⟨aR, cR, rfl, _⟩ := id iR
  clear hX
  have hdv : ∀ i, prodN (F.take i) ∣ 60 ^ 12 := fun i => Nat.dvd_trans (prodN_dvd F i) (by rw [hprod]; exact d60)
  have hpp : ∀ i, 0 < prodN (F.take i) := fun i => prodN_pos fun f hf => hF f (List.mem_of_mem_take hf)
  have hfin : ∀ (u w : List Int), nf (prodN (F.take F.length)) u → invOf (prodN (F.take F.length)) w → u = A ∧ w = R := fun u w hu hw => by
    rw [List.take_length, hprod] at hu hw
    exact ⟨nf_uniq (i := 0) (j := 0) hu (nf_self nA.1) rfl, invOf_uniq hw nR eA pA⟩
  clear dA d60 eA nR pY hprod
  repeat' (first
    | ((with_reducible first | refine optP_id ?_ | refine condP_id ?_ | refine condO_id ?_ | refine resP_id ?_ | refine callT_of ?_); conv => { arg 1; simp (disch := first | assumption | omega) only [push_cast, ↓reduceIte, reduceIte, Nat.reduceEqDiff, Nat.reduceAdd, Nat.reduceSub, Nat.reduceMul, Nat.reduceBEq, Int.reduceNeg, k1, k2, k3] }; first | ((with_reducible refine optP_id ?_); refine optP_some ?_) | ((with_reducible refine condP_id ?_); first | refine qcy ?_ | refine qcx ?_ | refine qco ?_ | refine condP_decn (fun hc => ?_) (fun hc => ?_) | refine condP_dec (fun hc => ?_) (fun hc => ?_) | refine qct ?_ | refine qcf ?_ | refine condP_bool (fun hc => ?_) (fun hc => ?_)) | ((with_reducible refine condO_id ?_); refine condO_some ?_) | ((with_reducible refine resP_id ?_); refine resP_one ?_) | ((with_reducible refine callT_to ?_); refine callP_plain ?_))
    | refine wk_seq ?_ | refine wk_region ?_ | refine wk_block ?_ | refine wk_inBlock ?_ | refine wk_skip ?_ | refine wk_draw (by kernel_rfl) (by decide +kernel) ?_ | refine wo_nil ?_ | refine wk_exit ?_ | refine exitK_code ?_ | refine exitK_hit ?_ | refine exitK_miss rfl ?_ | refine exitK_inLoop ?_ | refine wk_cond ?_ | refine wk_ret ?_ | refine wk_nil ?_ | refine wo_dst rfl (opR_call ?_) | refine wo_nodst (opR_call ?_) | refine wo_dst rfl (opR_pick ?_) | refine wo_guard rfl rfl ?_ | refine wo_guardn rfl ?_ | refine wo_dst rfl (opR_pure ?_) | refine wo_nodst (opR_pure ?_)
    | refine give_ret ?_ | refine give_end ?_)
  refine wk_loop (fun n E G => ∃ (i : Nat) (u w : List Int) (au aw : Option Addr) (cu cw : Nat), n = F.length - i ∧ i ≤ F.length ∧ Gr h3 G ∧ nf (prodN (F.take i)) u ∧ invOf (prodN (F.take i)) w ∧ IIn G (.slice au u.length cu) u ∧ IIn G (.slice aw w.length cw) w ∧ E.look 3 top = .slice aA A.length cA ∧ E.look 5 top = .slice (ownB W bo) W.length W.length ∧ E.look 7 top = .slice aR R.length cR ∧ E.look 9 top = .slice au u.length cu ∧ E.look 10 top = .slice aw w.length cw ∧ E.look 11 top = .int .i64 (i : Int)) F.length
    ⟨0, [1], [1], _, _, _, _, rfl, by omega, by (repeat (first | exact Gr.refl _ | assumption | (refine Gr.trans ?_ (by assumption)) | refine Gr.set ?_ (by first | exact Nat.le_refl _ | omega | (simp only [next_new, next_set]; omega)) _ | refine Gr.new ?_ _)), nf_self one_valid, ⟨one_valid, by simp, 0, rfl⟩, onei_in (b := h3.next) (by simp only [next_new]; omega) (by simp (disch := first | assumption | omega) only [push_cast, ↓reduceIte, reduceIte, Nat.reduceEqDiff, Nat.reduceAdd, Nat.reduceSub, Nat.reduceMul, Nat.reduceBEq, Int.reduceNeg]), onei_in (b := h3.next + 1) (by simp only [next_new]; omega) (by simp (disch := first | assumption | omega) only [push_cast, ↓reduceIte, reduceIte, Nat.reduceEqDiff, Nat.reduceAdd, Nat.reduceSub, Nat.reduceMul, Nat.reduceBEq, Int.reduceNeg]), by simp (disch := first | assumption | omega) only [push_cast, ↓reduceIte, reduceIte, Nat.reduceEqDiff, Nat.reduceAdd, Nat.reduceSub, Nat.reduceMul, Nat.reduceBEq, Int.reduceNeg], by simp (disch := first | assumption | omega) only [push_cast, ↓reduceIte, reduceIte, Nat.reduceEqDiff, Nat.reduceAdd, Nat.reduceSub, Nat.reduceMul, Nat.reduceBEq, Int.reduceNeg], by simp (disch := first | assumption | omega) only [push_cast, ↓reduceIte, reduceIte, Nat.reduceEqDiff, Nat.reduceAdd, Nat.reduceSub, Nat.reduceMul, Nat.reduceBEq, Int.reduceNeg], by simp (disch := first | assumption | omega) only [push_cast, ↓reduceIte, reduceIte, Nat.reduceEqDiff, Nat.reduceAdd, Nat.reduceSub, Nat.reduceMul, Nat.reduceBEq, Int.reduceNeg], by simp (disch := first | assumption | omega) only [push_cast, ↓reduceIte, reduceIte, Nat.reduceEqDiff, Nat.reduceAdd, Nat.reduceSub, Nat.reduceMul, Nat.reduceBEq, Int.reduceNeg], by simp (disch := first | assumption | omega) only [push_cast, ↓reduceIte, reduceIte, Nat.reduceEqDiff, Nat.reduceAdd, Nat.reduceSub, Nat.reduceMul, Nat.reduceBEq, Int.reduceNeg, Int.natCast_zero]⟩ ?_
  rintro n E' G ⟨i, u, w, au, aw, cu, cw, rfl, hi, gr, hu, hw, hiu, hiw, y3, y5, y7, y9, y10, y11⟩ next
  have gn := gr.1
  by_cases hlt : i < F.length
  · have hWi : i < W.length := by omega
    have ilt : (i : Int) < (W.length : Int) := by omega
    have hWn : W ≠ [] := fun hh => by rw [hh] at hWi; exact absurd hWi (Nat.not_lt_zero _)
    obtain ⟨b0, b1, b2⟩ := hB hWn
    obtain ⟨A1, B1, a1, b1', c1, d1, hWe, hA1, hB1, hpr, _, _⟩ := hel.2 i hWi hlt
    have hct := flatE_cut encV_len W hWi
    rw [hWe] at hct
    obtain ⟨at0, at1⟩ := at_cut2 _ _ _ _ hct
    have hgG : G.get bo = some (.cells (flatE encV W) 69 true) := by rw [gr.2 _ (by omega), k3 _ (by omega)]; exact b2
    have htk := prodN_take hlt
    have hfm := hF _ (List.getElem_mem hlt)
    rw [ownB_ne hWn] at y5
    generalize flatE encV W = CW at *
    generalize F[i] = f at *
    obtain ⟨f2, f81, _⟩ := fac_reg f hfm
    obtain ⟨r1, r2, r3, r4, r5, r6, r7, _⟩ := id hpr
    have hul : u.length ≤ 13 := nf_len hu (Nat.lt_of_le_of_lt (Nat.le_of_dvd (Nat.pow_pos (by decide)) (hdv i)) ((Nat.pow_lt_pow_iff_right (by decide)).2 (by omega)))
    have hwl : w.length ≤ 13 := (invOf_le hw (hpp i) (hdv i)).2
    have hAB : True → valN A1 * valN B1 < 60 ^ 16 := fun _ => Nat.lt_trans (pair_val hpr).1 ((Nat.pow_lt_pow_iff_right (by decide)).2 (by omega))
    have hum : True → valN u * valN A1 < 60 ^ 16 := fun _ => by
      have e1 : valN u ≤ 60 ^ 12 := Nat.le_trans (Nat.le_of_dvd (hpp i) (nf_dvd hu)) (Nat.le_of_dvd (Nat.pow_pos (by decide)) (hdv i))
      have e2 := Nat.mul_le_mul e1 (show valN A1 ≤ 81 by omega)
      have e3 : 60 ^ 12 * 81 < 60 ^ 16 := by decide
      omega
    have hwm : True → valN w * valN B1 < 60 ^ 16 := fun _ => by
      have e1 := (invOf_le hw (hpp i) (hdv i)).1
      have e2 := (pair_val hpr).2
      have e3 := Nat.mul_le_mul e1 (show valN B1 ≤ 60 ^ 4 - 1 by omega)
      have e4 : 60 ^ 12 * (60 ^ 4 - 1) < 60 ^ 16 := by decide
      omega
    repeat' (first
    | ((with_reducible first | refine optP_id ?_ | refine condP_id ?_ | refine condO_id ?_ | refine resP_id ?_ | refine callT_of ?_); conv => { arg 1; simp (disch := first | assumption | omega) only [push_cast, ↓reduceIte, reduceIte, Nat.reduceEqDiff, Nat.reduceAdd, Nat.reduceSub, Nat.reduceMul, Nat.reduceBEq, Int.reduceNeg, y3, y5, y7, y9, y10, y11, hgG, at0, at1, Nat.zero_add, Nat.add_zero] }; first | ((with_reducible refine optP_id ?_); refine optP_some ?_) | ((with_reducible refine condP_id ?_); first | refine qcy ?_ | refine qcx ?_ | refine qco ?_ | refine condP_decn (fun hc => ?_) (fun hc => ?_) | refine condP_dec (fun hc => ?_) (fun hc => ?_) | refine qct ?_ | refine qcf ?_ | refine condP_bool (fun hc => ?_) (fun hc => ?_)) | ((with_reducible refine condO_id ?_); refine condO_some ?_) | ((with_reducible refine resP_id ?_); refine resP_one ?_) | ((with_reducible refine callT_to ?_); refine callP_plain ?_))
    | refine wk_seq ?_ | refine wk_region ?_ | refine wk_block ?_ | refine wk_inBlock ?_ | refine wk_skip ?_ | refine wk_draw (by kernel_rfl) (by decide +kernel) ?_ | refine wo_nil ?_ | refine wk_exit ?_ | refine exitK_code ?_ | refine exitK_hit ?_ | refine exitK_miss rfl ?_ | refine exitK_inLoop ?_ | refine wk_cond ?_ | refine wk_ret ?_ | refine wk_nil ?_ | refine wo_dst rfl (opR_call ?_) | refine wo_nodst (opR_call ?_) | refine wo_dst rfl (opR_pick ?_) | refine wo_guard rfl rfl ?_ | refine wo_guardn rfl ?_ | refine wo_dst rfl (opR_pure ?_) | refine wo_nodst (opR_pure ?_)
    | refine give_ret ?_ | refine give_end ?_)
    refine (mul_w A1 B1 r1 r5 (by omega) (by omega) _ _ _ (SlIn.gr hA1 (by (repeat (first | exact Gr.refl _ | assumption | (refine Gr.trans ?_ (by assumption)) | refine Gr.set ?_ (by first | exact Nat.le_refl _ | omega | (simp only [next_new, next_set]; omega)) _ | refine Gr.new ?_ _)))) (SlIn.gr hB1 (by (repeat (first | exact Gr.refl _ | assumption | (refine Gr.trans ?_ (by assumption)) | refine Gr.set ?_ (by first | exact Nat.le_refl _ | omega | (simp only [next_new, next_set]; omega)) _ | refine Gr.new ?_ _))))).mono ?_
    rintro _ h4 ⟨hm4, g4⟩; have n4 := g4.1; have k4 := g4.2; try simp only [next_new, next_set] at n4 k4
    obtain ⟨o, ao, co, rfl, hio, hno⟩ := dig_nf hm4 (hAB trivial)
    obtain rfl := pair_one hpr hno
    clear hm4 hno hAB
    repeat' (first
    | ((with_reducible first | refine optP_id ?_ | refine condP_id ?_ | refine condO_id ?_ | refine resP_id ?_ | refine callT_of ?_); conv => { arg 1; simp (disch := first | assumption | omega) only [push_cast, ↓reduceIte, reduceIte, Nat.reduceEqDiff, Nat.reduceAdd, Nat.reduceSub, Nat.reduceMul, Nat.reduceBEq, Int.reduceNeg, y3, y5, y7, y9, y10, y11, hgG, at0, at1, k4, Nat.zero_add, Nat.add_zero] }; first | ((with_reducible refine optP_id ?_); refine optP_some ?_) | ((with_reducible refine condP_id ?_); first | refine qcy ?_ | refine qcx ?_ | refine qco ?_ | refine condP_decn (fun hc => ?_) (fun hc => ?_) | refine condP_dec (fun hc => ?_) (fun hc => ?_) | refine qct ?_ | refine qcf ?_ | refine condP_bool (fun hc => ?_) (fun hc => ?_)) | ((with_reducible refine condO_id ?_); refine condO_some ?_) | ((with_reducible refine resP_id ?_); refine resP_one ?_) | ((with_reducible refine callT_to ?_); refine callP_plain ?_))
    | refine wk_seq ?_ | refine wk_region ?_ | refine wk_block ?_ | refine wk_inBlock ?_ | refine wk_skip ?_ | refine wk_draw (by kernel_rfl) (by decide +kernel) ?_ | refine wo_nil ?_ | refine wk_exit ?_ | refine exitK_code ?_ | refine exitK_hit ?_ | refine exitK_miss rfl ?_ | refine exitK_inLoop ?_ | refine wk_cond ?_ | refine wk_ret ?_ | refine wk_nil ?_ | refine wo_dst rfl (opR_call ?_) | refine wo_nodst (opR_call ?_) | refine wo_dst rfl (opR_pick ?_) | refine wo_guard rfl rfl ?_ | refine wo_guardn rfl ?_ | refine wo_dst rfl (opR_pure ?_) | refine wo_nodst (opR_pure ?_)
    | refine give_ret ?_ | refine give_end ?_)
    refine (whole_w A1 r1 (by omega) _ _ (SlIn.gr hA1 (by (repeat (first | exact Gr.refl _ | assumption | (refine Gr.trans ?_ (by assumption)) | refine Gr.set ?_ (by first | exact Nat.le_refl _ | omega | (simp only [next_new, next_set]; omega)) _ | refine Gr.new ?_ _))))).mono ?_
    rintro _ h5 ⟨rfl, g5⟩; have n5 := g5.1; have k5 := g5.2; try simp only [next_new, next_set] at n5 k5
    rw [r4, if_pos (by omega), if_pos (by omega)]
    repeat' (first
    | ((with_reducible first | refine optP_id ?_ | refine condP_id ?_ | refine condO_id ?_ | refine resP_id ?_ | refine callT_of ?_); conv => { arg 1; simp (disch := first | assumption | omega) only [push_cast, ↓reduceIte, reduceIte, Nat.reduceEqDiff, Nat.reduceAdd, Nat.reduceSub, Nat.reduceMul, Nat.reduceBEq, Int.reduceNeg, y3, y5, y7, y9, y10, y11, hgG, at0, at1, k4, k5, Nat.zero_add, Nat.add_zero] }; first | ((with_reducible refine optP_id ?_); refine optP_some ?_) | ((with_reducible refine condP_id ?_); first | refine qcy ?_ | refine qcx ?_ | refine qco ?_ | refine condP_decn (fun hc => ?_) (fun hc => ?_) | refine condP_dec (fun hc => ?_) (fun hc => ?_) | refine qct ?_ | refine qcf ?_ | refine condP_bool (fun hc => ?_) (fun hc => ?_)) | ((with_reducible refine condO_id ?_); refine condO_some ?_) | ((with_reducible refine resP_id ?_); refine resP_one ?_) | ((with_reducible refine callT_to ?_); refine callP_plain ?_))
    | refine wk_seq ?_ | refine wk_region ?_ | refine wk_block ?_ | refine wk_inBlock ?_ | refine wk_skip ?_ | refine wk_draw (by kernel_rfl) (by decide +kernel) ?_ | refine wo_nil ?_ | refine wk_exit ?_ | refine exitK_code ?_ | refine exitK_hit ?_ | refine exitK_miss rfl ?_ | refine exitK_inLoop ?_ | refine wk_cond ?_ | refine wk_ret ?_ | refine wk_nil ?_ | refine wo_dst rfl (opR_call ?_) | refine wo_nodst (opR_call ?_) | refine wo_dst rfl (opR_pick ?_) | refine wo_guard rfl rfl ?_ | refine wo_guardn rfl ?_ | refine wo_dst rfl (opR_pure ?_) | refine wo_nodst (opR_pure ?_)
    | refine give_ret ?_ | refine give_end ?_)
    refine (is_w 0 [1] [1] _ _ _ (SlIn.gr hio (by (repeat (first | exact Gr.refl _ | assumption | (refine Gr.trans ?_ (by assumption)) | refine Gr.set ?_ (by first | exact Nat.le_refl _ | omega | (simp only [next_new, next_set]; omega)) _ | refine Gr.new ?_ _)))) (onei_in (by simp only [next_new]; omega) (by simp (disch := first | assumption | omega) only [push_cast, ↓reduceIte, reduceIte, Nat.reduceEqDiff, Nat.reduceAdd, Nat.reduceSub, Nat.reduceMul, Nat.reduceBEq, Int.reduceNeg])) (by simp)).mono ?_
    rintro _ _ ⟨rfl, rfl⟩
    rw [decide_eq_true ⟨rfl, rfl⟩]
    have nf2 : ¬ (f : Int) < 2 := by omega
    have nf81 : ¬ (f : Int) > 81 := by omega
    repeat' (first
    | ((with_reducible first | refine optP_id ?_ | refine condP_id ?_ | refine condO_id ?_ | refine resP_id ?_ | refine callT_of ?_); conv => { arg 1; simp (disch := first | assumption | omega) only [push_cast, ↓reduceIte, reduceIte, Nat.reduceEqDiff, Nat.reduceAdd, Nat.reduceSub, Nat.reduceMul, Nat.reduceBEq, Int.reduceNeg, y3, y5, y7, y9, y10, y11, hgG, at0, at1, k4, k5, Nat.zero_add, Nat.add_zero] }; first | ((with_reducible refine optP_id ?_); refine optP_some ?_) | ((with_reducible refine condP_id ?_); first | refine qcy ?_ | refine qcx ?_ | refine qco ?_ | refine condP_decn (fun hc => ?_) (fun hc => ?_) | refine condP_dec (fun hc => ?_) (fun hc => ?_) | refine qct ?_ | refine qcf ?_ | refine condP_bool (fun hc => ?_) (fun hc => ?_)) | ((with_reducible refine condO_id ?_); refine condO_some ?_) | ((with_reducible refine resP_id ?_); refine resP_one ?_) | ((with_reducible refine callT_to ?_); refine callP_plain ?_))
    | refine wk_seq ?_ | refine wk_region ?_ | refine wk_block ?_ | refine wk_inBlock ?_ | refine wk_skip ?_ | refine wk_draw (by kernel_rfl) (by decide +kernel) ?_ | refine wo_nil ?_ | refine wk_exit ?_ | refine exitK_code ?_ | refine exitK_hit ?_ | refine exitK_miss rfl ?_ | refine exitK_inLoop ?_ | refine wk_cond ?_ | refine wk_ret ?_ | refine wk_nil ?_ | refine wo_dst rfl (opR_call ?_) | refine wo_nodst (opR_call ?_) | refine wo_dst rfl (opR_pick ?_) | refine wo_guard rfl rfl ?_ | refine wo_guardn rfl ?_ | refine wo_dst rfl (opR_pure ?_) | refine wo_nodst (opR_pure ?_)
    | refine give_ret ?_ | refine give_end ?_)
    refine (mul_w u A1 hu.1 r1 (by omega) (by omega) _ _ _ (SlIn.gr hiu (by (repeat (first | exact Gr.refl _ | assumption | (refine Gr.trans ?_ (by assumption)) | refine Gr.set ?_ (by first | exact Nat.le_refl _ | omega | (simp only [next_new, next_set]; omega)) _ | refine Gr.new ?_ _)))) (SlIn.gr hA1 (by (repeat (first | exact Gr.refl _ | assumption | (refine Gr.trans ?_ (by assumption)) | refine Gr.set ?_ (by first | exact Nat.le_refl _ | omega | (simp only [next_new, next_set]; omega)) _ | refine Gr.new ?_ _))))).mono ?_
    rintro _ h6 ⟨hm6, g6⟩; have n6 := g6.1; have k6 := g6.2; try simp only [next_new, next_set] at n6 k6
    obtain ⟨u2, au2, cu2, rfl, hiu2, hnu2⟩ := dig_nf hm6 (hum trivial)
    clear hm6 hum
    repeat' (first
    | ((with_reducible first | refine optP_id ?_ | refine condP_id ?_ | refine condO_id ?_ | refine resP_id ?_ | refine callT_of ?_); conv => { arg 1; simp (disch := first | assumption | omega) only [push_cast, ↓reduceIte, reduceIte, Nat.reduceEqDiff, Nat.reduceAdd, Nat.reduceSub, Nat.reduceMul, Nat.reduceBEq, Int.reduceNeg, y3, y5, y7, y9, y10, y11, hgG, at0, at1, k4, k5, k6, Nat.zero_add, Nat.add_zero] }; first | ((with_reducible refine optP_id ?_); refine optP_some ?_) | ((with_reducible refine condP_id ?_); first | refine qcy ?_ | refine qcx ?_ | refine qco ?_ | refine condP_decn (fun hc => ?_) (fun hc => ?_) | refine condP_dec (fun hc => ?_) (fun hc => ?_) | refine qct ?_ | refine qcf ?_ | refine condP_bool (fun hc => ?_) (fun hc => ?_)) | ((with_reducible refine condO_id ?_); refine condO_some ?_) | ((with_reducible refine resP_id ?_); refine resP_one ?_) | ((with_reducible refine callT_to ?_); refine callP_plain ?_))
    | refine wk_seq ?_ | refine wk_region ?_ | refine wk_block ?_ | refine wk_inBlock ?_ | refine wk_skip ?_ | refine wk_draw (by kernel_rfl) (by decide +kernel) ?_ | refine wo_nil ?_ | refine wk_exit ?_ | refine exitK_code ?_ | refine exitK_hit ?_ | refine exitK_miss rfl ?_ | refine exitK_inLoop ?_ | refine wk_cond ?_ | refine wk_ret ?_ | refine wk_nil ?_ | refine wo_dst rfl (opR_call ?_) | refine wo_nodst (opR_call ?_) | refine wo_dst rfl (opR_pick ?_) | refine wo_guard rfl rfl ?_ | refine wo_guardn rfl ?_ | refine wo_dst rfl (opR_pure ?_) | refine wo_nodst (opR_pure ?_)
    | refine give_ret ?_ | refine give_end ?_)
    refine (mul_w w B1 hw.1 r5 (by omega) (by omega) _ _ _ (SlIn.gr hiw (by (repeat (first | exact Gr.refl _ | assumption | (refine Gr.trans ?_ (by assumption)) | refine Gr.set ?_ (by first | exact Nat.le_refl _ | omega | (simp only [next_new, next_set]; omega)) _ | refine Gr.new ?_ _)))) (SlIn.gr hB1 (by (repeat (first | exact Gr.refl _ | assumption | (refine Gr.trans ?_ (by assumption)) | refine Gr.set ?_ (by first | exact Nat.le_refl _ | omega | (simp only [next_new, next_set]; omega)) _ | refine Gr.new ?_ _))))).mono ?_
    rintro _ h7 ⟨hm7, g7⟩; have n7 := g7.1; have k7 := g7.2; try simp only [next_new, next_set] at n7 k7
    obtain ⟨w2, aw2, cw2, rfl, hiw2, hnw2⟩ := dig_nf hm7 (hwm trivial)
    have hw2 := inv_step hw hpr (hpp i) hnw2
    have hu2 := nf_mul (p := f) (by omega) hu (by rw [← r4]; exact hnu2)
    rw [← htk] at hw2 hu2
    clear hm7 hwm hnw2 hnu2
    repeat' (first
    | ((with_reducible first | refine optP_id ?_ | refine condP_id ?_ | refine condO_id ?_ | refine resP_id ?_ | refine callT_of ?_); conv => { arg 1; simp (disch := first | assumption | omega) only [push_cast, ↓reduceIte, reduceIte, Nat.reduceEqDiff, Nat.reduceAdd, Nat.reduceSub, Nat.reduceMul, Nat.reduceBEq, Int.reduceNeg, y3, y5, y7, y9, y10, y11, hgG, at0, at1, k4, k5, k6, k7, Nat.zero_add, Nat.add_zero] }; first | ((with_reducible refine optP_id ?_); refine optP_some ?_) | ((with_reducible refine condP_id ?_); first | refine qcy ?_ | refine qcx ?_ | refine qco ?_ | refine condP_decn (fun hc => ?_) (fun hc => ?_) | refine condP_dec (fun hc => ?_) (fun hc => ?_) | refine qct ?_ | refine qcf ?_ | refine condP_bool (fun hc => ?_) (fun hc => ?_)) | ((with_reducible refine condO_id ?_); refine condO_some ?_) | ((with_reducible refine resP_id ?_); refine resP_one ?_) | ((with_reducible refine callT_to ?_); refine callP_plain ?_))
    | refine wk_seq ?_ | refine wk_region ?_ | refine wk_block ?_ | refine wk_inBlock ?_ | refine wk_skip ?_ | refine wk_draw (by kernel_rfl) (by decide +kernel) ?_ | refine wo_nil ?_ | refine wk_exit ?_ | refine exitK_code ?_ | refine exitK_hit ?_ | refine exitK_miss rfl ?_ | refine exitK_inLoop ?_ | refine wk_cond ?_ | refine wk_ret ?_ | refine wk_nil ?_ | refine wo_dst rfl (opR_call ?_) | refine wo_nodst (opR_call ?_) | refine wo_dst rfl (opR_pick ?_) | refine wo_guard rfl rfl ?_ | refine wo_guardn rfl ?_ | refine wo_dst rfl (opR_pure ?_) | refine wo_nodst (opR_pure ?_)
    | refine give_ret ?_ | refine give_end ?_)
    exact next (F.length - (i + 1)) _ _ (by omega) ⟨i + 1, u2, w2, au2, aw2, cu2, cw2, rfl, by omega, by (repeat (first | exact Gr.refl _ | assumption | (refine Gr.trans ?_ (by assumption)) | refine Gr.set ?_ (by first | exact Nat.le_refl _ | omega | (simp only [next_new, next_set]; omega)) _ | refine Gr.new ?_ _)), hu2, hw2, SlIn.gr hiu2 (by (repeat (first | exact Gr.refl _ | assumption | (refine Gr.trans ?_ (by assumption)) | refine Gr.set ?_ (by first | exact Nat.le_refl _ | omega | (simp only [next_new, next_set]; omega)) _ | refine Gr.new ?_ _))), hiw2, by simp (disch := first | assumption | omega) only [push_cast, ↓reduceIte, reduceIte, Nat.reduceEqDiff, Nat.reduceAdd, Nat.reduceSub, Nat.reduceMul, Nat.reduceBEq, Int.reduceNeg, y3], by rw [ownB_ne hWn]; simp (disch := first | assumption | omega) only [push_cast, ↓reduceIte, reduceIte, Nat.reduceEqDiff, Nat.reduceAdd, Nat.reduceSub, Nat.reduceMul, Nat.reduceBEq, Int.reduceNeg, y5], by simp (disch := first | assumption | omega) only [push_cast, ↓reduceIte, reduceIte, Nat.reduceEqDiff, Nat.reduceAdd, Nat.reduceSub, Nat.reduceMul, Nat.reduceBEq, Int.reduceNeg, y7], by simp (disch := first | assumption | omega) only [push_cast, ↓reduceIte, reduceIte, Nat.reduceEqDiff, Nat.reduceAdd, Nat.reduceSub, Nat.reduceMul, Nat.reduceBEq, Int.reduceNeg], by simp (disch := first | assumption | omega) only [push_cast, ↓reduceIte, reduceIte, Nat.reduceEqDiff, Nat.reduceAdd, Nat.reduceSub, Nat.reduceMul, Nat.reduceBEq, Int.reduceNeg], by simp (disch := first | assumption | omega) only [push_cast, ↓reduceIte, reduceIte, Nat.reduceEqDiff, Nat.reduceAdd, Nat.reduceSub, Nat.reduceMul, Nat.reduceBEq, Int.reduceNeg, Int.natCast_add, Int.natCast_one]⟩
  · obtain rfl : i = F.length := by omega
    have ilt : ¬ ((F.length : Nat) : Int) < (W.length : Int) := by omega
    obtain ⟨rfl, rfl⟩ := hfin u w hu hw
    repeat' (first
    | ((with_reducible first | refine optP_id ?_ | refine condP_id ?_ | refine condO_id ?_ | refine resP_id ?_ | refine callT_of ?_); conv => { arg 1; simp (disch := first | assumption | omega) only [push_cast, ↓reduceIte, reduceIte, Nat.reduceEqDiff, Nat.reduceAdd, Nat.reduceSub, Nat.reduceMul, Nat.reduceBEq, Int.reduceNeg, y3, y5, y7, y9, y10, y11] }; first | ((with_reducible refine optP_id ?_); refine optP_some ?_) | ((with_reducible refine condP_id ?_); first | refine qcy ?_ | refine qcx ?_ | refine qco ?_ | refine condP_decn (fun hc => ?_) (fun hc => ?_) | refine condP_dec (fun hc => ?_) (fun hc => ?_) | refine qct ?_ | refine qcf ?_ | refine condP_bool (fun hc => ?_) (fun hc => ?_)) | ((with_reducible refine condO_id ?_); refine condO_some ?_) | ((with_reducible refine resP_id ?_); refine resP_one ?_) | ((with_reducible refine callT_to ?_); refine callP_plain ?_))
    | refine wk_seq ?_ | refine wk_region ?_ | refine wk_block ?_ | refine wk_inBlock ?_ | refine wk_skip ?_ | refine wk_draw (by kernel_rfl) (by decide +kernel) ?_ | refine wo_nil ?_ | refine wk_exit ?_ | refine exitK_code ?_ | refine exitK_hit ?_ | refine exitK_miss rfl ?_ | refine exitK_inLoop ?_ | refine wk_cond ?_ | refine wk_ret ?_ | refine wk_nil ?_ | refine wo_dst rfl (opR_call ?_) | refine wo_nodst (opR_call ?_) | refine wo_dst rfl (opR_pick ?_) | refine wo_guard rfl rfl ?_ | refine wo_guardn rfl ?_ | refine wo_dst rfl (opR_pure ?_) | refine wo_nodst (opR_pure ?_)
    | refine give_ret ?_ | refine give_end ?_)
    refine (eqints_w u u _ _ _ hiu (SlIn.gr iA (by (repeat (first | exact Gr.refl _ | assumption | (refine Gr.trans ?_ (by assumption)) | refine Gr.set ?_ (by first | exact Nat.le_refl _ | omega | (simp only [next_new, next_set]; omega)) _ | refine Gr.new ?_ _)))) (by omega)).mono ?_
    rintro _ _ ⟨rfl, rfl⟩
    rw [decide_eq_true rfl]
    repeat' (first
    | ((with_reducible first | refine optP_id ?_ | refine condP_id ?_ | refine condO_id ?_ | refine resP_id ?_ | refine callT_of ?_); conv => { arg 1; simp (disch := first | assumption | omega) only [push_cast, ↓reduceIte, reduceIte, Nat.reduceEqDiff, Nat.reduceAdd, Nat.reduceSub, Nat.reduceMul, Nat.reduceBEq, Int.reduceNeg, y3, y5, y7, y9, y10, y11] }; first | ((with_reducible refine optP_id ?_); refine optP_some ?_) | ((with_reducible refine condP_id ?_); first | refine qcy ?_ | refine qcx ?_ | refine qco ?_ | refine condP_decn (fun hc => ?_) (fun hc => ?_) | refine condP_dec (fun hc => ?_) (fun hc => ?_) | refine qct ?_ | refine qcf ?_ | refine condP_bool (fun hc => ?_) (fun hc => ?_)) | ((with_reducible refine condO_id ?_); refine condO_some ?_) | ((with_reducible refine resP_id ?_); refine resP_one ?_) | ((with_reducible refine callT_to ?_); refine callP_plain ?_))
    | refine wk_seq ?_ | refine wk_region ?_ | refine wk_block ?_ | refine wk_inBlock ?_ | refine wk_skip ?_ | refine wk_draw (by kernel_rfl) (by decide +kernel) ?_ | refine wo_nil ?_ | refine wk_exit ?_ | refine exitK_code ?_ | refine exitK_hit ?_ | refine exitK_miss rfl ?_ | refine exitK_inLoop ?_ | refine wk_cond ?_ | refine wk_ret ?_ | refine wk_nil ?_ | refine wo_dst rfl (opR_call ?_) | refine wo_nodst (opR_call ?_) | refine wo_dst rfl (opR_pick ?_) | refine wo_guard rfl rfl ?_ | refine wo_guardn rfl ?_ | refine wo_dst rfl (opR_pure ?_) | refine wo_nodst (opR_pure ?_)
    | refine give_ret ?_ | refine give_end ?_)
    refine (eqints_w w w _ _ _ hiw (SlIn.gr iR (by (repeat (first | exact Gr.refl _ | assumption | (refine Gr.trans ?_ (by assumption)) | refine Gr.set ?_ (by first | exact Nat.le_refl _ | omega | (simp only [next_new, next_set]; omega)) _ | refine Gr.new ?_ _)))) (by omega)).mono ?_
    rintro _ _ ⟨rfl, rfl⟩
    rw [decide_eq_true rfl]
    repeat' (first
    | ((with_reducible first | refine optP_id ?_ | refine condP_id ?_ | refine condO_id ?_ | refine resP_id ?_ | refine callT_of ?_); conv => { arg 1; simp (disch := first | assumption | omega) only [push_cast, ↓reduceIte, reduceIte, Nat.reduceEqDiff, Nat.reduceAdd, Nat.reduceSub, Nat.reduceMul, Nat.reduceBEq, Int.reduceNeg, y3, y5, y7, y9, y10, y11] }; first | ((with_reducible refine optP_id ?_); refine optP_some ?_) | ((with_reducible refine condP_id ?_); first | refine qcy ?_ | refine qcx ?_ | refine qco ?_ | refine condP_decn (fun hc => ?_) (fun hc => ?_) | refine condP_dec (fun hc => ?_) (fun hc => ?_) | refine qct ?_ | refine qcf ?_ | refine condP_bool (fun hc => ?_) (fun hc => ?_)) | ((with_reducible refine condO_id ?_); refine condO_some ?_) | ((with_reducible refine resP_id ?_); refine resP_one ?_) | ((with_reducible refine callT_to ?_); refine callP_plain ?_))
    | refine wk_seq ?_ | refine wk_region ?_ | refine wk_block ?_ | refine wk_inBlock ?_ | refine wk_skip ?_ | refine wk_draw (by kernel_rfl) (by decide +kernel) ?_ | refine wo_nil ?_ | refine wk_exit ?_ | refine exitK_code ?_ | refine exitK_hit ?_ | refine exitK_miss rfl ?_ | refine exitK_inLoop ?_ | refine wk_cond ?_ | refine wk_ret ?_ | refine wk_nil ?_ | refine wo_dst rfl (opR_call ?_) | refine wo_nodst (opR_call ?_) | refine wo_dst rfl (opR_pick ?_) | refine wo_guard rfl rfl ?_ | refine wo_guardn rfl ?_ | refine wo_dst rfl (opR_pure ?_) | refine wo_nodst (opR_pure ?_)
    | (refine wc_known rfl ?_)
    | refine give_ret ?_ | refine give_end ?_)
    rfl
end Go.Proofs.YtelepfablohdmaaGreatDoor
