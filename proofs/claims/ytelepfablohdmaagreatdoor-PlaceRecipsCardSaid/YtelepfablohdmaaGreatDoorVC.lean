/- Contracts: Of, Whole. -/
import Derived.Test.YtelepfablohdmaaGreatDoorVB
set_option linter.unusedSimpArgs false
set_option linter.unusedVariables false
/- Contract: toInt. -/
namespace Go.Proofs.YtelepfablohdmaaGreatDoor
open Go.Ev
theorem dig_up (X j : Nat) : X / 60 ^ j = X / 60 ^ (j + 1) * 60 + X / 60 ^ j % 60 := by
  have : X / 60 ^ (j + 1) = X / 60 ^ j / 60 := by rw [Nat.div_div_eq_div_mul, Nat.pow_succ]
  rw [this]; omega
theorem top_zero {X k : Nat} (hX : X < 60 ^ 146) (hk : digsN X k) : X / 60 ^ k = 0 := by
  have : ∀ n j, j + n = 146 → k ≤ j → X / 60 ^ j = 0 := by
    intro n
    induction n with
    | zero => intro j hj _; rw [show j = 146 by omega]; exact Nat.div_eq_of_lt hX
    | succ n ih =>
      intro j hj hkj
      rw [dig_up, ih (j + 1) (by omega) (by omega), hk.2.1 j hkj (by omega)]
  exact this (146 - k) k (by have := hk.1; omega) (Nat.le_refl _)
/-- the digits of a number up to the most significant one -/
def usL (X k : Nat) : List Int := (numD X).take k
theorem usL_len {X k : Nat} (h : k ≤ 146) : (usL X k).length = k := by rw [usL, List.length_take, numD_len]; omega
theorem usL_get {X k j : Nat} (h : j < (usL X k).length) : (usL X k)[j] = ((X / 60 ^ j % 60 : Nat) : Int) := by
  have h1 : ((numD X).take k)[j]? = some (usL X k)[j] := List.getElem?_eq_getElem (l := usL X k) h
  have hjk : j < k := by rw [usL, List.length_take] at h; omega
  have hj : j < (numD X).length := by rw [usL, List.length_take] at h; omega
  rw [List.getElem?_take, if_pos hjk, List.getElem?_eq_getElem hj, numD_get] at h1
  exact (Option.some.inj h1).symm
theorem usL_in {H : AHeap} {X k b e c : Nat} {rw' : Bool} (hk : k ≤ 146) (hc : k ≤ capLo c) (hb : b < H.next) (hg : H.get b = some (.cells (ints .u8 (numD X)) e rw')) : SlIn encB 1 e H (.slice (some ⟨b, 0, none⟩) k c) (usL X k) := by
  refine ⟨_, c, by rw [usL_len hk], by rw [usL_len hk]; exact hc, fun _ => ⟨b, 0, _, rw', rfl, hb, hg, fun i hi => ?_⟩⟩
  have hi' : i < 146 := by rw [usL_len hk] at hi; omega
  have := num_at X i hi'
  rw [Nat.zero_add, Nat.mul_one, usL_get]
  have hl : i + 1 ≤ (ints .u8 (numD X)).length := by rw [num_len]; omega
  rw [cut_len hl]
  rw [at_eq] at this
  have h2 := List.drop_eq_getElem_cons (l := ints .u8 (numD X)) (i := i) (by omega)
  rw [List.getElem?_eq_getElem (by omega)] at this
  rw [h2, Option.some.inj this]
  rfl
end Go.Proofs.YtelepfablohdmaaGreatDoor
/- Contract: numberFrom. -/
namespace Go.Proofs.YtelepfablohdmaaGreatDoor
open Go.Ev
/-- the whole number that digits stand for -/
def valN : List Int → Nat
  | [] => 0
  | d :: t => d.toNat * 60 ^ t.length + valN t
theorem valN_lt : ∀ {l : List Int}, digs l → valN l < 60 ^ l.length
  | [], _ => by decide
  | d :: t, h => by
    have h1 := h d (.head _)
    have h2 := valN_lt fun x hx => h x (.tail _ hx)
    have h3 : d.toNat + 1 ≤ 60 := by omega
    have h4 := Nat.mul_le_mul_right (60 ^ t.length) h3
    rw [Nat.add_mul, Nat.one_mul] at h4
    rw [List.length_cons, Nat.pow_succ, valN]
    omega
theorem valN_drop {l : List Int} {j : Nat} (h : j < l.length) : valN (l.drop j) = l[j].toNat * 60 ^ (l.length - 1 - j) + valN (l.drop (j + 1)) := by
  rw [List.drop_eq_getElem_cons h, valN, List.length_drop]
  congr 3
  omega
theorem num_put {W p d : Nat} (hW : W < 60 ^ p) (hd : d < 60) : numD (d * 60 ^ p + W) = (numD W).set p (d : Int) := by
  have hp : 0 < 60 ^ p := Nat.pow_pos (by decide)
  have h1 : (d * 60 ^ p + W) % 60 ^ p = W := by rw [Nat.add_comm, Nat.add_mul_mod_self_right, Nat.mod_eq_of_lt hW]
  have h2 : (d * 60 ^ p + W) / 60 ^ p = d := by rw [Nat.add_comm, Nat.add_mul_div_right _ _ hp, Nat.div_eq_of_lt hW, Nat.zero_add]
  have h3 : d * 60 ^ p + W < 60 ^ (p + 1) := by
    have h4 : (d + 1) * 60 ^ p ≤ 60 * 60 ^ p := Nat.mul_le_mul_right _ (by omega)
    rw [Nat.add_mul, Nat.one_mul] at h4
    rw [Nat.pow_succ, Nat.mul_comm (60 ^ p)]
    omega
  have := numD_step (d * 60 ^ p + W) p
  rw [Nat.mod_eq_of_lt h3, h1, h2, Nat.mod_eq_of_lt hd] at this
  exact this
theorem from_step {l : List Int} (hd : digs l) {z j : Nat} (hj : j < l.length) : numD (valN (l.drop j) * 60 ^ z) = (numD (valN (l.drop (j + 1)) * 60 ^ z)).set (z + l.length - 1 - j) l[j] := by
  have hl := hd _ (List.getElem_mem hj)
  have hlt := valN_lt (l := l.drop (j + 1)) (fun x hx => hd x (List.mem_of_mem_drop hx))
  rw [List.length_drop] at hlt
  have e : valN (l.drop j) * 60 ^ z = l[j].toNat * 60 ^ (z + l.length - 1 - j) + valN (l.drop (j + 1)) * 60 ^ z := by
    rw [valN_drop hj, Nat.add_mul, Nat.mul_assoc, ← Nat.pow_add]
    congr 3
    omega
  have hW : valN (l.drop (j + 1)) * 60 ^ z < 60 ^ (z + l.length - 1 - j) := by
    have : z + l.length - 1 - j = (l.length - (j + 1)) + z := by omega
    rw [this, Nat.pow_add]
    exact Nat.mul_lt_mul_of_pos_right hlt (Nat.pow_pos (by decide))
  rw [e, num_put hW (by omega)]
  congr 1
  omega
set_option maxRecDepth 100000 in
set_option maxHeartbeats 8000000 in
theorem numfrom_w (l : List Int) (hd : digs l) (z : Nat) (hz : z + l.length ≤ 146) (v : Value) (h : AHeap) (hv : IIn h v l) :
    Wc pr (.func 61) [v, .int .i64 (z : Int)] h fun r h' => r = numV (valN l * 60 ^ z) ∧ Gr h h' := by
  have hv0 := hv
  obtain ⟨a, c, rfl, hc, hv⟩ := hv
  refine wc_func Tryz.func61 rfl rfl rfl rfl ?_
  generalize hZ : ints .u8 (numD 0) = Z
  have zv : zeroV Tryz.prog 87 = some (.agg Z.toArray) := by rw [← hZ]; exact zv87
  repeat' (first
    | ((with_reducible first | refine optP_id ?_ | refine resP_id ?_ | refine callT_of ?_); conv => { arg 1; simp (disch := first | assumption | omega) only [push_cast, ↓reduceIte, reduceIte, Nat.reduceEqDiff, Nat.reduceAdd, Nat.reduceSub, Nat.reduceMul, Nat.reduceBEq, Int.reduceNeg, zv] }; first | ((with_reducible refine optP_id ?_); refine optP_some ?_) | ((with_reducible refine resP_id ?_); refine resP_one ?_) | ((with_reducible refine callT_to ?_); first | refine callP_plain ?_ | refine callP_yield ?_ | (refine callP_func ?_; conv => { arg 3; simp only [push_cast] })))
    | refine wk_seq ?_ | refine wk_region ?_ | refine wk_block ?_ | refine wk_inBlock ?_ | refine wo_nil ?_ | refine wk_exit ?_ | refine exitK_code ?_ | refine exitK_hit ?_ | refine exitK_miss rfl ?_ | refine exitK_inLoop ?_ | refine wk_ret ?_ | refine wk_nil ?_ | refine wo_dst rfl (opR_call ?_) | refine wo_nodst (opR_call ?_) | refine wo_dst rfl (opR_pure ?_) | refine wo_nodst (opR_pure ?_)
    | refine give_ret ?_ | refine give_end ?_)
  refine (backi_w _ _ _ _).mono ?_
  rintro _ h3 ⟨rfl, n3, q3, g3⟩
  have k3 := g3.2
  simp only [next_new] at n3 q3 k3
  repeat' (first
    | ((with_reducible first | refine optP_id ?_ | refine resP_id ?_ | refine callT_of ?_); conv => { arg 1; simp (disch := first | assumption | omega) only [push_cast, ↓reduceIte, reduceIte, Nat.reduceEqDiff, Nat.reduceAdd, Nat.reduceSub, Nat.reduceMul, Nat.reduceBEq, Int.reduceNeg, k3] }; first | ((with_reducible refine optP_id ?_); refine optP_some ?_) | ((with_reducible refine resP_id ?_); refine resP_one ?_) | ((with_reducible refine callT_to ?_); first | refine callP_plain ?_ | refine callP_yield ?_ | (refine callP_func ?_; conv => { arg 3; simp only [push_cast] })))
    | refine wk_seq ?_ | refine wk_region ?_ | refine wk_block ?_ | refine wk_inBlock ?_ | refine wo_nil ?_ | refine wk_exit ?_ | refine exitK_code ?_ | refine exitK_hit ?_ | refine exitK_miss rfl ?_ | refine exitK_inLoop ?_ | refine wk_ret ?_ | refine wk_nil ?_ | refine wo_dst rfl (opR_call ?_) | refine wo_nodst (opR_call ?_) | refine wo_dst rfl (opR_pure ?_) | refine wo_nodst (opR_pure ?_)
    | refine give_ret ?_ | refine give_end ?_)
  have c0 : h3.get h.next = some (.cells [.slice a l.length c] 22 true) := by rw [k3 _ (by omega)]; simp (disch := first | assumption | omega) only [push_cast, ↓reduceIte, reduceIte, Nat.reduceEqDiff, Nat.reduceAdd, Nat.reduceSub, Nat.reduceMul, Nat.reduceBEq, Int.reduceNeg]
  have c1 : h3.get (h.next + 1) = some (.cells [.int .i64 (z : Int)] 3 true) := by rw [k3 _ (by omega)]; simp (disch := first | assumption | omega) only [push_cast, ↓reduceIte, reduceIte, Nat.reduceEqDiff, Nat.reduceAdd, Nat.reduceSub, Nat.reduceMul, Nat.reduceBEq, Int.reduceNeg]
  have c2 : h3.get (h.next + 1 + 1) = some (.cells Z 87 true) := by rw [k3 _ (by omega)]; simp (disch := first | assumption | omega) only [push_cast, ↓reduceIte, reduceIte, Nat.reduceEqDiff, Nat.reduceAdd, Nat.reduceSub, Nat.reduceMul, Nat.reduceBEq, Int.reduceNeg]
  have c5 : h3.get (h.next + 1 + 1 + 1) = some (.cells Z 87 true) := by rw [k3 _ (by omega)]; simp (disch := first | assumption | omega) only [push_cast, ↓reduceIte, reduceIte, Nat.reduceEqDiff, Nat.reduceAdd, Nat.reduceSub, Nat.reduceMul, Nat.reduceBEq, Int.reduceNeg]
  have gA : Gr h h3 := ⟨by omega, fun b hb => by rw [k3 _ (by omega)]; simp (disch := first | assumption | omega) only [push_cast, ↓reduceIte, reduceIte, Nat.reduceEqDiff, Nat.reduceAdd, Nat.reduceSub, Nat.reduceMul, Nat.reduceBEq, Int.reduceNeg]⟩
  refine wk_rangeL rfl ?_
  intro L H lp nH oH dH lH
  conv => { arg 2; simp (disch := first | assumption | omega) only [push_cast, ↓reduceIte, reduceIte, Nat.reduceEqDiff, Nat.reduceAdd, Nat.reduceSub, Nat.reduceMul, Nat.reduceBEq, Int.reduceNeg] }
  refine callP_func ?_
  conv => { arg 3; simp only [push_cast] }
  refine (iteri_w l (h3.next + 1) (h.next + 1 + 1 + 1 + 1) (.slice a l.length c) H (by omega)
    (fun j H' => H.next ≤ H'.next ∧ (∀ b, b < H.next → b ≠ h3.next + 1 → b ≠ h.next + 1 + 1 + 1 → H'.get b = H.get b) ∧ L H' .ready none ∧ H'.get (h.next + 1 + 1 + 1) = some (.cells (ints .u8 (numD (valN (l.drop j) * 60 ^ z))) 87 true))
    (fun H' => False)
    ⟨Nat.le_refl _, fun _ _ _ _ => rfl, lH, by rw [List.drop_length, valN, Nat.zero_mul, hZ, oH _ (by omega)]; exact c5⟩ ?_ ?_).mono ?_
  · rintro j H' ⟨p1, p2, p3, p4⟩
    refine ⟨by omega, by rw [p2 _ (by omega) (by omega) (by omega), oH _ (by omega)]; exact q3, SlIn.gr hv0 ⟨by omega, fun b hb => ?_⟩⟩
    rw [p2 _ (by omega) (by omega) (by omega), oH _ (by omega), gA.2 b hb]
  · rintro j hj H' ⟨p1, p2, p3, p4⟩
    have hdj := hd _ (List.getElem_mem hj)
    have o1 : over (ints .u8 (numD (valN (l.drop (j + 1)) * 60 ^ z))) (z + l.length - 1 - j) [.int .u8 l[j]] = some (ints .u8 (numD (valN (l.drop j) * 60 ^ z))) := by
      rw [from_step hd hj]; exact ints_over .u8 _ (by rw [numD_len]; omega)
    have ep : (z : Int) + (l.length : Int) - 1 - (j : Int) = ((z + l.length - 1 - j : Nat) : Int) := by omega
    have hP : z + l.length - 1 - j < 146 := by omega
    generalize z + l.length - 1 - j = P at *
    generalize l[j] = d at *
    generalize ints .u8 (numD (valN (l.drop (j + 1)) * 60 ^ z)) = C at *
    generalize hC' : ints .u8 (numD (valN (l.drop j) * 60 ^ z)) = C' at *
    refine lp.yield p3 rfl rfl ?_
    rw [putLs2]
    repeat' (first
    | ((with_reducible first | refine optP_id ?_ | refine resP_id ?_ | refine callT_of ?_); conv => { arg 1; simp (disch := first | assumption | omega) only [push_cast, ↓reduceIte, reduceIte, Nat.reduceEqDiff, Nat.reduceAdd, Nat.reduceSub, Nat.reduceMul, Nat.reduceBEq, Int.reduceNeg] }; first | ((with_reducible refine optP_id ?_); refine optP_some ?_) | ((with_reducible refine resP_id ?_); refine resP_one ?_) | ((with_reducible refine callT_to ?_); first | refine callP_plain ?_ | refine callP_yield ?_ | (refine callP_func ?_; conv => { arg 3; simp only [push_cast] })))
    | refine wk_seq ?_ | refine wk_region ?_ | refine wk_block ?_ | refine wk_inBlock ?_ | refine wo_nil ?_ | refine wk_exit ?_ | refine exitK_code ?_ | refine exitK_hit ?_ | refine exitK_miss rfl ?_ | refine exitK_inLoop ?_ | refine wk_ret ?_ | refine wk_nil ?_ | refine wo_dst rfl (opR_call ?_) | refine wo_nodst (opR_call ?_) | refine wo_dst rfl (opR_pure ?_) | refine wo_nodst (opR_pure ?_)
    | refine give_ret ?_ | refine give_end ?_)
    refine lp.start rfl p3 ?_
    intro H2 m1 m2 m3
    have d0 : H2.get h.next = some (.cells [.slice a l.length c] 22 true) := by rw [m2 _ (by omega), p2 _ (by omega) (by omega) (by omega), oH _ (by omega)]; exact c0
    have d1 : H2.get (h.next + 1) = some (.cells [.int .i64 (z : Int)] 3 true) := by rw [m2 _ (by omega), p2 _ (by omega) (by omega) (by omega), oH _ (by omega)]; exact c1
    have d5 : H2.get (h.next + 1 + 1 + 1) = some (.cells C 87 true) := by rw [m2 _ (by omega)]; exact p4
    repeat' (first
    | ((with_reducible first | refine optP_id ?_ | refine resP_id ?_ | refine callT_of ?_); conv => { arg 1; simp (disch := first | assumption | omega) only [push_cast, ↓reduceIte, reduceIte, Nat.reduceEqDiff, Nat.reduceAdd, Nat.reduceSub, Nat.reduceMul, Nat.reduceBEq, Int.reduceNeg, d0, d1, d5, ep, o1] }; first | ((with_reducible refine optP_id ?_); refine optP_some ?_) | ((with_reducible refine resP_id ?_); refine resP_one ?_) | ((with_reducible refine callT_to ?_); first | refine callP_plain ?_ | refine callP_yield ?_ | (refine callP_func ?_; conv => { arg 3; simp only [push_cast] })))
    | refine wk_seq ?_ | refine wk_region ?_ | refine wk_block ?_ | refine wk_inBlock ?_ | refine wo_nil ?_ | refine wk_exit ?_ | refine exitK_code ?_ | refine exitK_hit ?_ | refine exitK_miss rfl ?_ | refine exitK_inLoop ?_ | refine wk_ret ?_ | refine wk_nil ?_ | refine wo_dst rfl (opR_call ?_) | refine wo_nodst (opR_call ?_) | refine wo_dst rfl (opR_pure ?_) | refine wo_nodst (opR_pure ?_)
    | refine give_ret ?_ | refine give_end ?_)
    refine lp.next (lp.of m3 (by simp (disch := first | assumption | omega) only [push_cast, ↓reduceIte, reduceIte, Nat.reduceEqDiff, Nat.reduceAdd, Nat.reduceSub, Nat.reduceMul, Nat.reduceBEq, Int.reduceNeg])) ?_
    intro H3 t1 t2 t3
    simp only [next_set] at t1
    refine .inl ⟨rfl, by omega, fun b hb n1 n4 => ?_, t3, ?_⟩
    · rw [t2 _ n1]
      simp (disch := first | assumption | omega) only [push_cast, ↓reduceIte, reduceIte, Nat.reduceEqDiff, Nat.reduceAdd, Nat.reduceSub, Nat.reduceMul, Nat.reduceBEq, Int.reduceNeg]
      rw [m2 _ n1, p2 _ hb n1 n4]
    · rw [t2 _ (by omega)]; simp (disch := first | assumption | omega) only [push_cast, ↓reduceIte, reduceIte, Nat.reduceEqDiff, Nat.reduceAdd, Nat.reduceSub, Nat.reduceMul, Nat.reduceBEq, Int.reduceNeg]
  · rintro _ H' (⟨p1, p2, p3, p4⟩ | hF)
    · refine ⟨_, _, by decide, p3, fun H'' t1 t2 => ?_⟩
      rw [todo_none]
      rw [List.drop_zero] at p4
      have e2 : H''.get (h.next + 1 + 1) = some (.cells Z 87 true) := by rw [t2 _ (by omega), p2 _ (by omega) (by omega) (by omega), oH _ (by omega)]; exact c2
      have e5 : H''.get (h.next + 1 + 1 + 1) = some (.cells (ints .u8 (numD (valN l * 60 ^ z))) 87 true) := by rw [t2 _ (by omega)]; exact p4
      have e6 : H''.get h3.next = some (.deferred (some [])) := by rw [t2 _ (by omega), p2 _ (by omega) (by omega) (by omega)]; exact dH
      have gr : Gr h H'' := ⟨by omega, fun b hb => by rw [t2 _ (by omega), p2 _ (by omega) (by omega) (by omega), oH _ (by omega), gA.2 b hb]⟩
      have hcut : takeN 146 (ints .u8 (numD (valN l * 60 ^ z))) = some (ints .u8 (numD (valN l * 60 ^ z))) := num_cut _
      have hov : over0 (ints .u8 (numD (valN l * 60 ^ z))) Z = some (ints .u8 (numD (valN l * 60 ^ z))) := over_all (by rw [← hZ, num_len, num_len])
      have hst := storeK_all (num_ne _) (num_len _) (ints_flat _ _) e2 hov
      rw [num_cells]
      generalize ints .u8 (numD (valN l * 60 ^ z)) = C at *
      repeat' (first
    | ((with_reducible first | refine optP_id ?_ | refine resP_id ?_ | refine callT_of ?_); conv => { arg 1; simp (disch := first | assumption | omega) only [push_cast, ↓reduceIte, reduceIte, Nat.reduceEqDiff, Nat.reduceAdd, Nat.reduceSub, Nat.reduceMul, Nat.reduceBEq, Int.reduceNeg, e2, e5, hcut, hst] }; first | ((with_reducible refine optP_id ?_); refine optP_some ?_) | ((with_reducible refine resP_id ?_); refine resP_one ?_) | ((with_reducible refine callT_to ?_); first | refine callP_plain ?_ | refine callP_yield ?_ | (refine callP_func ?_; conv => { arg 3; simp only [push_cast] })))
    | refine wk_seq ?_ | refine wk_region ?_ | refine wk_block ?_ | refine wk_inBlock ?_ | refine wo_nil ?_ | refine wk_exit ?_ | refine exitK_code ?_ | refine exitK_hit ?_ | refine exitK_miss rfl ?_ | refine exitK_inLoop ?_ | refine wk_ret ?_ | refine wk_nil ?_ | refine wo_dst rfl (opR_call ?_) | refine wo_nodst (opR_call ?_) | refine wo_dst rfl (opR_pure ?_) | refine wo_nodst (opR_pure ?_)
    | refine give_ret ?_ | refine give_end ?_)
      refine give_ret1 (by simp (disch := first | assumption | omega) only [push_cast, ↓reduceIte, reduceIte, Nat.reduceEqDiff, Nat.reduceAdd, Nat.reduceSub, Nat.reduceMul, Nat.reduceBEq, Int.reduceNeg, e6]) ?_
      repeat' (first
    | ((with_reducible first | refine optP_id ?_ | refine resP_id ?_ | refine callT_of ?_); conv => { arg 1; simp (disch := first | assumption | omega) only [push_cast, ↓reduceIte, reduceIte, Nat.reduceEqDiff, Nat.reduceAdd, Nat.reduceSub, Nat.reduceMul, Nat.reduceBEq, Int.reduceNeg, hcut] }; first | ((with_reducible refine optP_id ?_); refine optP_some ?_) | ((with_reducible refine resP_id ?_); refine resP_one ?_) | ((with_reducible refine callT_to ?_); first | refine callP_plain ?_ | refine callP_yield ?_ | (refine callP_func ?_; conv => { arg 3; simp only [push_cast] })))
    | refine wk_seq ?_ | refine wk_region ?_ | refine wk_block ?_ | refine wk_inBlock ?_ | refine wo_nil ?_ | refine wk_exit ?_ | refine exitK_code ?_ | refine exitK_hit ?_ | refine exitK_miss rfl ?_ | refine exitK_inLoop ?_ | refine wk_ret ?_ | refine wk_nil ?_ | refine wo_dst rfl (opR_call ?_) | refine wo_nodst (opR_call ?_) | refine wo_dst rfl (opR_pure ?_) | refine wo_nodst (opR_pure ?_)
    | refine give_ret ?_ | refine give_end ?_)
      exact ⟨rfl, by (repeat (first | exact Gr.refl _ | assumption | (refine Gr.trans ?_ (by assumption)) | refine Gr.set ?_ (by first | exact Nat.le_refl _ | omega | (simp only [next_new, next_set]; omega)) _ | refine Gr.new ?_ _))⟩
    · exact hF.elim
end Go.Proofs.YtelepfablohdmaaGreatDoor
/- The digits of a number, the most significant one first. -/
namespace Go.Proofs.YtelepfablohdmaaGreatDoor
open Go.Ev
theorem valN_snoc (d : Int) : ∀ l : List Int, valN (l ++ [d]) = valN l * 60 + d.toNat
  | [] => by simp [valN]
  | x :: l => by
    rw [List.cons_append, valN, valN_snoc d l, valN, List.length_append, List.length_singleton, Nat.pow_succ, Nat.add_mul, Nat.mul_assoc, Nat.add_assoc]
/-- the digits from j on, reversed -/
def revL (X k j : Nat) : List Int := ((usL X k).drop j).reverse
theorem revL_step {X k j : Nat} (hk : k ≤ 146) (hj : j < k) : revL X k j = revL X k (j + 1) ++ [((X / 60 ^ j % 60 : Nat) : Int)] := by
  have h : j < (usL X k).length := by rw [usL_len hk]; exact hj
  unfold revL
  rw [List.drop_eq_getElem_cons h, List.reverse_cons, usL_get]
theorem revL_top {X k : Nat} (hk : k ≤ 146) : revL X k k = [] := by
  unfold revL
  rw [List.drop_of_length_le (by rw [usL_len hk]; exact Nat.le_refl _)]; rfl
theorem revL_len {X k j : Nat} (hk : k ≤ 146) : (revL X k j).length = k - j := by
  unfold revL
  rw [List.length_reverse, List.length_drop, usL_len hk]
theorem revL_val {X k : Nat} (hX : X < 60 ^ 146) (hk : digsN X k) : ∀ n j, j + n = k → valN (revL X k j) = X / 60 ^ j
  | 0, j, h => by
    have : j = k := by omega
    subst this
    rw [revL_top hk.1, top_zero hX hk]; rfl
  | n + 1, j, h => by
    rw [revL_step hk.1 (by omega), valN_snoc, revL_val hX hk n (j + 1) (by omega), Int.toNat_natCast]
    exact (dig_up X j).symm
theorem revL_digs {X k j : Nat} (hk : k ≤ 146) : digs (revL X k j) := by
  intro x hx
  unfold revL at hx
  have hx := List.mem_of_mem_drop (List.mem_reverse.1 hx)
  obtain ⟨i, hi, rfl⟩ := List.getElem_of_mem hx
  rw [usL_get]
  have : X / 60 ^ i % 60 < 60 := Nat.mod_lt _ (by decide)
  omega
theorem low_zero {X : Nat} : ∀ e, (∀ i, i < e → X / 60 ^ i % 60 = 0) → X / 60 ^ e * 60 ^ e = X
  | 0, _ => by simp
  | e + 1, h => by
    have h1 := low_zero e fun i hi => h i (by omega)
    have h2 := dig_up X e
    rw [h e (by omega), Nat.add_zero] at h2
    generalize X / 60 ^ (e + 1) = Q at *
    rw [Nat.pow_succ, Nat.mul_comm (60 ^ e), ← Nat.mul_assoc, ← h2, h1]
theorem revL_valid {X k e : Nat} (hk : digsN X k) (he : e < k) (h0 : X / 60 ^ e % 60 ≠ 0) : valid (revL X k e) := by
  refine ⟨revL_digs hk.1, ?_, fun _ => ?_⟩
  · have h1 : (revL X k e)[0]? = some ((X / 60 ^ (k - 1) % 60 : Nat) : Int) := by
      unfold revL
      rw [List.getElem?_reverse (by rw [List.length_drop, usL_len hk.1]; omega), List.length_drop, usL_len hk.1, List.getElem?_drop]
      have : e + (k - e - 1 - 0) = k - 1 := by omega
      rw [this, List.getElem?_eq_getElem (by rw [usL_len hk.1]; omega), usL_get]
    rw [h1]
    intro hh
    have := Option.some.inj hh
    rcases hk.2.2 with h | h
    · omega
    · omega
  · rw [revL_step hk.1 he]
    have : (revL X k (e + 1) ++ [((X / 60 ^ e % 60 : Nat) : Int)]).length - 1 = (revL X k (e + 1)).length := by simp
    rw [this, List.getElem?_append_right (Nat.le_refl _), Nat.sub_self]
    intro hh
    have := Option.some.inj hh
    omega
end Go.Proofs.YtelepfablohdmaaGreatDoor
/- Contract: place. -/
namespace Go.Proofs.YtelepfablohdmaaGreatDoor
open Go.Ev
theorem sl133 (h : AHeap) (x : Value) (lo hi mx : Option Value) : sliceOp Tryz.prog h 133 x lo hi mx = sliceSl h 5 1 x lo hi mx := by kernel_rfl
theorem slB_one (h : AHeap) {b i n m : Nat} (hn : 2 ≤ n) (hm : n ≤ m) : sliceSl h 5 1 (.slice (some ⟨b, i, none⟩) n (EX + m)) (some (.int .i64 1)) none none = some (.slice (some ⟨b, i + 1, none⟩) (n - 1) (EX + (m - 1)), h) := by
  have hb := bounds_from (c := m) (n := n) (k := 1) (by omega) hm
  have hb' : boundsOf (capLo (EX + m)) n (some (.int .i64 1)) none none = some (1, n, m) := by rw [capLo_ex m]; exact hb
  have e1 : Nat.beq n 1 = false := by
    cases hb : Nat.beq n 1 with
    | false => rfl
    | true => have := Nat.eq_of_beq_eq_true hb; omega
  unfold sliceSl
  dsimp only
  rw [hb']
  dsimp only
  rw [e1, show isEx (EX + m) = true from isEx_ex m]
  rfl
theorem usD_in {H : AHeap} {X k i b e c : Nat} {rw' : Bool} (hk : k ≤ 146) (hi : i ≤ k) (hc : k - i ≤ capLo c) (hb : b < H.next) (hg : H.get b = some (.cells (ints .u8 (numD X)) e rw')) : SlIn encB 1 e H (.slice (some ⟨b, i, none⟩) (k - i) c) ((usL X k).drop i) := by
  have hl : ((usL X k).drop i).length = k - i := by rw [List.length_drop, usL_len hk]
  refine ⟨_, c, by rw [hl], by rw [hl]; exact hc, fun _ => ⟨b, i, _, rw', rfl, hb, hg, fun j hj => ?_⟩⟩
  rw [hl] at hj
  obtain ⟨a0, c0, ha0, _, hv⟩ := usL_in (c := 146) (rw' := rw') hk (by rw [(capLo_small (c := 146) (by decide)).1]; exact hk) hb hg
  obtain ⟨ha, _, _⟩ := Value.slice.inj ha0
  subst ha
  obtain ⟨b', off', all, rw2, q1, q2, q3, q4⟩ := hv (fun h => by have := congrArg List.length h; rw [usL_len hk] at this; simp at this; omega)
  cases q1
  rw [hg] at q3
  cases q3
  have := q4 (i + j) (by rw [usL_len hk]; omega)
  rw [List.getElem_drop]
  rw [Nat.zero_add, Nat.mul_one] at this
  rw [Nat.mul_one]
  exact this
theorem dig_some {X k : Nat} (hX : X < 60 ^ 146) (hk : digsN X k) (h0 : X ≠ 0) : 0 < k := by
  rcases Nat.eq_zero_or_pos k with h | h
  · subst h
    have := top_zero hX hk
    simp at this
    exact absurd this h0
  · exact h
/-- what place returns -/
def placeR (X : Nat) (s : Int) (r : Value) (h' : AHeap) : Prop :=
  (X = 0 ∧ r = .tuple #[.agg #[.slice none 0 0, .int .i64 0], .int .i64 0]) ∨
  (X ≠ 0 ∧ ∃ l e v, valid l ∧ l ≠ [] ∧ valN l * 60 ^ e = X ∧ l.length + e ≤ 146 ∧ ((placeE l (s + e) = 0 ∧ r = .tuple #[.agg #[v, .int .i64 (s + e)], .int .i64 0] ∧ IIn h' v l) ∨ (placeE l (s + e) ≠ 0 ∧ r = .tuple #[.agg #[.slice none 0 0, .int .i64 0], .int .i64 3])))
def freP (lo : Nat) (r : Value) : Prop := ∀ a n c s e, r = .tuple #[.agg #[.slice (some a) n c, s], e] → lo ≤ a.block
def freQ (lo : Nat) (v : Value) : Prop := ∀ a n c, v = .slice (some a) n c → lo ≤ a.block
def freR (lo : Nat) (r : Value) : Prop := ∀ a n c e, r = .tuple #[.slice (some a) n c, e] → lo ≤ a.block
set_option maxRecDepth 100000 in
set_option maxHeartbeats 8000000 in
theorem place2_w (X : Nat) (hX : X < 60 ^ 146) (s : Int) (hs1 : -100000 ≤ s) (hs2 : s ≤ 100000) (h : AHeap) :
    Wc pr (.func 85) [numV X, .int .i64 s] h fun r h' => (placeR X s r h' ∧ freP h.next r) ∧ Gr h h' := by
  have wu := fun H => used_w X H
  rw [num_cells] at wu ⊢
  have hcut : takeN 146 (ints .u8 (numD X)) = some (ints .u8 (numD X)) := num_cut X
  have hf := ints_flat .u8 (numD X)
  have hat := num_at X
  refine wc_func Tryz.func85 rfl rfl rfl rfl ?_
  generalize hC : ints .u8 (numD X) = C at *
  repeat' (first
    | ((with_reducible first | refine optP_id ?_ | refine condP_id ?_ | refine resP_id ?_ | refine callT_of ?_); conv => { arg 1; simp (disch := first | assumption | omega) only [push_cast, ↓reduceIte, reduceIte, Nat.reduceEqDiff, Nat.reduceAdd, Nat.reduceSub, Nat.reduceMul, Nat.reduceBEq, Int.reduceNeg, hf, hcut] }; first | ((with_reducible refine optP_id ?_); refine optP_some ?_) | ((with_reducible refine condP_id ?_); first | refine qcy ?_ | refine qcx ?_ | refine qco ?_ | refine condP_decn (fun hc => ?_) (fun hc => ?_) | refine condP_dec (fun hc => ?_) (fun hc => ?_) | refine qct ?_ | refine qcf ?_ | refine condP_bool (fun hc => ?_) (fun hc => ?_)) | ((with_reducible refine resP_id ?_); refine resP_two ?_) | ((with_reducible refine callT_to ?_); first | refine callP_plain ?_ | refine callP_yield ?_ | (refine callP_func ?_; conv => { arg 3; simp only [push_cast] })))
    | refine wk_seq ?_ | refine wk_region ?_ | refine wk_block ?_ | refine wk_inBlock ?_ | refine wk_skip ?_ | refine wo_nil ?_ | refine wk_exit ?_ | refine exitK_code ?_ | refine exitK_hit ?_ | refine exitK_miss rfl ?_ | refine exitK_inLoop ?_ | refine wk_cond ?_ | refine wk_ret ?_ | refine wk_nil ?_ | refine wo_dst rfl (opR_call ?_) | refine wo_nodst (opR_call ?_) | refine wo_dst rfl (opR_pure ?_) | refine wo_nodst (opR_pure ?_)
    | refine give_ret ?_ | refine give_end ?_)
  refine (wu _).mono ?_
  rintro _ h2 ⟨⟨b, k, rfl, hk, hgb, b1, b2⟩, g2⟩; have n2 := g2.1; have k2 := g2.2; try simp only [next_new, next_set] at n2 k2
  simp only [next_new, next_set] at b1
  by_cases h0 : X = 0
  · have hk0 : k = 0 := by
      apply Classical.byContradiction
      intro hk0
      rcases hk.2.2 with h | h
      · exact hk0 h
      · subst h0; simp at h
    subst hk0
    have z0 : ((0 : Nat) : Int) = 0 := rfl
    repeat' (first
    | ((with_reducible first | refine optP_id ?_ | refine condP_id ?_ | refine resP_id ?_ | refine callT_of ?_); conv => { arg 1; simp (disch := first | assumption | omega) only [push_cast, ↓reduceIte, reduceIte, Nat.reduceEqDiff, Nat.reduceAdd, Nat.reduceSub, Nat.reduceMul, Nat.reduceBEq, Int.reduceNeg, k2, z0] }; first | ((with_reducible refine optP_id ?_); refine optP_some ?_) | ((with_reducible refine condP_id ?_); first | refine qcy ?_ | refine qcx ?_ | refine qco ?_ | refine condP_decn (fun hc => ?_) (fun hc => ?_) | refine condP_dec (fun hc => ?_) (fun hc => ?_) | refine qct ?_ | refine qcf ?_ | refine condP_bool (fun hc => ?_) (fun hc => ?_)) | ((with_reducible refine resP_id ?_); refine resP_two ?_) | ((with_reducible refine callT_to ?_); first | refine callP_plain ?_ | refine callP_yield ?_ | (refine callP_func ?_; conv => { arg 3; simp only [push_cast] })))
    | refine wk_seq ?_ | refine wk_region ?_ | refine wk_block ?_ | refine wk_inBlock ?_ | refine wk_skip ?_ | refine wo_nil ?_ | refine wk_exit ?_ | refine exitK_code ?_ | refine exitK_hit ?_ | refine exitK_miss rfl ?_ | refine exitK_inLoop ?_ | refine wk_cond ?_ | refine wk_ret ?_ | refine wk_nil ?_ | refine wo_dst rfl (opR_call ?_) | refine wo_nodst (opR_call ?_) | refine wo_dst rfl (opR_pure ?_) | refine wo_nodst (opR_pure ?_)
    | refine give_ret ?_ | refine give_end ?_)
    exact ⟨⟨.inl ⟨h0, rfl⟩, fun _ _ _ _ _ hh => by cases hh⟩, by (repeat (first | exact Gr.refl _ | assumption | (refine Gr.trans ?_ (by assumption)) | refine Gr.set ?_ (by first | exact Nat.le_refl _ | omega | (simp only [next_new, next_set]; omega)) _ | refine Gr.new ?_ _))⟩
  · have hkp := dig_some hX hk h0
    have hk146 := hk.1
    have n0 : ¬ (k : Int) = 0 := by omega
    repeat' (first
    | ((with_reducible first | refine optP_id ?_ | refine condP_id ?_ | refine resP_id ?_ | refine callT_of ?_); conv => { arg 1; simp (disch := first | assumption | omega) only [push_cast, ↓reduceIte, reduceIte, Nat.reduceEqDiff, Nat.reduceAdd, Nat.reduceSub, Nat.reduceMul, Nat.reduceBEq, Int.reduceNeg, k2] }; first | ((with_reducible refine optP_id ?_); refine optP_some ?_) | ((with_reducible refine condP_id ?_); first | refine qcy ?_ | refine qcx ?_ | refine qco ?_ | refine condP_decn (fun hc => ?_) (fun hc => ?_) | refine condP_dec (fun hc => ?_) (fun hc => ?_) | refine qct ?_ | refine qcf ?_ | refine condP_bool (fun hc => ?_) (fun hc => ?_)) | ((with_reducible refine resP_id ?_); refine resP_two ?_) | ((with_reducible refine callT_to ?_); first | refine callP_plain ?_ | refine callP_yield ?_ | (refine callP_func ?_; conv => { arg 3; simp only [push_cast] })))
    | refine wk_seq ?_ | refine wk_region ?_ | refine wk_block ?_ | refine wk_inBlock ?_ | refine wk_skip ?_ | refine wo_nil ?_ | refine wk_exit ?_ | refine exitK_code ?_ | refine exitK_hit ?_ | refine exitK_miss rfl ?_ | refine exitK_inLoop ?_ | refine wk_cond ?_ | refine wk_ret ?_ | refine wk_nil ?_ | refine wo_dst rfl (opR_call ?_) | refine wo_nodst (opR_call ?_) | refine wo_dst rfl (opR_pure ?_) | refine wo_nodst (opR_pure ?_)
    | refine give_ret ?_ | refine give_end ?_)
    refine wk_loop (fun n E H => ∃ i : Nat, n = k - i ∧ i < k ∧ (∀ j, j < i → X / 60 ^ j % 60 = 0) ∧ H.next = h2.next + 1 ∧ Gr h2 H ∧ H.get h2.next = some (.cells [.slice none 0 0, .int .i64 (s + (i : Int))] 41 true) ∧ E.look 6 top = .slice (some ⟨b, i, none⟩) (k - i) (EX + (146 - i)) ∧ E.look 4 top = .pointer (some ⟨h.next + 1, 0, none⟩) ∧ E.look 7 top = .pointer (some ⟨h2.next, 0, none⟩)) k
      ⟨0, by omega, by omega, fun j hj => absurd hj (Nat.not_lt_zero j), by simp only [next_new, next_set], by (repeat (first | exact Gr.refl _ | assumption | (refine Gr.trans ?_ (by assumption)) | refine Gr.set ?_ (by first | exact Nat.le_refl _ | omega | (simp only [next_new, next_set]; omega)) _ | refine Gr.new ?_ _)), by simp (disch := first | assumption | omega) only [push_cast, ↓reduceIte, reduceIte, Nat.reduceEqDiff, Nat.reduceAdd, Nat.reduceSub, Nat.reduceMul, Nat.reduceBEq, Int.reduceNeg, Int.natCast_zero, Int.add_zero], by simp (disch := first | assumption | omega) only [push_cast, ↓reduceIte, reduceIte, Nat.reduceEqDiff, Nat.reduceAdd, Nat.reduceSub, Nat.reduceMul, Nat.reduceBEq, Int.reduceNeg, Nat.sub_zero], by simp (disch := first | assumption | omega) only [push_cast, ↓reduceIte, reduceIte, Nat.reduceEqDiff, Nat.reduceAdd, Nat.reduceSub, Nat.reduceMul, Nat.reduceBEq, Int.reduceNeg], by simp (disch := first | assumption | omega) only [push_cast, ↓reduceIte, reduceIte, Nat.reduceEqDiff, Nat.reduceAdd, Nat.reduceSub, Nat.reduceMul, Nat.reduceBEq, Int.reduceNeg]⟩ ?_
    rintro n E H ⟨i, rfl, hi, hlow, hn, gr, hg7, e6, e4, e7⟩ next
    have hgbH : H.get b = some (.cells C 87 true) := by rw [gr.2 b b2]; exact hgb
    have a1 := hat i (by omega)
    have ip : 0 < k - i := by omega
    by_cases hz : X / 60 ^ i % 60 = 0
    · have hi2 : i + 1 < k := by
        rcases hk.2.2 with q | q
        · omega
        · apply Classical.byContradiction
          intro hh
          have : i = k - 1 := by omega
          subst this
          exact q hz
      rw [hz] at a1
      repeat' (first
    | ((with_reducible first | refine optP_id ?_ | refine condP_id ?_ | refine resP_id ?_ | refine callT_of ?_); conv => { arg 1; simp (disch := first | assumption | omega) only [push_cast, ↓reduceIte, reduceIte, Nat.reduceEqDiff, Nat.reduceAdd, Nat.reduceSub, Nat.reduceMul, Nat.reduceBEq, Int.reduceNeg, e6, e4, e7, hgbH, a1, hg7] }; first | ((with_reducible refine optP_id ?_); refine optP_some ?_) | ((with_reducible refine condP_id ?_); first | refine qcy ?_ | refine qcx ?_ | refine qco ?_ | refine condP_decn (fun hc => ?_) (fun hc => ?_) | refine condP_dec (fun hc => ?_) (fun hc => ?_) | refine qct ?_ | refine qcf ?_ | refine condP_bool (fun hc => ?_) (fun hc => ?_)) | ((with_reducible refine resP_id ?_); refine resP_two ?_) | ((with_reducible refine callT_to ?_); first | refine callP_plain ?_ | refine callP_yield ?_ | (refine callP_func ?_; conv => { arg 3; simp only [push_cast] })))
    | refine wk_seq ?_ | refine wk_region ?_ | refine wk_block ?_ | refine wk_inBlock ?_ | refine wk_skip ?_ | refine wo_nil ?_ | refine wk_exit ?_ | refine exitK_code ?_ | refine exitK_hit ?_ | refine exitK_miss rfl ?_ | refine exitK_inLoop ?_ | refine wk_cond ?_ | refine wk_ret ?_ | refine wk_nil ?_ | refine wo_dst rfl (opR_call ?_) | refine wo_nodst (opR_call ?_) | refine wo_dst rfl (opR_pure ?_) | refine wo_nodst (opR_pure ?_)
    | refine give_ret ?_ | refine give_end ?_)
      conv => { arg 1; simp (disch := first | assumption | omega) only [push_cast, ↓reduceIte, reduceIte, Nat.reduceEqDiff, Nat.reduceAdd, Nat.reduceSub, Nat.reduceMul, Nat.reduceBEq, Int.reduceNeg, sl133] }
      rw [slB_one H (by omega) (by omega)]
      refine optP_some ?_
      repeat' (first
    | ((with_reducible first | refine optP_id ?_ | refine condP_id ?_ | refine resP_id ?_ | refine callT_of ?_); conv => { arg 1; simp (disch := first | assumption | omega) only [push_cast, ↓reduceIte, reduceIte, Nat.reduceEqDiff, Nat.reduceAdd, Nat.reduceSub, Nat.reduceMul, Nat.reduceBEq, Int.reduceNeg, e6, e4, e7, hgbH, a1, hg7] }; first | ((with_reducible refine optP_id ?_); refine optP_some ?_) | ((with_reducible refine condP_id ?_); first | refine qcy ?_ | refine qcx ?_ | refine qco ?_ | refine condP_decn (fun hc => ?_) (fun hc => ?_) | refine condP_dec (fun hc => ?_) (fun hc => ?_) | refine qct ?_ | refine qcf ?_ | refine condP_bool (fun hc => ?_) (fun hc => ?_)) | ((with_reducible refine resP_id ?_); refine resP_two ?_) | ((with_reducible refine callT_to ?_); first | refine callP_plain ?_ | refine callP_yield ?_ | (refine callP_func ?_; conv => { arg 3; simp only [push_cast] })))
    | refine wk_seq ?_ | refine wk_region ?_ | refine wk_block ?_ | refine wk_inBlock ?_ | refine wk_skip ?_ | refine wo_nil ?_ | refine wk_exit ?_ | refine exitK_code ?_ | refine exitK_hit ?_ | refine exitK_miss rfl ?_ | refine exitK_inLoop ?_ | refine wk_cond ?_ | refine wk_ret ?_ | refine wk_nil ?_ | refine wo_dst rfl (opR_call ?_) | refine wo_nodst (opR_call ?_) | refine wo_dst rfl (opR_pure ?_) | refine wo_nodst (opR_pure ?_)
    | refine give_ret ?_ | refine give_end ?_)
      refine next (k - (i + 1)) _ _ (by omega) ⟨i + 1, rfl, hi2, fun j hj => ?_, by rw [next_set]; exact hn, by (repeat (first | exact Gr.refl _ | assumption | (refine Gr.trans ?_ (by assumption)) | refine Gr.set ?_ (by first | exact Nat.le_refl _ | omega | (simp only [next_new, next_set]; omega)) _ | refine Gr.new ?_ _)), ?_, ?_, by simp (disch := first | assumption | omega) only [push_cast, ↓reduceIte, reduceIte, Nat.reduceEqDiff, Nat.reduceAdd, Nat.reduceSub, Nat.reduceMul, Nat.reduceBEq, Int.reduceNeg, e4], by simp (disch := first | assumption | omega) only [push_cast, ↓reduceIte, reduceIte, Nat.reduceEqDiff, Nat.reduceAdd, Nat.reduceSub, Nat.reduceMul, Nat.reduceBEq, Int.reduceNeg, e7]⟩
      · by_cases hj2 : j = i
        · subst hj2; exact hz
        · exact hlow j (by omega)
      · rw [show s + ((i + 1 : Nat) : Int) = s + (i : Int) + 1 by omega]; simp (disch := first | assumption | omega) only [push_cast, ↓reduceIte, reduceIte, Nat.reduceEqDiff, Nat.reduceAdd, Nat.reduceSub, Nat.reduceMul, Nat.reduceBEq, Int.reduceNeg]
      · rw [show k - (i + 1) = k - i - 1 by omega, show 146 - (i + 1) = 146 - i - 1 by omega]; simp (disch := first | assumption | omega) only [push_cast, ↓reduceIte, reduceIte, Nat.reduceEqDiff, Nat.reduceAdd, Nat.reduceSub, Nat.reduceMul, Nat.reduceBEq, Int.reduceNeg]
    · have hzi : ¬ ((X / 60 ^ i % 60 : Nat) : Int) = 0 := by omega
      have hval := revL_valid hk hi hz
      have hxe := low_zero i hlow
      have hrv := revL_val hX hk (k - i) i (by omega)
      generalize hdg : ((X / 60 ^ i % 60 : Nat) : Int) = dg at a1 hzi
      repeat' (first
    | ((with_reducible first | refine optP_id ?_ | refine condP_id ?_ | refine resP_id ?_ | refine callT_of ?_); conv => { arg 1; simp (disch := first | assumption | omega) only [push_cast, ↓reduceIte, reduceIte, Nat.reduceEqDiff, Nat.reduceAdd, Nat.reduceSub, Nat.reduceMul, Nat.reduceBEq, Int.reduceNeg, e6, e4, e7, hgbH, a1, hg7] }; first | ((with_reducible refine optP_id ?_); refine optP_some ?_) | ((with_reducible refine condP_id ?_); first | refine qcy ?_ | refine qcx ?_ | refine qco ?_ | refine condP_decn (fun hc => ?_) (fun hc => ?_) | refine condP_dec (fun hc => ?_) (fun hc => ?_) | refine qct ?_ | refine qcf ?_ | refine condP_bool (fun hc => ?_) (fun hc => ?_)) | ((with_reducible refine resP_id ?_); refine resP_two ?_) | ((with_reducible refine callT_to ?_); first | refine callP_plain ?_ | refine callP_yield ?_ | (refine callP_func ?_; conv => { arg 3; simp only [push_cast] })))
    | refine wk_seq ?_ | refine wk_region ?_ | refine wk_block ?_ | refine wk_inBlock ?_ | refine wk_skip ?_ | refine wo_nil ?_ | refine wk_exit ?_ | refine exitK_code ?_ | refine exitK_hit ?_ | refine exitK_miss rfl ?_ | refine exitK_inLoop ?_ | refine wk_cond ?_ | refine wk_ret ?_ | refine wk_nil ?_ | refine wo_dst rfl (opR_call ?_) | refine wo_nodst (opR_call ?_) | refine wo_dst rfl (opR_pure ?_) | refine wo_nodst (opR_pure ?_)
    | refine give_ret ?_ | refine give_end ?_)
      refine (back8_w _ _ _ _).mono ?_
      rintro _ h3 ⟨rfl, n3, q3, g3⟩
      have k3 := g3.2
      repeat' (first
    | ((with_reducible first | refine optP_id ?_ | refine condP_id ?_ | refine resP_id ?_ | refine callT_of ?_); conv => { arg 1; simp (disch := first | assumption | omega) only [push_cast, ↓reduceIte, reduceIte, Nat.reduceEqDiff, Nat.reduceAdd, Nat.reduceSub, Nat.reduceMul, Nat.reduceBEq, Int.reduceNeg, e6, e4, e7] }; first | ((with_reducible refine optP_id ?_); refine optP_some ?_) | ((with_reducible refine condP_id ?_); first | refine qcy ?_ | refine qcx ?_ | refine qco ?_ | refine condP_decn (fun hc => ?_) (fun hc => ?_) | refine condP_dec (fun hc => ?_) (fun hc => ?_) | refine qct ?_ | refine qcf ?_ | refine condP_bool (fun hc => ?_) (fun hc => ?_)) | ((with_reducible refine resP_id ?_); refine resP_two ?_) | ((with_reducible refine callT_to ?_); first | refine callP_plain ?_ | refine callP_yield ?_ | (refine callP_func ?_; conv => { arg 3; simp only [push_cast] })))
    | refine wk_seq ?_ | refine wk_region ?_ | refine wk_block ?_ | refine wk_inBlock ?_ | refine wk_skip ?_ | refine wo_nil ?_ | refine wk_exit ?_ | refine exitK_code ?_ | refine exitK_hit ?_ | refine exitK_miss rfl ?_ | refine exitK_inLoop ?_ | refine wk_cond ?_ | refine wk_ret ?_ | refine wk_nil ?_ | refine wo_dst rfl (opR_call ?_) | refine wo_nodst (opR_call ?_) | refine wo_dst rfl (opR_pure ?_) | refine wo_nodst (opR_pure ?_)
    | refine give_ret ?_ | refine give_end ?_)
      have c1 : h3.get (h.next + 1) = some (.cells [.slice none 0 0, .int .i64 0] 41 true) := by rw [k3 _ (by omega), gr.2 _ (by omega), k2 _ (by omega)]; simp (disch := first | assumption | omega) only [push_cast, ↓reduceIte, reduceIte, Nat.reduceEqDiff, Nat.reduceAdd, Nat.reduceSub, Nat.reduceMul, Nat.reduceBEq, Int.reduceNeg]
      have c7 : h3.get h2.next = some (.cells [.slice none 0 0, .int .i64 (s + (i : Int))] 41 true) := by rw [k3 _ (by omega)]; exact hg7
      have gA : Gr h h3 := ⟨by omega, fun b hb => by rw [k3 _ (by omega), gr.2 _ (by omega), k2 _ (by omega)]; simp (disch := first | assumption | omega) only [push_cast, ↓reduceIte, reduceIte, Nat.reduceEqDiff, Nat.reduceAdd, Nat.reduceSub, Nat.reduceMul, Nat.reduceBEq, Int.reduceNeg]⟩
      have hb3 : h3.get b = some (.cells C 87 true) := by rw [k3 _ (by omega)]; exact hgbH
      have hsh : -200000 ≤ s + (i : Int) ∧ s + (i : Int) ≤ 200000 := by omega
      generalize hshe : s + (i : Int) = sh at *
      refine wk_rangeL rfl ?_
      intro L H4 lp nH oH dH lH
      conv => { arg 2; simp (disch := first | assumption | omega) only [push_cast, ↓reduceIte, reduceIte, Nat.reduceEqDiff, Nat.reduceAdd, Nat.reduceSub, Nat.reduceMul, Nat.reduceBEq, Int.reduceNeg] }
      refine callP_func ?_
      conv => { arg 3; simp only [push_cast] }
      have hul : ((usL X k).drop i).length = k - i := by rw [List.length_drop, usL_len hk.1]
      refine (iter8_w (e := 87) ((usL X k).drop i) (h3.next + 1) H.next (.slice (some ⟨b, i, none⟩) (k - i) (EX + (146 - i))) H4 (by rw [hul]; omega)
        (fun j H' => H4.next ≤ H'.next ∧ (∀ c, c < H4.next → c ≠ h3.next + 1 → c ≠ h2.next → H'.get c = H4.get c) ∧ L H' .ready none ∧ ∃ bl, H'.get h2.next = some (.cells [.slice (ownB (revL X k (i + j)) bl) (revL X k (i + j)).length (revL X k (i + j)).length, .int .i64 sh] 41 true) ∧ (revL X k (i + j) ≠ [] → H4.next ≤ bl ∧ bl < H'.next ∧ H'.get bl = some (.cells (flatE encI (revL X k (i + j))) 3 true)))
        (fun H' => False)
        ⟨Nat.le_refl _, fun _ _ _ _ => rfl, lH, 0, by rw [hul, show i + (k - i) = k by omega, revL_top hk.1, oH _ (by omega)]; exact c7, fun hn => absurd (by rw [hul, show i + (k - i) = k by omega, revL_top hk.1]) hn⟩ ?_ ?_).mono ?_
      · rintro j H' ⟨p1, p2, p3, p4⟩
        exact ⟨by omega, by rw [p2 _ (by omega) (by omega) (by omega), oH _ (by omega)]; exact q3, usD_in hk.1 (by omega) (by rw [capLo_ex]; omega) (by omega) (by rw [hC, p2 _ (by omega) (by omega) (by omega), oH _ (by omega)]; exact hb3)⟩
      · rintro j hj H' ⟨p1, p2, p3, bl, p4, p5⟩
        rw [hul] at hj
        have hDs := revL_step (X := X) (j := i + j) hk.1 (by omega)
        have hlen := revL_len (X := X) (j := i + j + 1) hk.1
        have hel : ((usL X k).drop i)[j]'(by rw [hul]; exact hj) = ((X / 60 ^ (i + j) % 60 : Nat) : Int) := by rw [List.getElem_drop, usL_get]
        rw [hel]
        have hdd : X / 60 ^ (i + j) % 60 < 60 := Nat.mod_lt _ (by decide)
        rw [show i + (j + 1) = i + j + 1 by omega] at p4 p5
        rw [hDs]
        generalize revL X k (i + j + 1) = D at *
        have hd1 : (0 : Int) ≤ ((X / 60 ^ (i + j) % 60 : Nat) : Int) ∧ ((X / 60 ^ (i + j) % 60 : Nat) : Int) < 60 := by omega
        generalize ((X / 60 ^ (i + j) % 60 : Nat) : Int) = d at *
        refine lp.yield p3 rfl rfl ?_
        rw [putLs2]
        repeat' (first
    | ((with_reducible first | refine optP_id ?_ | refine condP_id ?_ | refine resP_id ?_ | refine callT_of ?_); conv => { arg 1; simp (disch := first | assumption | omega) only [push_cast, ↓reduceIte, reduceIte, Nat.reduceEqDiff, Nat.reduceAdd, Nat.reduceSub, Nat.reduceMul, Nat.reduceBEq, Int.reduceNeg] }; first | ((with_reducible refine optP_id ?_); refine optP_some ?_) | ((with_reducible refine condP_id ?_); first | refine qcy ?_ | refine qcx ?_ | refine qco ?_ | refine condP_decn (fun hc => ?_) (fun hc => ?_) | refine condP_dec (fun hc => ?_) (fun hc => ?_) | refine qct ?_ | refine qcf ?_ | refine condP_bool (fun hc => ?_) (fun hc => ?_)) | ((with_reducible refine resP_id ?_); refine resP_two ?_) | ((with_reducible refine callT_to ?_); first | refine callP_plain ?_ | refine callP_yield ?_ | (refine callP_func ?_; conv => { arg 3; simp only [push_cast] })))
    | refine wk_seq ?_ | refine wk_region ?_ | refine wk_block ?_ | refine wk_inBlock ?_ | refine wk_skip ?_ | refine wo_nil ?_ | refine wk_exit ?_ | refine exitK_code ?_ | refine exitK_hit ?_ | refine exitK_miss rfl ?_ | refine exitK_inLoop ?_ | refine wk_cond ?_ | refine wk_ret ?_ | refine wk_nil ?_ | refine wo_dst rfl (opR_call ?_) | refine wo_nodst (opR_call ?_) | refine wo_dst rfl (opR_pure ?_) | refine wo_nodst (opR_pure ?_)
    | refine give_ret ?_ | refine give_end ?_)
        refine lp.start rfl p3 ?_
        intro H5 m1 m2 m3
        have d7 : H5.get h2.next = some (.cells [.slice (ownB D bl) D.length D.length, .int .i64 sh] 41 true) := by rw [m2 _ (by omega)]; exact p4
        repeat' (first
    | ((with_reducible first | refine optP_id ?_ | refine condP_id ?_ | refine resP_id ?_ | refine callT_of ?_); conv => { arg 1; simp (disch := first | assumption | omega) only [push_cast, ↓reduceIte, reduceIte, Nat.reduceEqDiff, Nat.reduceAdd, Nat.reduceSub, Nat.reduceMul, Nat.reduceBEq, Int.reduceNeg, e7, d7] }; first | ((with_reducible refine optP_id ?_); refine optP_some ?_) | ((with_reducible refine condP_id ?_); first | refine qcy ?_ | refine qcx ?_ | refine qco ?_ | refine condP_decn (fun hc => ?_) (fun hc => ?_) | refine condP_dec (fun hc => ?_) (fun hc => ?_) | refine qct ?_ | refine qcf ?_ | refine condP_bool (fun hc => ?_) (fun hc => ?_)) | ((with_reducible refine resP_id ?_); refine resP_two ?_) | ((with_reducible refine callT_to ?_); first | refine callP_plain ?_ | refine callP_yield ?_ | (refine callP_func ?_; conv => { arg 3; simp only [push_cast] })))
    | refine wk_seq ?_ | refine wk_region ?_ | refine wk_block ?_ | refine wk_inBlock ?_ | refine wk_skip ?_ | refine wo_nil ?_ | refine wk_exit ?_ | refine exitK_code ?_ | refine exitK_hit ?_ | refine exitK_miss rfl ?_ | refine exitK_inLoop ?_ | refine wk_cond ?_ | refine wk_ret ?_ | refine wk_nil ?_ | refine wo_dst rfl (opR_call ?_) | refine wo_nodst (opR_call ?_) | refine wo_dst rfl (opR_pure ?_) | refine wo_nodst (opR_pure ?_)
    | refine give_ret ?_ | refine give_end ?_)
        conv => { arg 1; simp (disch := first | assumption | omega) only [push_cast, ↓reduceIte, reduceIte, Nat.reduceEqDiff, Nat.reduceAdd, Nat.reduceSub, Nat.reduceMul, Nat.reduceBEq, Int.reduceNeg, ap22] }
        refine optP_one (x := d) (e' := 3) (rw' := true) encI_len encI_flat (by omega) (by omega) (fun hn => by obtain ⟨q0, q1, q2⟩ := p5 hn; simp (disch := first | assumption | omega) only [push_cast, ↓reduceIte, reduceIte, Nat.reduceEqDiff, Nat.reduceAdd, Nat.reduceSub, Nat.reduceMul, Nat.reduceBEq, Int.reduceNeg]; rw [m2 _ (by omega)]; exact q2) (by unfold encI; simp (disch := first | assumption | omega) only [push_cast, ↓reduceIte, reduceIte, Nat.reduceEqDiff, Nat.reduceAdd, Nat.reduceSub, Nat.reduceMul, Nat.reduceBEq, Int.reduceNeg]) ?_
        intro H6 n6 new6 keep6
        simp only [next_new] at n6 new6 keep6
        have d7' : H6.get h2.next = some (.cells [.slice (ownB D bl) D.length D.length, .int .i64 sh] 41 true) := by rw [keep6 _ (by omega) (fun hn => by have := (p5 hn).1; omega)]; simp (disch := first | assumption | omega) only [push_cast, ↓reduceIte, reduceIte, Nat.reduceEqDiff, Nat.reduceAdd, Nat.reduceSub, Nat.reduceMul, Nat.reduceBEq, Int.reduceNeg]; exact d7
        repeat' (first
    | ((with_reducible first | refine optP_id ?_ | refine condP_id ?_ | refine resP_id ?_ | refine callT_of ?_); conv => { arg 1; simp (disch := first | assumption | omega) only [push_cast, ↓reduceIte, reduceIte, Nat.reduceEqDiff, Nat.reduceAdd, Nat.reduceSub, Nat.reduceMul, Nat.reduceBEq, Int.reduceNeg, e7, d7'] }; first | ((with_reducible refine optP_id ?_); refine optP_some ?_) | ((with_reducible refine condP_id ?_); first | refine qcy ?_ | refine qcx ?_ | refine qco ?_ | refine condP_decn (fun hc => ?_) (fun hc => ?_) | refine condP_dec (fun hc => ?_) (fun hc => ?_) | refine qct ?_ | refine qcf ?_ | refine condP_bool (fun hc => ?_) (fun hc => ?_)) | ((with_reducible refine resP_id ?_); refine resP_two ?_) | ((with_reducible refine callT_to ?_); first | refine callP_plain ?_ | refine callP_yield ?_ | (refine callP_func ?_; conv => { arg 3; simp only [push_cast] })))
    | refine wk_seq ?_ | refine wk_region ?_ | refine wk_block ?_ | refine wk_inBlock ?_ | refine wk_skip ?_ | refine wo_nil ?_ | refine wk_exit ?_ | refine exitK_code ?_ | refine exitK_hit ?_ | refine exitK_miss rfl ?_ | refine exitK_inLoop ?_ | refine wk_cond ?_ | refine wk_ret ?_ | refine wk_nil ?_ | refine wo_dst rfl (opR_call ?_) | refine wo_nodst (opR_call ?_) | refine wo_dst rfl (opR_pure ?_) | refine wo_nodst (opR_pure ?_)
    | refine give_ret ?_ | refine give_end ?_)
        refine lp.next (lp.of m3 (by simp (disch := first | assumption | omega) only [push_cast, ↓reduceIte, reduceIte, Nat.reduceEqDiff, Nat.reduceAdd, Nat.reduceSub, Nat.reduceMul, Nat.reduceBEq, Int.reduceNeg]; rw [keep6 _ (by omega) (fun hn => by have := (p5 hn).1; omega)]; simp (disch := first | assumption | omega) only [push_cast, ↓reduceIte, reduceIte, Nat.reduceEqDiff, Nat.reduceAdd, Nat.reduceSub, Nat.reduceMul, Nat.reduceBEq, Int.reduceNeg])) ?_
        intro H7 t1 t2 t3
        simp only [next_set] at t1
        refine .inl ⟨rfl, by omega, fun c hc n1 n4 => ?_, t3, H5.next + 1, ?_, fun _ => ⟨by omega, by omega, ?_⟩⟩
        · rw [t2 _ n1]
          simp (disch := first | assumption | omega) only [push_cast, ↓reduceIte, reduceIte, Nat.reduceEqDiff, Nat.reduceAdd, Nat.reduceSub, Nat.reduceMul, Nat.reduceBEq, Int.reduceNeg]
          rw [keep6 _ (by omega) (fun hn => by have := (p5 hn).1; omega)]
          simp (disch := first | assumption | omega) only [push_cast, ↓reduceIte, reduceIte, Nat.reduceEqDiff, Nat.reduceAdd, Nat.reduceSub, Nat.reduceMul, Nat.reduceBEq, Int.reduceNeg]
          rw [m2 _ n1, p2 _ hc n1 n4]
        · rw [t2 _ (by omega)]; simp (disch := first | assumption | omega) only [push_cast, ↓reduceIte, reduceIte, Nat.reduceEqDiff, Nat.reduceAdd, Nat.reduceSub, Nat.reduceMul, Nat.reduceBEq, Int.reduceNeg]
        · rw [t2 _ (by omega)]; simp (disch := first | assumption | omega) only [push_cast, ↓reduceIte, reduceIte, Nat.reduceEqDiff, Nat.reduceAdd, Nat.reduceSub, Nat.reduceMul, Nat.reduceBEq, Int.reduceNeg]; exact new6
      · rintro _ H' (⟨p1, p2, p3, bl, p4, p5⟩ | hF)
        · refine ⟨_, _, by decide, p3, fun H'' t1 t2 => ?_⟩
          rw [todo_none]
          rw [Nat.add_zero] at p4 p5
          have hll := revL_len (X := X) (j := i) hk.1
          generalize hD : revL X k i = l at *
          have hln : l ≠ [] := fun hh => by rw [hh] at hll; simp at hll; omega
          have e7' : H''.get h2.next = some (.cells [.slice (ownB l bl) l.length l.length, .int .i64 sh] 41 true) := by rw [t2 _ (by omega)]; exact p4
          have e1 : H''.get (h.next + 1) = some (.cells [.slice none 0 0, .int .i64 0] 41 true) := by rw [t2 _ (by omega), p2 _ (by omega) (by omega) (by omega), oH _ (by omega)]; exact c1
          have e6' : H''.get h3.next = some (.deferred (some [])) := by rw [t2 _ (by omega), p2 _ (by omega) (by omega) (by omega)]; exact dH
          have gr' : Gr h H'' := ⟨by omega, fun c hc => by rw [t2 _ (by omega), p2 _ (by omega) (by omega) (by omega), oH _ (by omega), gA.2 c hc]⟩
          have hin : IIn H'' (.slice (ownB l bl) l.length l.length) l := own_in encI_len (by rw [(capLo_small (c := l.length) (by unfold EX; omega)).1]; exact Nat.le_refl _) (fun hn => by have := (p5 hn).2.1; omega) (fun hn => ⟨true, by have := (p5 hn).1; rw [t2 _ (by omega)]; exact (p5 hn).2.2⟩)
          have hbl := p5 hln
          have hX2 : valN l * 60 ^ i = X := by rw [hrv]; exact hxe
          repeat' (first
    | ((with_reducible first | refine optP_id ?_ | refine condP_id ?_ | refine resP_id ?_ | refine callT_of ?_); conv => { arg 1; simp (disch := first | assumption | omega) only [push_cast, ↓reduceIte, reduceIte, Nat.reduceEqDiff, Nat.reduceAdd, Nat.reduceSub, Nat.reduceMul, Nat.reduceBEq, Int.reduceNeg, e7, e7'] }; first | ((with_reducible refine optP_id ?_); refine optP_some ?_) | ((with_reducible refine condP_id ?_); first | refine qcy ?_ | refine qcx ?_ | refine qco ?_ | refine condP_decn (fun hc => ?_) (fun hc => ?_) | refine condP_dec (fun hc => ?_) (fun hc => ?_) | refine qct ?_ | refine qcf ?_ | refine condP_bool (fun hc => ?_) (fun hc => ?_)) | ((with_reducible refine resP_id ?_); refine resP_two ?_) | ((with_reducible refine callT_to ?_); first | refine callP_plain ?_ | refine callP_yield ?_ | (refine callP_func ?_; conv => { arg 3; simp only [push_cast] })))
    | refine wk_seq ?_ | refine wk_region ?_ | refine wk_block ?_ | refine wk_inBlock ?_ | refine wk_skip ?_ | refine wo_nil ?_ | refine wk_exit ?_ | refine exitK_code ?_ | refine exitK_hit ?_ | refine exitK_miss rfl ?_ | refine exitK_inLoop ?_ | refine wk_cond ?_ | refine wk_ret ?_ | refine wk_nil ?_ | refine wo_dst rfl (opR_call ?_) | refine wo_nodst (opR_call ?_) | refine wo_dst rfl (opR_pure ?_) | refine wo_nodst (opR_pure ?_)
    | refine give_ret ?_ | refine give_end ?_)
          refine (checkplace_w l sh _ _ hin (by omega)).mono ?_
          rintro _ H8 ⟨rfl, g8⟩
          have n8 := g8.1
          have k8 := g8.2
          have f1 : H8.get (h.next + 1) = some (.cells [.slice none 0 0, .int .i64 0] 41 true) := by rw [k8 _ (by omega)]; exact e1
          have f7 : H8.get h2.next = some (.cells [.slice (ownB l bl) l.length l.length, .int .i64 sh] 41 true) := by rw [k8 _ (by omega)]; exact e7'
          have f6 : H8.get h3.next = some (.deferred (some [])) := by rw [k8 _ (by omega)]; exact e6'
          have g9 : Gr h H8 := Gr.trans gr' g8
          by_cases hp : placeE l sh = 0
          · rw [hp]
            repeat' (first
    | ((with_reducible first | refine optP_id ?_ | refine condP_id ?_ | refine resP_id ?_ | refine callT_of ?_); conv => { arg 1; simp (disch := first | assumption | omega) only [push_cast, ↓reduceIte, reduceIte, Nat.reduceEqDiff, Nat.reduceAdd, Nat.reduceSub, Nat.reduceMul, Nat.reduceBEq, Int.reduceNeg, e4, e7, f1, f7] }; first | ((with_reducible refine optP_id ?_); refine optP_some ?_) | ((with_reducible refine condP_id ?_); first | refine qcy ?_ | refine qcx ?_ | refine qco ?_ | refine condP_decn (fun hc => ?_) (fun hc => ?_) | refine condP_dec (fun hc => ?_) (fun hc => ?_) | refine qct ?_ | refine qcf ?_ | refine condP_bool (fun hc => ?_) (fun hc => ?_)) | ((with_reducible refine resP_id ?_); refine resP_two ?_) | ((with_reducible refine callT_to ?_); first | refine callP_plain ?_ | refine callP_yield ?_ | (refine callP_func ?_; conv => { arg 3; simp only [push_cast] })))
    | refine wk_seq ?_ | refine wk_region ?_ | refine wk_block ?_ | refine wk_inBlock ?_ | refine wk_skip ?_ | refine wo_nil ?_ | refine wk_exit ?_ | refine exitK_code ?_ | refine exitK_hit ?_ | refine exitK_miss rfl ?_ | refine exitK_inLoop ?_ | refine wk_cond ?_ | refine wk_ret ?_ | refine wk_nil ?_ | refine wo_dst rfl (opR_call ?_) | refine wo_nodst (opR_call ?_) | refine wo_dst rfl (opR_pure ?_) | refine wo_nodst (opR_pure ?_)
    | refine give_ret ?_ | refine give_end ?_)
            refine give_ret1 (by simp (disch := first | assumption | omega) only [push_cast, ↓reduceIte, reduceIte, Nat.reduceEqDiff, Nat.reduceAdd, Nat.reduceSub, Nat.reduceMul, Nat.reduceBEq, Int.reduceNeg, f6]) ?_
            repeat' (first
    | ((with_reducible first | refine optP_id ?_ | refine condP_id ?_ | refine resP_id ?_ | refine callT_of ?_); conv => { arg 1; simp (disch := first | assumption | omega) only [push_cast, ↓reduceIte, reduceIte, Nat.reduceEqDiff, Nat.reduceAdd, Nat.reduceSub, Nat.reduceMul, Nat.reduceBEq, Int.reduceNeg, e4, e7, f1, f7] }; first | ((with_reducible refine optP_id ?_); refine optP_some ?_) | ((with_reducible refine condP_id ?_); first | refine qcy ?_ | refine qcx ?_ | refine qco ?_ | refine condP_decn (fun hc => ?_) (fun hc => ?_) | refine condP_dec (fun hc => ?_) (fun hc => ?_) | refine qct ?_ | refine qcf ?_ | refine condP_bool (fun hc => ?_) (fun hc => ?_)) | ((with_reducible refine resP_id ?_); refine resP_two ?_) | ((with_reducible refine callT_to ?_); first | refine callP_plain ?_ | refine callP_yield ?_ | (refine callP_func ?_; conv => { arg 3; simp only [push_cast] })))
    | refine wk_seq ?_ | refine wk_region ?_ | refine wk_block ?_ | refine wk_inBlock ?_ | refine wk_skip ?_ | refine wo_nil ?_ | refine wk_exit ?_ | refine exitK_code ?_ | refine exitK_hit ?_ | refine exitK_miss rfl ?_ | refine exitK_inLoop ?_ | refine wk_cond ?_ | refine wk_ret ?_ | refine wk_nil ?_ | refine wo_dst rfl (opR_call ?_) | refine wo_nodst (opR_call ?_) | refine wo_dst rfl (opR_pure ?_) | refine wo_nodst (opR_pure ?_)
    | refine give_ret ?_ | refine give_end ?_)
            refine ⟨⟨.inr ⟨h0, l, i, _, hval, hln, hX2, by omega, .inl ⟨by rw [hshe]; exact hp, by rw [hshe], own_in encI_len (by rw [(capLo_small (c := l.length) (by unfold EX; omega)).1]; exact Nat.le_refl _) (fun _ => by simp only [next_set]; omega) (fun _ => ⟨true, by simp (disch := first | assumption | omega) only [push_cast, ↓reduceIte, reduceIte, Nat.reduceEqDiff, Nat.reduceAdd, Nat.reduceSub, Nat.reduceMul, Nat.reduceBEq, Int.reduceNeg]; rw [k8 _ (by omega), t2 _ (by omega)]; exact hbl.2.2⟩)⟩⟩, fun a n c s e hh => by rw [ownB_ne hln] at hh; cases hh; show h.next ≤ bl; omega⟩, by (repeat (first | exact Gr.refl _ | assumption | (refine Gr.trans ?_ (by assumption)) | refine Gr.set ?_ (by first | exact Nat.le_refl _ | omega | (simp only [next_new, next_set]; omega)) _ | refine Gr.new ?_ _))⟩
          · generalize hpe : placeE l sh = pe at *
            repeat' (first
    | ((with_reducible first | refine optP_id ?_ | refine condP_id ?_ | refine resP_id ?_ | refine callT_of ?_); conv => { arg 1; simp (disch := first | assumption | omega) only [push_cast, ↓reduceIte, reduceIte, Nat.reduceEqDiff, Nat.reduceAdd, Nat.reduceSub, Nat.reduceMul, Nat.reduceBEq, Int.reduceNeg, e4, e7, f1, f7] }; first | ((with_reducible refine optP_id ?_); refine optP_some ?_) | ((with_reducible refine condP_id ?_); first | refine qcy ?_ | refine qcx ?_ | refine qco ?_ | refine condP_decn (fun hc => ?_) (fun hc => ?_) | refine condP_dec (fun hc => ?_) (fun hc => ?_) | refine qct ?_ | refine qcf ?_ | refine condP_bool (fun hc => ?_) (fun hc => ?_)) | ((with_reducible refine resP_id ?_); refine resP_two ?_) | ((with_reducible refine callT_to ?_); first | refine callP_plain ?_ | refine callP_yield ?_ | (refine callP_func ?_; conv => { arg 3; simp only [push_cast] })))
    | refine wk_seq ?_ | refine wk_region ?_ | refine wk_block ?_ | refine wk_inBlock ?_ | refine wk_skip ?_ | refine wo_nil ?_ | refine wk_exit ?_ | refine exitK_code ?_ | refine exitK_hit ?_ | refine exitK_miss rfl ?_ | refine exitK_inLoop ?_ | refine wk_cond ?_ | refine wk_ret ?_ | refine wk_nil ?_ | refine wo_dst rfl (opR_call ?_) | refine wo_nodst (opR_call ?_) | refine wo_dst rfl (opR_pure ?_) | refine wo_nodst (opR_pure ?_)
    | refine give_ret ?_ | refine give_end ?_)
            refine give_ret1 (by simp (disch := first | assumption | omega) only [push_cast, ↓reduceIte, reduceIte, Nat.reduceEqDiff, Nat.reduceAdd, Nat.reduceSub, Nat.reduceMul, Nat.reduceBEq, Int.reduceNeg, f6]) ?_
            repeat' (first
    | ((with_reducible first | refine optP_id ?_ | refine condP_id ?_ | refine resP_id ?_ | refine callT_of ?_); conv => { arg 1; simp (disch := first | assumption | omega) only [push_cast, ↓reduceIte, reduceIte, Nat.reduceEqDiff, Nat.reduceAdd, Nat.reduceSub, Nat.reduceMul, Nat.reduceBEq, Int.reduceNeg, e4, e7, f1, f7] }; first | ((with_reducible refine optP_id ?_); refine optP_some ?_) | ((with_reducible refine condP_id ?_); first | refine qcy ?_ | refine qcx ?_ | refine qco ?_ | refine condP_decn (fun hc => ?_) (fun hc => ?_) | refine condP_dec (fun hc => ?_) (fun hc => ?_) | refine qct ?_ | refine qcf ?_ | refine condP_bool (fun hc => ?_) (fun hc => ?_)) | ((with_reducible refine resP_id ?_); refine resP_two ?_) | ((with_reducible refine callT_to ?_); first | refine callP_plain ?_ | refine callP_yield ?_ | (refine callP_func ?_; conv => { arg 3; simp only [push_cast] })))
    | refine wk_seq ?_ | refine wk_region ?_ | refine wk_block ?_ | refine wk_inBlock ?_ | refine wk_skip ?_ | refine wo_nil ?_ | refine wk_exit ?_ | refine exitK_code ?_ | refine exitK_hit ?_ | refine exitK_miss rfl ?_ | refine exitK_inLoop ?_ | refine wk_cond ?_ | refine wk_ret ?_ | refine wk_nil ?_ | refine wo_dst rfl (opR_call ?_) | refine wo_nodst (opR_call ?_) | refine wo_dst rfl (opR_pure ?_) | refine wo_nodst (opR_pure ?_)
    | refine give_ret ?_ | refine give_end ?_)
            exact ⟨⟨.inr ⟨h0, l, i, .bool true, hval, hln, hX2, by omega, .inr ⟨by rw [hshe, hpe]; exact hp, rfl⟩⟩, fun _ _ _ _ _ hh => by cases hh⟩, by (repeat (first | exact Gr.refl _ | assumption | (refine Gr.trans ?_ (by assumption)) | refine Gr.set ?_ (by first | exact Nat.le_refl _ | omega | (simp only [next_new, next_set]; omega)) _ | refine Gr.new ?_ _))⟩
        · exact hF.elim
end Go.Proofs.YtelepfablohdmaaGreatDoor
namespace Go.Proofs.YtelepfablohdmaaGreatDoor
open Go.Ev
theorem valN_ge {d : Int} {t : List Int} (h : digs (d :: t)) (h0 : d ≠ 0) : 60 ^ t.length ≤ valN (d :: t) := by
  have h1 := h d (.head _)
  have h2 : 1 ≤ d.toNat := by omega
  have h3 := Nat.mul_le_mul_right (60 ^ t.length) h2
  rw [Nat.one_mul] at h3
  rw [valN]
  omega
theorem valid_ge {l : List Int} (h : valid l) (hn : l ≠ []) : 60 ^ (l.length - 1) ≤ valN l := by
  cases l with
  | nil => exact absurd rfl hn
  | cons d t =>
    have h0 : d ≠ 0 := fun hd => h.2.1 (by rw [hd]; rfl)
    simpa using valN_ge h.1 h0
theorem valN_mod {l : List Int} (h : valid l) (hn : l ≠ []) : valN l % 60 ≠ 0 := by
  have hs : l = l.dropLast ++ [l.getLast hn] := (List.dropLast_concat_getLast hn).symm
  have hg := h.2.2 hn
  have hl : l[l.length - 1]? = some (l.getLast hn) := by
    rw [← List.getLast?_eq_getElem?, List.getLast?_eq_some_getLast hn]
  rw [hl] at hg
  have hd := h.1 _ (List.getLast_mem hn)
  have hv : valN l = valN l.dropLast * 60 + (l.getLast hn).toNat := by rw [← valN_snoc, ← hs]
  have : l.getLast hn ≠ 0 := fun hh => hg (by rw [hh])
  omega
theorem valN_inj_len : ∀ {l m : List Int}, digs l → digs m → l.length = m.length → valN l = valN m → l = m
  | [], [], _, _, _, _ => rfl
  | [], _ :: _, _, _, h, _ => by cases h
  | _ :: _, [], _, _, h, _ => by cases h
  | d :: t, d' :: t', hl, hm, hlen, hv => by
    have ht : t.length = t'.length := by simpa using hlen
    have h1 := valN_lt (l := t) fun x hx => hl x (.tail _ hx)
    have h2 := valN_lt (l := t') fun x hx => hm x (.tail _ hx)
    have hd := hl d (.head _)
    have hd' := hm d' (.head _)
    rw [valN, valN, ← ht] at hv
    rw [← ht] at h2
    have hp : 0 < 60 ^ t.length := Nat.pow_pos (by decide)
    have e1 : d.toNat = d'.toNat := by
      have q1 : (d.toNat * 60 ^ t.length + valN t) / 60 ^ t.length = d.toNat := by rw [Nat.add_comm, Nat.add_mul_div_right _ _ hp, Nat.div_eq_of_lt h1, Nat.zero_add]
      have q2 : (d'.toNat * 60 ^ t.length + valN t') / 60 ^ t.length = d'.toNat := by rw [Nat.add_comm, Nat.add_mul_div_right _ _ hp, Nat.div_eq_of_lt h2, Nat.zero_add]
      rw [← q1, ← q2, hv]
    have e2 : valN t = valN t' := by rw [e1] at hv; omega
    rw [valN_inj_len (fun x hx => hl x (.tail _ hx)) (fun x hx => hm x (.tail _ hx)) ht e2]
    congr 1
    omega
theorem valN_inj {l m : List Int} (hl : valid l) (hm : valid m) (h : valN l = valN m) : l = m := by
  refine valN_inj_len hl.1 hm.1 ?_ h
  by_cases h1 : l = []
  · by_cases h2 : m = []
    · rw [h1, h2]
    · have := valid_ge hm h2
      have hp : 0 < 60 ^ (m.length - 1) := Nat.pow_pos (by decide)
      rw [← h, h1, valN] at this
      omega
  · by_cases h2 : m = []
    · have := valid_ge hl h1
      have hp : 0 < 60 ^ (l.length - 1) := Nat.pow_pos (by decide)
      rw [h, h2, valN] at this
      omega
    · have a1 := valid_ge hl h1
      have a2 := valid_ge hm h2
      have b1 := valN_lt hl.1
      have b2 := valN_lt hm.1
      have c1 := List.length_pos_iff.2 h1
      have c2 := List.length_pos_iff.2 h2
      have d1 : l.length - 1 < m.length := (Nat.pow_lt_pow_iff_right (by decide : 1 < 60)).1 (Nat.lt_of_le_of_lt a1 (by rw [h]; exact b2))
      have d2 : m.length - 1 < l.length := (Nat.pow_lt_pow_iff_right (by decide : 1 < 60)).1 (Nat.lt_of_le_of_lt a2 (by rw [← h]; exact b1))
      omega
theorem valid_nil : valid [] := ⟨fun x hx => (nomatch hx), by simp, fun h => absurd rfl h⟩
theorem len_of {l : List Int} {e X : Nat} (hl : valid l) (hn : l ≠ []) (h : valN l * 60 ^ e = X) (hX : X ≤ 1099511627776) : l.length + e ≤ 8 := by
  have h1 := valid_ge hl hn
  have h2 := Nat.mul_le_mul_right (60 ^ e) h1
  rw [← Nat.pow_add, h] at h2
  have h3 : 60 ^ (l.length - 1 + e) < 60 ^ 7 := Nat.lt_of_le_of_lt (Nat.le_trans h2 hX) (by decide)
  have := (Nat.pow_lt_pow_iff_right (by decide : 1 < 60)).1 h3
  omega
set_option maxRecDepth 100000 in
set_option maxHeartbeats 8000000 in
theorem of2_w (X : Nat) (hX : X ≤ 1099511627776) (h : AHeap) :
    Wc pr (.func 53) [.int .i64 (X : Int)] h fun r h' => (∃ v l e, r = .tuple #[v, .int .i64 0] ∧ IIn h' v l ∧ valid l ∧ valN l * 60 ^ e = X ∧ l.length ≤ 8 ∧ e ≤ 8 ∧ (X = 0 ↔ l = []) ∧ freQ h.next v) ∧ Gr h h' := by
  have hX146 : X < 60 ^ 146 := Nat.lt_of_le_of_lt hX (by decide)
  have r1 : (0 : Int) ≤ (X : Int) ∧ (X : Int) ≤ 1099511627776 := by omega
  refine wc_func Tryz.func53 rfl rfl rfl rfl ?_
  repeat' (first
    | ((with_reducible first | refine optP_id ?_ | refine condP_id ?_ | refine condO_id ?_ | refine resP_id ?_ | refine callT_of ?_); conv => { arg 1; simp (disch := first | assumption | omega) only [push_cast, ↓reduceIte, reduceIte, Nat.reduceEqDiff, Nat.reduceAdd, Nat.reduceSub, Nat.reduceMul, Nat.reduceBEq, Int.reduceNeg] }; first | ((with_reducible refine optP_id ?_); refine optP_some ?_) | ((with_reducible refine condP_id ?_); first | refine qcy ?_ | refine qcx ?_ | refine qco ?_ | refine condP_decn (fun hc => ?_) (fun hc => ?_) | refine condP_dec (fun hc => ?_) (fun hc => ?_) | refine qct ?_ | refine qcf ?_ | refine condP_bool (fun hc => ?_) (fun hc => ?_)) | ((with_reducible refine condO_id ?_); refine condO_some ?_) | ((with_reducible refine resP_id ?_); first | refine resP_one ?_ | refine resP_two ?_ | refine resP_three ?_ | refine resP_four ?_ | refine resP_zero ?_) | ((with_reducible refine callT_to ?_); first | refine callP_plain ?_ | refine callP_yield ?_ | (refine callP_func ?_; conv => { arg 3; simp only [push_cast] })))
    | refine wk_seq ?_ | refine wk_region ?_ | refine wk_block ?_ | refine wk_inBlock ?_ | refine wk_scope ?_ | refine wk_inScope ?_ | refine wk_skip ?_ | refine wk_label ?_ | refine wk_draw (by kernel_rfl) (by decide +kernel) ?_ | refine wo_nil ?_ | refine wk_exit ?_ | refine exitK_code ?_ | refine exitK_hit ?_ | refine exitK_miss rfl ?_ | refine exitK_inLoop ?_ | refine exitK_inScope ?_ | refine wk_cond ?_ | refine wk_ret ?_ | refine wk_nil ?_ | refine wo_dst rfl (opR_call ?_) | refine wo_nodst (opR_call ?_) | refine wo_dst rfl (opR_pick ?_) | refine wo_guard rfl rfl ?_ | refine wo_guardn rfl ?_ | refine wo_dst rfl (opR_pure ?_) | refine wo_nodst (opR_pure ?_)
    | refine give_ret ?_ | refine give_end ?_)
  refine (from_w 0 1099511627776 (X : Int) _).mono ?_
  rintro _ _ ⟨rfl, rfl⟩
  rw [decide_eq_true r1]
  repeat' (first
    | ((with_reducible first | refine optP_id ?_ | refine condP_id ?_ | refine condO_id ?_ | refine resP_id ?_ | refine callT_of ?_); conv => { arg 1; simp (disch := first | assumption | omega) only [push_cast, ↓reduceIte, reduceIte, Nat.reduceEqDiff, Nat.reduceAdd, Nat.reduceSub, Nat.reduceMul, Nat.reduceBEq, Int.reduceNeg] }; first | ((with_reducible refine optP_id ?_); refine optP_some ?_) | ((with_reducible refine condP_id ?_); first | refine qcy ?_ | refine qcx ?_ | refine qco ?_ | refine condP_decn (fun hc => ?_) (fun hc => ?_) | refine condP_dec (fun hc => ?_) (fun hc => ?_) | refine qct ?_ | refine qcf ?_ | refine condP_bool (fun hc => ?_) (fun hc => ?_)) | ((with_reducible refine condO_id ?_); refine condO_some ?_) | ((with_reducible refine resP_id ?_); first | refine resP_one ?_ | refine resP_two ?_ | refine resP_three ?_ | refine resP_four ?_ | refine resP_zero ?_) | ((with_reducible refine callT_to ?_); first | refine callP_plain ?_ | refine callP_yield ?_ | (refine callP_func ?_; conv => { arg 3; simp only [push_cast] })))
    | refine wk_seq ?_ | refine wk_region ?_ | refine wk_block ?_ | refine wk_inBlock ?_ | refine wk_scope ?_ | refine wk_inScope ?_ | refine wk_skip ?_ | refine wk_label ?_ | refine wk_draw (by kernel_rfl) (by decide +kernel) ?_ | refine wo_nil ?_ | refine wk_exit ?_ | refine exitK_code ?_ | refine exitK_hit ?_ | refine exitK_miss rfl ?_ | refine exitK_inLoop ?_ | refine exitK_inScope ?_ | refine wk_cond ?_ | refine wk_ret ?_ | refine wk_nil ?_ | refine wo_dst rfl (opR_call ?_) | refine wo_nodst (opR_call ?_) | refine wo_dst rfl (opR_pick ?_) | refine wo_guard rfl rfl ?_ | refine wo_guardn rfl ?_ | refine wo_dst rfl (opR_pure ?_) | refine wo_nodst (opR_pure ?_)
    | refine give_ret ?_ | refine give_end ?_)
  refine (numof_w X hX _).mono ?_
  rintro _ h1 ⟨rfl, g1⟩; have n1 := g1.1; have k1 := g1.2; try simp only [next_new, next_set] at n1 k1
  repeat' (first
    | ((with_reducible first | refine optP_id ?_ | refine condP_id ?_ | refine condO_id ?_ | refine resP_id ?_ | refine callT_of ?_); conv => { arg 1; simp (disch := first | assumption | omega) only [push_cast, ↓reduceIte, reduceIte, Nat.reduceEqDiff, Nat.reduceAdd, Nat.reduceSub, Nat.reduceMul, Nat.reduceBEq, Int.reduceNeg, k1] }; first | ((with_reducible refine optP_id ?_); refine optP_some ?_) | ((with_reducible refine condP_id ?_); first | refine qcy ?_ | refine qcx ?_ | refine qco ?_ | refine condP_decn (fun hc => ?_) (fun hc => ?_) | refine condP_dec (fun hc => ?_) (fun hc => ?_) | refine qct ?_ | refine qcf ?_ | refine condP_bool (fun hc => ?_) (fun hc => ?_)) | ((with_reducible refine condO_id ?_); refine condO_some ?_) | ((with_reducible refine resP_id ?_); first | refine resP_one ?_ | refine resP_two ?_ | refine resP_three ?_ | refine resP_four ?_ | refine resP_zero ?_) | ((with_reducible refine callT_to ?_); first | refine callP_plain ?_ | refine callP_yield ?_ | (refine callP_func ?_; conv => { arg 3; simp only [push_cast] })))
    | refine wk_seq ?_ | refine wk_region ?_ | refine wk_block ?_ | refine wk_inBlock ?_ | refine wk_scope ?_ | refine wk_inScope ?_ | refine wk_skip ?_ | refine wk_label ?_ | refine wk_draw (by kernel_rfl) (by decide +kernel) ?_ | refine wo_nil ?_ | refine wk_exit ?_ | refine exitK_code ?_ | refine exitK_hit ?_ | refine exitK_miss rfl ?_ | refine exitK_inLoop ?_ | refine exitK_inScope ?_ | refine wk_cond ?_ | refine wk_ret ?_ | refine wk_nil ?_ | refine wo_dst rfl (opR_call ?_) | refine wo_nodst (opR_call ?_) | refine wo_dst rfl (opR_pick ?_) | refine wo_guard rfl rfl ?_ | refine wo_guardn rfl ?_ | refine wo_dst rfl (opR_pure ?_) | refine wo_nodst (opR_pure ?_)
    | refine give_ret ?_ | refine give_end ?_)
  refine (place2_w X hX146 0 (by omega) (by omega) _).mono ?_
  rintro _ h2 ⟨⟨hp, hfr⟩, g2⟩; have n2 := g2.1; have k2 := g2.2; try simp only [next_new, next_set] at n2 k2
  rcases hp with ⟨h0, rfl⟩ | ⟨h0, l, e, v, hv, hn, hval, hle, ⟨hE, rfl, hin⟩ | ⟨hE, rfl⟩⟩
  · repeat' (first
    | ((with_reducible first | refine optP_id ?_ | refine condP_id ?_ | refine condO_id ?_ | refine resP_id ?_ | refine callT_of ?_); conv => { arg 1; simp (disch := first | assumption | omega) only [push_cast, ↓reduceIte, reduceIte, Nat.reduceEqDiff, Nat.reduceAdd, Nat.reduceSub, Nat.reduceMul, Nat.reduceBEq, Int.reduceNeg, k1, k2] }; first | ((with_reducible refine optP_id ?_); refine optP_some ?_) | ((with_reducible refine condP_id ?_); first | refine qcy ?_ | refine qcx ?_ | refine qco ?_ | refine condP_decn (fun hc => ?_) (fun hc => ?_) | refine condP_dec (fun hc => ?_) (fun hc => ?_) | refine qct ?_ | refine qcf ?_ | refine condP_bool (fun hc => ?_) (fun hc => ?_)) | ((with_reducible refine condO_id ?_); refine condO_some ?_) | ((with_reducible refine resP_id ?_); first | refine resP_one ?_ | refine resP_two ?_ | refine resP_three ?_ | refine resP_four ?_ | refine resP_zero ?_) | ((with_reducible refine callT_to ?_); first | refine callP_plain ?_ | refine callP_yield ?_ | (refine callP_func ?_; conv => { arg 3; simp only [push_cast] })))
    | refine wk_seq ?_ | refine wk_region ?_ | refine wk_block ?_ | refine wk_inBlock ?_ | refine wk_scope ?_ | refine wk_inScope ?_ | refine wk_skip ?_ | refine wk_label ?_ | refine wk_draw (by kernel_rfl) (by decide +kernel) ?_ | refine wo_nil ?_ | refine wk_exit ?_ | refine exitK_code ?_ | refine exitK_hit ?_ | refine exitK_miss rfl ?_ | refine exitK_inLoop ?_ | refine exitK_inScope ?_ | refine wk_cond ?_ | refine wk_ret ?_ | refine wk_nil ?_ | refine wo_dst rfl (opR_call ?_) | refine wo_nodst (opR_call ?_) | refine wo_dst rfl (opR_pick ?_) | refine wo_guard rfl rfl ?_ | refine wo_guardn rfl ?_ | refine wo_dst rfl (opR_pure ?_) | refine wo_nodst (opR_pure ?_)
    | refine give_ret ?_ | refine give_end ?_)
    exact ⟨⟨_, [], 0, rfl, ⟨none, 0, rfl, Nat.zero_le _, fun h => absurd rfl h⟩, valid_nil, by rw [valN, h0], by simp, by omega, ⟨fun _ => rfl, fun _ => h0⟩, fun _ _ _ hh => by cases hh⟩, by (repeat (first | exact Gr.refl _ | assumption | (refine Gr.trans ?_ (by assumption)) | refine Gr.set ?_ (by first | exact Nat.le_refl _ | omega | (simp only [next_new, next_set]; omega)) _ | refine Gr.new ?_ _))⟩
  · have hle8 := len_of hv hn hval hX
    obtain ⟨a, c, rfl, q⟩ := id hin
    repeat' (first
    | ((with_reducible first | refine optP_id ?_ | refine condP_id ?_ | refine condO_id ?_ | refine resP_id ?_ | refine callT_of ?_); conv => { arg 1; simp (disch := first | assumption | omega) only [push_cast, ↓reduceIte, reduceIte, Nat.reduceEqDiff, Nat.reduceAdd, Nat.reduceSub, Nat.reduceMul, Nat.reduceBEq, Int.reduceNeg, k1, k2] }; first | ((with_reducible refine optP_id ?_); refine optP_some ?_) | ((with_reducible refine condP_id ?_); first | refine qcy ?_ | refine qcx ?_ | refine qco ?_ | refine condP_decn (fun hc => ?_) (fun hc => ?_) | refine condP_dec (fun hc => ?_) (fun hc => ?_) | refine qct ?_ | refine qcf ?_ | refine condP_bool (fun hc => ?_) (fun hc => ?_)) | ((with_reducible refine condO_id ?_); refine condO_some ?_) | ((with_reducible refine resP_id ?_); first | refine resP_one ?_ | refine resP_two ?_ | refine resP_three ?_ | refine resP_four ?_ | refine resP_zero ?_) | ((with_reducible refine callT_to ?_); first | refine callP_plain ?_ | refine callP_yield ?_ | (refine callP_func ?_; conv => { arg 3; simp only [push_cast] })))
    | refine wk_seq ?_ | refine wk_region ?_ | refine wk_block ?_ | refine wk_inBlock ?_ | refine wk_scope ?_ | refine wk_inScope ?_ | refine wk_skip ?_ | refine wk_label ?_ | refine wk_draw (by kernel_rfl) (by decide +kernel) ?_ | refine wo_nil ?_ | refine wk_exit ?_ | refine exitK_code ?_ | refine exitK_hit ?_ | refine exitK_miss rfl ?_ | refine exitK_inLoop ?_ | refine exitK_inScope ?_ | refine wk_cond ?_ | refine wk_ret ?_ | refine wk_nil ?_ | refine wo_dst rfl (opR_call ?_) | refine wo_nodst (opR_call ?_) | refine wo_dst rfl (opR_pick ?_) | refine wo_guard rfl rfl ?_ | refine wo_guardn rfl ?_ | refine wo_dst rfl (opR_pure ?_) | refine wo_nodst (opR_pure ?_)
    | refine give_ret ?_ | refine give_end ?_)
    exact ⟨⟨_, l, e, rfl, SlIn.gr hin (by (repeat (first | exact Gr.refl _ | assumption | (refine Gr.trans ?_ (by assumption)) | refine Gr.set ?_ (by first | exact Nat.le_refl _ | omega | (simp only [next_new, next_set]; omega)) _ | refine Gr.new ?_ _))), hv, hval, by omega, by omega, ⟨fun h => absurd h h0, fun h => absurd h hn⟩, fun a' n' c' hh => by cases hh; have := hfr _ _ _ _ _ rfl; omega⟩, by (repeat (first | exact Gr.refl _ | assumption | (refine Gr.trans ?_ (by assumption)) | refine Gr.set ?_ (by first | exact Nat.le_refl _ | omega | (simp only [next_new, next_set]; omega)) _ | refine Gr.new ?_ _))⟩
  · exfalso
    have hle8 := len_of hv hn hval hX
    apply hE
    rw [placeE, if_neg (fun h => h (valid_check hv (by omega))), if_neg (fun h => h (by omega)), if_neg (fun h => hn h.1)]
end Go.Proofs.YtelepfablohdmaaGreatDoor
