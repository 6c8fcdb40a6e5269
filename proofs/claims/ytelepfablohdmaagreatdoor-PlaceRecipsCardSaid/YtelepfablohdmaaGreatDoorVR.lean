/- Contracts of the reference: over, plus, placed; numberOf of great numbers. -/
import Derived.Test.YtelepfablohdmaaGreatDoorVG
set_option linter.unusedSimpArgs false
set_option linter.unusedVariables false
/- Contracts of the reference: Check, checks, trim. -/
namespace Go.Proofs.YtelepfablohdmaaGreatDoor
open Go.Ev
set_option maxRecDepth 100000 in
set_option maxHeartbeats 8000000 in
theorem rcheck_w (l : List Int) (v : Value) (h : AHeap) (hv : IIn h v l) (hl : l.length ≤ 4611686018427387904) :
    Wc pr (.func 19) [v] h fun r h' => r = .int .i64 (checkE l) ∧ h = h' := by
  obtain ⟨a, c, rfl, hc, hv⟩ := hv
  refine wc_func Tryz.func19 rfl rfl rfl rfl ?_
  by_cases h16 : 16 < l.length
  · have y16 : (l.length : Int) > 16 := by omega
    repeat' (first
    | ((with_reducible first | refine optP_id ?_ | refine condP_id ?_ | refine condO_id ?_ | refine resP_id ?_); conv => { arg 1; simp (disch := first | assumption | omega) only [push_cast, ↓reduceIte, reduceIte, Nat.reduceEqDiff, Nat.reduceAdd, Nat.reduceSub, Nat.reduceMul, Nat.reduceBEq, Int.reduceNeg] }; first | ((with_reducible refine optP_id ?_); refine optP_some ?_) | ((with_reducible refine condP_id ?_); first | refine qcy ?_ | refine qcx ?_ | refine qco ?_ | refine condP_decn (fun hc => ?_) (fun hc => ?_) | refine condP_dec (fun hc => ?_) (fun hc => ?_) | refine qct ?_ | refine qcf ?_ | refine condP_bool (fun hc => ?_) (fun hc => ?_)) | ((with_reducible refine condO_id ?_); refine condO_some ?_) | ((with_reducible refine resP_id ?_); refine resP_one ?_))
    | refine wk_seq ?_ | refine wk_region ?_ | refine wk_block ?_ | refine wk_inBlock ?_ | refine wk_skip ?_ | refine wo_nil ?_ | refine wk_exit ?_ | refine exitK_code ?_ | refine exitK_hit ?_ | refine exitK_miss rfl ?_ | refine exitK_inLoop ?_ | refine wk_cond ?_ | refine wk_ret ?_ | refine wk_nil ?_ | refine wo_dst rfl (opR_pick ?_) | refine wo_guard rfl rfl ?_ | refine wo_guardn rfl ?_ | refine wo_dst rfl (opR_pure ?_) | refine wo_nodst (opR_pure ?_)
    | refine give_ret ?_ | refine give_end ?_)
    exact ⟨by rw [checkE, if_pos h16], rfl⟩
  · have n16 : ¬ (l.length : Int) > 16 := by omega
    repeat' (first
    | ((with_reducible first | refine optP_id ?_ | refine condP_id ?_ | refine condO_id ?_ | refine resP_id ?_); conv => { arg 1; simp (disch := first | assumption | omega) only [push_cast, ↓reduceIte, reduceIte, Nat.reduceEqDiff, Nat.reduceAdd, Nat.reduceSub, Nat.reduceMul, Nat.reduceBEq, Int.reduceNeg] }; first | ((with_reducible refine optP_id ?_); refine optP_some ?_) | ((with_reducible refine condP_id ?_); first | refine qcy ?_ | refine qcx ?_ | refine qco ?_ | refine condP_decn (fun hc => ?_) (fun hc => ?_) | refine condP_dec (fun hc => ?_) (fun hc => ?_) | refine qct ?_ | refine qcf ?_ | refine condP_bool (fun hc => ?_) (fun hc => ?_)) | ((with_reducible refine condO_id ?_); refine condO_some ?_) | ((with_reducible refine resP_id ?_); refine resP_one ?_))
    | refine wk_seq ?_ | refine wk_region ?_ | refine wk_block ?_ | refine wk_inBlock ?_ | refine wk_skip ?_ | refine wo_nil ?_ | refine wk_exit ?_ | refine exitK_code ?_ | refine exitK_hit ?_ | refine exitK_miss rfl ?_ | refine exitK_inLoop ?_ | refine wk_cond ?_ | refine wk_ret ?_ | refine wk_nil ?_ | refine wo_dst rfl (opR_pick ?_) | refine wo_guard rfl rfl ?_ | refine wo_guardn rfl ?_ | refine wo_dst rfl (opR_pure ?_) | refine wo_nodst (opR_pure ?_)
    | refine give_ret ?_ | refine give_end ?_)
    refine wk_loop (fun n E H => ∃ i : Nat, n = l.length - i ∧ i ≤ l.length ∧ h = H ∧ (∀ k (hk : k < l.length), k < i → 0 ≤ l[k] ∧ l[k] < 60) ∧ E.look 0 top = .slice a l.length c ∧ E.look 3 top = .int .i64 (i : Int)) l.length
      ⟨0, by omega, by omega, rfl, fun k _ hk => absurd hk (Nat.not_lt_zero k), by simp (disch := first | assumption | omega) only [push_cast, ↓reduceIte, reduceIte, Nat.reduceEqDiff, Nat.reduceAdd, Nat.reduceSub, Nat.reduceMul, Nat.reduceBEq, Int.reduceNeg], by simp (disch := first | assumption | omega) only [push_cast, ↓reduceIte, reduceIte, Nat.reduceEqDiff, Nat.reduceAdd, Nat.reduceSub, Nat.reduceMul, Nat.reduceBEq, Int.reduceNeg, Int.natCast_zero]⟩ ?_
    rintro n E _ ⟨i, rfl, hi, rfl, hall, e0, e3⟩ next
    by_cases hlt : i < l.length
    · have ilt : (i : Int) < (l.length : Int) := by omega
      obtain ⟨b, off, cl, rw', rfl, hb, hgb, hat⟩ := hv (by intro h; rw [h] at hlt; exact absurd hlt (Nat.not_lt_zero _))
      have h0 := at_cut1 _ _ _ (hat i hlt)
      rw [Nat.mul_one] at h0
      by_cases d0 : l[i] < 0
      · repeat' (first
    | ((with_reducible first | refine optP_id ?_ | refine condP_id ?_ | refine condO_id ?_ | refine resP_id ?_); conv => { arg 1; simp (disch := first | assumption | omega) only [push_cast, ↓reduceIte, reduceIte, Nat.reduceEqDiff, Nat.reduceAdd, Nat.reduceSub, Nat.reduceMul, Nat.reduceBEq, Int.reduceNeg, e0, e3, hgb, h0, Nat.mul_one] }; first | ((with_reducible refine optP_id ?_); refine optP_some ?_) | ((with_reducible refine condP_id ?_); first | refine qcy ?_ | refine qcx ?_ | refine qco ?_ | refine condP_decn (fun hc => ?_) (fun hc => ?_) | refine condP_dec (fun hc => ?_) (fun hc => ?_) | refine qct ?_ | refine qcf ?_ | refine condP_bool (fun hc => ?_) (fun hc => ?_)) | ((with_reducible refine condO_id ?_); refine condO_some ?_) | ((with_reducible refine resP_id ?_); refine resP_one ?_))
    | refine wk_seq ?_ | refine wk_region ?_ | refine wk_block ?_ | refine wk_inBlock ?_ | refine wk_skip ?_ | refine wo_nil ?_ | refine wk_exit ?_ | refine exitK_code ?_ | refine exitK_hit ?_ | refine exitK_miss rfl ?_ | refine exitK_inLoop ?_ | refine wk_cond ?_ | refine wk_ret ?_ | refine wk_nil ?_ | refine wo_dst rfl (opR_pick ?_) | refine wo_guard rfl rfl ?_ | refine wo_guardn rfl ?_ | refine wo_dst rfl (opR_pure ?_) | refine wo_nodst (opR_pure ?_)
    | refine give_ret ?_ | refine give_end ?_)
        exact ⟨by rw [checkE, if_neg h16, if_pos ⟨l[i], List.getElem_mem hlt, .inl d0⟩], rfl⟩
      · by_cases d1 : l[i] ≥ 60
        · repeat' (first
    | ((with_reducible first | refine optP_id ?_ | refine condP_id ?_ | refine condO_id ?_ | refine resP_id ?_); conv => { arg 1; simp (disch := first | assumption | omega) only [push_cast, ↓reduceIte, reduceIte, Nat.reduceEqDiff, Nat.reduceAdd, Nat.reduceSub, Nat.reduceMul, Nat.reduceBEq, Int.reduceNeg, e0, e3, hgb, h0, Nat.mul_one] }; first | ((with_reducible refine optP_id ?_); refine optP_some ?_) | ((with_reducible refine condP_id ?_); first | refine qcy ?_ | refine qcx ?_ | refine qco ?_ | refine condP_decn (fun hc => ?_) (fun hc => ?_) | refine condP_dec (fun hc => ?_) (fun hc => ?_) | refine qct ?_ | refine qcf ?_ | refine condP_bool (fun hc => ?_) (fun hc => ?_)) | ((with_reducible refine condO_id ?_); refine condO_some ?_) | ((with_reducible refine resP_id ?_); refine resP_one ?_))
    | refine wk_seq ?_ | refine wk_region ?_ | refine wk_block ?_ | refine wk_inBlock ?_ | refine wk_skip ?_ | refine wo_nil ?_ | refine wk_exit ?_ | refine exitK_code ?_ | refine exitK_hit ?_ | refine exitK_miss rfl ?_ | refine exitK_inLoop ?_ | refine wk_cond ?_ | refine wk_ret ?_ | refine wk_nil ?_ | refine wo_dst rfl (opR_pick ?_) | refine wo_guard rfl rfl ?_ | refine wo_guardn rfl ?_ | refine wo_dst rfl (opR_pure ?_) | refine wo_nodst (opR_pure ?_)
    | refine give_ret ?_ | refine give_end ?_)
          exact ⟨by rw [checkE, if_neg h16, if_pos ⟨l[i], List.getElem_mem hlt, .inr d1⟩], rfl⟩
        · repeat' (first
    | ((with_reducible first | refine optP_id ?_ | refine condP_id ?_ | refine condO_id ?_ | refine resP_id ?_); conv => { arg 1; simp (disch := first | assumption | omega) only [push_cast, ↓reduceIte, reduceIte, Nat.reduceEqDiff, Nat.reduceAdd, Nat.reduceSub, Nat.reduceMul, Nat.reduceBEq, Int.reduceNeg, e0, e3, hgb, h0, Nat.mul_one] }; first | ((with_reducible refine optP_id ?_); refine optP_some ?_) | ((with_reducible refine condP_id ?_); first | refine qcy ?_ | refine qcx ?_ | refine qco ?_ | refine condP_decn (fun hc => ?_) (fun hc => ?_) | refine condP_dec (fun hc => ?_) (fun hc => ?_) | refine qct ?_ | refine qcf ?_ | refine condP_bool (fun hc => ?_) (fun hc => ?_)) | ((with_reducible refine condO_id ?_); refine condO_some ?_) | ((with_reducible refine resP_id ?_); refine resP_one ?_))
    | refine wk_seq ?_ | refine wk_region ?_ | refine wk_block ?_ | refine wk_inBlock ?_ | refine wk_skip ?_ | refine wo_nil ?_ | refine wk_exit ?_ | refine exitK_code ?_ | refine exitK_hit ?_ | refine exitK_miss rfl ?_ | refine exitK_inLoop ?_ | refine wk_cond ?_ | refine wk_ret ?_ | refine wk_nil ?_ | refine wo_dst rfl (opR_pick ?_) | refine wo_guard rfl rfl ?_ | refine wo_guardn rfl ?_ | refine wo_dst rfl (opR_pure ?_) | refine wo_nodst (opR_pure ?_)
    | refine give_ret ?_ | refine give_end ?_)
          exact next (l.length - (i + 1)) _ _ (by omega) ⟨i + 1, rfl, by omega, rfl, fun k hk hk2 => if e : k = i then by subst e; omega else hall k hk (by omega), by simp (disch := first | assumption | omega) only [push_cast, ↓reduceIte, reduceIte, Nat.reduceEqDiff, Nat.reduceAdd, Nat.reduceSub, Nat.reduceMul, Nat.reduceBEq, Int.reduceNeg, e0], by simp (disch := first | assumption | omega) only [push_cast, ↓reduceIte, reduceIte, Nat.reduceEqDiff, Nat.reduceAdd, Nat.reduceSub, Nat.reduceMul, Nat.reduceBEq, Int.reduceNeg, Int.natCast_add, Int.natCast_one]⟩
    · have ilt : ¬ (i : Int) < (l.length : Int) := by omega
      have hN : ¬ hasN l := fun ⟨x, hx, hh⟩ => by
        obtain ⟨k, hk, rfl⟩ := List.getElem_of_mem hx
        have := hall k hk (by omega)
        omega
      by_cases hne : l = []
      · have n0 : ¬ (l.length : Int) > 0 := by rw [hne]; decide
        repeat' (first
    | ((with_reducible first | refine optP_id ?_ | refine condP_id ?_ | refine condO_id ?_ | refine resP_id ?_); conv => { arg 1; simp (disch := first | assumption | omega) only [push_cast, ↓reduceIte, reduceIte, Nat.reduceEqDiff, Nat.reduceAdd, Nat.reduceSub, Nat.reduceMul, Nat.reduceBEq, Int.reduceNeg, e0, e3] }; first | ((with_reducible refine optP_id ?_); refine optP_some ?_) | ((with_reducible refine condP_id ?_); first | refine qcy ?_ | refine qcx ?_ | refine qco ?_ | refine condP_decn (fun hc => ?_) (fun hc => ?_) | refine condP_dec (fun hc => ?_) (fun hc => ?_) | refine qct ?_ | refine qcf ?_ | refine condP_bool (fun hc => ?_) (fun hc => ?_)) | ((with_reducible refine condO_id ?_); refine condO_some ?_) | ((with_reducible refine resP_id ?_); refine resP_one ?_))
    | refine wk_seq ?_ | refine wk_region ?_ | refine wk_block ?_ | refine wk_inBlock ?_ | refine wk_skip ?_ | refine wo_nil ?_ | refine wk_exit ?_ | refine exitK_code ?_ | refine exitK_hit ?_ | refine exitK_miss rfl ?_ | refine exitK_inLoop ?_ | refine wk_cond ?_ | refine wk_ret ?_ | refine wk_nil ?_ | refine wo_dst rfl (opR_pick ?_) | refine wo_guard rfl rfl ?_ | refine wo_guardn rfl ?_ | refine wo_dst rfl (opR_pure ?_) | refine wo_nodst (opR_pure ?_)
    | refine give_ret ?_ | refine give_end ?_)
        exact ⟨by rw [checkE, if_neg h16, if_neg hN, if_neg (fun h => h.1 hne)], rfl⟩
      · have hpos := List.length_pos_iff.2 hne
        have y0 : (l.length : Int) > 0 := by omega
        obtain ⟨b, off, cs, rw', rfl, hb, hgb, hat⟩ := hv hne
        obtain ⟨m, hm⟩ : ∃ m, l.length = m + 1 := ⟨l.length - 1, by omega⟩
        have l1 : m < l.length := by omega
        have a0 := at_cut1 _ _ _ (hat 0 hpos)
        have a1 := at_cut1 _ _ _ (hat m l1)
        rw [Nat.mul_one] at a1
        rw [Nat.zero_mul, Nat.add_zero] at a0
        have e1 : ((l.length : Int) - 1) = (m : Int) := by omega
        have e2 : l.length - 1 = m := by omega
        have g0 : l[0]? = some l[0] := List.getElem?_eq_getElem hpos
        have g1 : l[l.length - 1]? = some l[m] := by rw [e2]; exact List.getElem?_eq_getElem l1
        by_cases z0 : l[0] = 0
        · repeat' (first
    | ((with_reducible first | refine optP_id ?_ | refine condP_id ?_ | refine condO_id ?_ | refine resP_id ?_); conv => { arg 1; simp (disch := first | assumption | omega) only [push_cast, ↓reduceIte, reduceIte, Nat.reduceEqDiff, Nat.reduceAdd, Nat.reduceSub, Nat.reduceMul, Nat.reduceBEq, Int.reduceNeg, e0, e3, hgb, a0, Nat.mul_one, e1] }; first | ((with_reducible refine optP_id ?_); refine optP_some ?_) | ((with_reducible refine condP_id ?_); first | refine qcy ?_ | refine qcx ?_ | refine qco ?_ | refine condP_decn (fun hc => ?_) (fun hc => ?_) | refine condP_dec (fun hc => ?_) (fun hc => ?_) | refine qct ?_ | refine qcf ?_ | refine condP_bool (fun hc => ?_) (fun hc => ?_)) | ((with_reducible refine condO_id ?_); refine condO_some ?_) | ((with_reducible refine resP_id ?_); refine resP_one ?_))
    | refine wk_seq ?_ | refine wk_region ?_ | refine wk_block ?_ | refine wk_inBlock ?_ | refine wk_skip ?_ | refine wo_nil ?_ | refine wk_exit ?_ | refine exitK_code ?_ | refine exitK_hit ?_ | refine exitK_miss rfl ?_ | refine exitK_inLoop ?_ | refine wk_cond ?_ | refine wk_ret ?_ | refine wk_nil ?_ | refine wo_dst rfl (opR_pick ?_) | refine wo_guard rfl rfl ?_ | refine wo_guardn rfl ?_ | refine wo_dst rfl (opR_pure ?_) | refine wo_nodst (opR_pure ?_)
    | refine give_ret ?_ | refine give_end ?_)
          exact ⟨by rw [checkE, if_neg h16, if_neg hN, if_pos ⟨hne, .inl (by rw [g0, z0])⟩], rfl⟩
        · by_cases z1 : l[m] = 0
          · repeat' (first
    | ((with_reducible first | refine optP_id ?_ | refine condP_id ?_ | refine condO_id ?_ | refine resP_id ?_); conv => { arg 1; simp (disch := first | assumption | omega) only [push_cast, ↓reduceIte, reduceIte, Nat.reduceEqDiff, Nat.reduceAdd, Nat.reduceSub, Nat.reduceMul, Nat.reduceBEq, Int.reduceNeg, e0, e3, hgb, a0, a1, Nat.mul_one, e1] }; first | ((with_reducible refine optP_id ?_); refine optP_some ?_) | ((with_reducible refine condP_id ?_); first | refine qcy ?_ | refine qcx ?_ | refine qco ?_ | refine condP_decn (fun hc => ?_) (fun hc => ?_) | refine condP_dec (fun hc => ?_) (fun hc => ?_) | refine qct ?_ | refine qcf ?_ | refine condP_bool (fun hc => ?_) (fun hc => ?_)) | ((with_reducible refine condO_id ?_); refine condO_some ?_) | ((with_reducible refine resP_id ?_); refine resP_one ?_))
    | refine wk_seq ?_ | refine wk_region ?_ | refine wk_block ?_ | refine wk_inBlock ?_ | refine wk_skip ?_ | refine wo_nil ?_ | refine wk_exit ?_ | refine exitK_code ?_ | refine exitK_hit ?_ | refine exitK_miss rfl ?_ | refine exitK_inLoop ?_ | refine wk_cond ?_ | refine wk_ret ?_ | refine wk_nil ?_ | refine wo_dst rfl (opR_pick ?_) | refine wo_guard rfl rfl ?_ | refine wo_guardn rfl ?_ | refine wo_dst rfl (opR_pure ?_) | refine wo_nodst (opR_pure ?_)
    | refine give_ret ?_ | refine give_end ?_)
            exact ⟨by rw [checkE, if_neg h16, if_neg hN, if_pos ⟨hne, .inr (by rw [g1, z1])⟩], rfl⟩
          · repeat' (first
    | ((with_reducible first | refine optP_id ?_ | refine condP_id ?_ | refine condO_id ?_ | refine resP_id ?_); conv => { arg 1; simp (disch := first | assumption | omega) only [push_cast, ↓reduceIte, reduceIte, Nat.reduceEqDiff, Nat.reduceAdd, Nat.reduceSub, Nat.reduceMul, Nat.reduceBEq, Int.reduceNeg, e0, e3, hgb, a0, a1, Nat.mul_one, e1] }; first | ((with_reducible refine optP_id ?_); refine optP_some ?_) | ((with_reducible refine condP_id ?_); first | refine qcy ?_ | refine qcx ?_ | refine qco ?_ | refine condP_decn (fun hc => ?_) (fun hc => ?_) | refine condP_dec (fun hc => ?_) (fun hc => ?_) | refine qct ?_ | refine qcf ?_ | refine condP_bool (fun hc => ?_) (fun hc => ?_)) | ((with_reducible refine condO_id ?_); refine condO_some ?_) | ((with_reducible refine resP_id ?_); refine resP_one ?_))
    | refine wk_seq ?_ | refine wk_region ?_ | refine wk_block ?_ | refine wk_inBlock ?_ | refine wk_skip ?_ | refine wo_nil ?_ | refine wk_exit ?_ | refine exitK_code ?_ | refine exitK_hit ?_ | refine exitK_miss rfl ?_ | refine exitK_inLoop ?_ | refine wk_cond ?_ | refine wk_ret ?_ | refine wk_nil ?_ | refine wo_dst rfl (opR_pick ?_) | refine wo_guard rfl rfl ?_ | refine wo_guardn rfl ?_ | refine wo_dst rfl (opR_pure ?_) | refine wo_nodst (opR_pure ?_)
    | refine give_ret ?_ | refine give_end ?_)
            exact ⟨by rw [checkE, if_neg h16, if_neg hN, if_neg (fun h => h.2.elim (fun h => by rw [g0] at h; exact z0 (Option.some.inj h)) (fun h => by rw [g1] at h; exact z1 (Option.some.inj h)))], rfl⟩
/-- without a 0 at the end -/
def noEnd (l : List Int) : Prop := l = [] ∨ l[l.length - 1]? ≠ some 0
theorem leN_take0 {l : List Int} {m : Nat} (hm : l.length = m + 1) (h0 : l[m]? = some 0) : leN (l.take m) = leN l := by
  have hlt : m < l.length := by omega
  have := leN_take hlt
  rw [List.take_of_length_le (by omega)] at this
  rw [List.getElem?_eq_getElem hlt] at h0
  rw [this, Option.some.inj h0]
  simp
set_option maxRecDepth 100000 in
set_option maxHeartbeats 8000000 in
theorem trim_w (l : List Int) (hd : digs l) (v : Value) (h : AHeap) (hv : IIn h v l) (hl : l.length ≤ 1000) :
    Wc pr (.func 120) [v] h fun r h' => (∃ m a c, r = .slice a m.length c ∧ IIn h (.slice a m.length c) m ∧ digs m ∧ noEnd m ∧ leN m = leN l ∧ m.length ≤ l.length ∧ (noEnd l → m = l)) ∧ h = h' := by
  obtain ⟨a, c, rfl, _⟩ := id hv
  refine wc_func Tryz.func120 rfl rfl rfl rfl ?_
  repeat' (first
    | ((with_reducible first | refine optP_id ?_ | refine condP_id ?_ | refine condO_id ?_ | refine resP_id ?_); conv => { arg 1; simp (disch := first | assumption | omega) only [push_cast, ↓reduceIte, reduceIte, Nat.reduceEqDiff, Nat.reduceAdd, Nat.reduceSub, Nat.reduceMul, Nat.reduceBEq, Int.reduceNeg] }; first | ((with_reducible refine optP_id ?_); refine optP_some ?_) | ((with_reducible refine condP_id ?_); first | refine qcy ?_ | refine qcx ?_ | refine qco ?_ | refine condP_decn (fun hc => ?_) (fun hc => ?_) | refine condP_dec (fun hc => ?_) (fun hc => ?_) | refine qct ?_ | refine qcf ?_ | refine condP_bool (fun hc => ?_) (fun hc => ?_)) | ((with_reducible refine condO_id ?_); refine condO_some ?_) | ((with_reducible refine resP_id ?_); refine resP_one ?_))
    | refine wk_seq ?_ | refine wk_region ?_ | refine wk_block ?_ | refine wk_inBlock ?_ | refine wk_skip ?_ | refine wo_nil ?_ | refine wk_exit ?_ | refine exitK_code ?_ | refine exitK_hit ?_ | refine exitK_miss rfl ?_ | refine exitK_inLoop ?_ | refine wk_cond ?_ | refine wk_ret ?_ | refine wk_nil ?_ | refine wo_dst rfl (opR_pick ?_) | refine wo_guard rfl rfl ?_ | refine wo_guardn rfl ?_ | refine wo_dst rfl (opR_pure ?_) | refine wo_nodst (opR_pure ?_)
    | refine give_ret ?_ | refine give_end ?_)
  refine wk_loop (fun n E H => ∃ (m : List Int) (a : Option Addr) (c : Nat), n = m.length ∧ h = H ∧ IIn h (.slice a m.length c) m ∧ digs m ∧ leN m = leN l ∧ m.length ≤ l.length ∧ (noEnd l → m = l) ∧ E.look 0 top = .slice a m.length c) l.length
    ⟨l, a, c, rfl, rfl, hv, hd, rfl, Nat.le_refl _, fun _ => rfl, by simp (disch := first | assumption | omega) only [push_cast, ↓reduceIte, reduceIte, Nat.reduceEqDiff, Nat.reduceAdd, Nat.reduceSub, Nat.reduceMul, Nat.reduceBEq, Int.reduceNeg]⟩ ?_
  rintro n E _ ⟨m, a, c, rfl, rfl, im, dm, vm, lm, hme, e0⟩ next
  by_cases hne : m = []
  · have n0 : ¬ (m.length : Int) > 0 := by rw [hne]; decide
    repeat' (first
    | ((with_reducible first | refine optP_id ?_ | refine condP_id ?_ | refine condO_id ?_ | refine resP_id ?_); conv => { arg 1; simp (disch := first | assumption | omega) only [push_cast, ↓reduceIte, reduceIte, Nat.reduceEqDiff, Nat.reduceAdd, Nat.reduceSub, Nat.reduceMul, Nat.reduceBEq, Int.reduceNeg, e0] }; first | ((with_reducible refine optP_id ?_); refine optP_some ?_) | ((with_reducible refine condP_id ?_); first | refine qcy ?_ | refine qcx ?_ | refine qco ?_ | refine condP_decn (fun hc => ?_) (fun hc => ?_) | refine condP_dec (fun hc => ?_) (fun hc => ?_) | refine qct ?_ | refine qcf ?_ | refine condP_bool (fun hc => ?_) (fun hc => ?_)) | ((with_reducible refine condO_id ?_); refine condO_some ?_) | ((with_reducible refine resP_id ?_); refine resP_one ?_))
    | refine wk_seq ?_ | refine wk_region ?_ | refine wk_block ?_ | refine wk_inBlock ?_ | refine wk_skip ?_ | refine wo_nil ?_ | refine wk_exit ?_ | refine exitK_code ?_ | refine exitK_hit ?_ | refine exitK_miss rfl ?_ | refine exitK_inLoop ?_ | refine wk_cond ?_ | refine wk_ret ?_ | refine wk_nil ?_ | refine wo_dst rfl (opR_pick ?_) | refine wo_guard rfl rfl ?_ | refine wo_guardn rfl ?_ | refine wo_dst rfl (opR_pure ?_) | refine wo_nodst (opR_pure ?_)
    | refine give_ret ?_ | refine give_end ?_)
    exact ⟨⟨m, a, c, rfl, im, dm, .inl hne, vm, lm, hme⟩, rfl⟩
  · have hpos := List.length_pos_iff.2 hne
    have y0 : (m.length : Int) > 0 := by omega
    obtain ⟨k, hk⟩ : ∃ k, m.length = k + 1 := ⟨m.length - 1, by omega⟩
    have l1 : k < m.length := by omega
    have e1 : ((m.length : Int) - 1) = (k : Int) := by omega
    have e2 : m.length - 1 = k := by omega
    obtain ⟨v4, hsl, hin4⟩ := slice_to im (j := k) (by omega)
    obtain ⟨a4, c4, rfl, q1, q2⟩ := hin4
    have hin4 : IIn h (.slice a4 (m.take k).length c4) (m.take k) := ⟨a4, c4, rfl, q1, q2⟩
    have im' := im
    obtain ⟨_, _, e3, _, hv3⟩ := im
    cases e3
    obtain ⟨b3, off3, cs3, rw3, rfl, hb3, hgb3, hat3⟩ := hv3 hne
    have a1 := at_cut1 _ _ _ (hat3 k l1)
    rw [Nat.mul_one] at a1
    have g1 : m[m.length - 1]? = some m[k] := by rw [e2]; exact List.getElem?_eq_getElem l1
    by_cases z1 : m[k] = 0
    · repeat' (first
    | ((with_reducible first | refine optP_id ?_ | refine condP_id ?_ | refine condO_id ?_ | refine resP_id ?_); conv => { arg 1; simp (disch := first | assumption | omega) only [push_cast, ↓reduceIte, reduceIte, Nat.reduceEqDiff, Nat.reduceAdd, Nat.reduceSub, Nat.reduceMul, Nat.reduceBEq, Int.reduceNeg, e0, hgb3, a1, Nat.mul_one, e1] }; first | ((with_reducible refine optP_id ?_); refine optP_some ?_) | ((with_reducible refine condP_id ?_); first | refine qcy ?_ | refine qcx ?_ | refine qco ?_ | refine condP_decn (fun hc => ?_) (fun hc => ?_) | refine condP_dec (fun hc => ?_) (fun hc => ?_) | refine qct ?_ | refine qcf ?_ | refine condP_bool (fun hc => ?_) (fun hc => ?_)) | ((with_reducible refine condO_id ?_); refine condO_some ?_) | ((with_reducible refine resP_id ?_); refine resP_one ?_))
    | refine wk_seq ?_ | refine wk_region ?_ | refine wk_block ?_ | refine wk_inBlock ?_ | refine wk_skip ?_ | refine wo_nil ?_ | refine wk_exit ?_ | refine exitK_code ?_ | refine exitK_hit ?_ | refine exitK_miss rfl ?_ | refine exitK_inLoop ?_ | refine wk_cond ?_ | refine wk_ret ?_ | refine wk_nil ?_ | refine wo_dst rfl (opR_pick ?_) | refine wo_guard rfl rfl ?_ | refine wo_guardn rfl ?_ | refine wo_dst rfl (opR_pure ?_) | refine wo_nodst (opR_pure ?_)
    | refine give_ret ?_ | refine give_end ?_)
      conv => { arg 1; simp (disch := first | assumption | omega) only [push_cast, ↓reduceIte, reduceIte, Nat.reduceEqDiff, Nat.reduceAdd, Nat.reduceSub, Nat.reduceMul, Nat.reduceBEq, Int.reduceNeg, sl22] }
      rw [hsl]
      refine optP_some ?_
      repeat' (first
    | ((with_reducible first | refine optP_id ?_ | refine condP_id ?_ | refine condO_id ?_ | refine resP_id ?_); conv => { arg 1; simp (disch := first | assumption | omega) only [push_cast, ↓reduceIte, reduceIte, Nat.reduceEqDiff, Nat.reduceAdd, Nat.reduceSub, Nat.reduceMul, Nat.reduceBEq, Int.reduceNeg, e0] }; first | ((with_reducible refine optP_id ?_); refine optP_some ?_) | ((with_reducible refine condP_id ?_); first | refine qcy ?_ | refine qcx ?_ | refine qco ?_ | refine condP_decn (fun hc => ?_) (fun hc => ?_) | refine condP_dec (fun hc => ?_) (fun hc => ?_) | refine qct ?_ | refine qcf ?_ | refine condP_bool (fun hc => ?_) (fun hc => ?_)) | ((with_reducible refine condO_id ?_); refine condO_some ?_) | ((with_reducible refine resP_id ?_); refine resP_one ?_))
    | refine wk_seq ?_ | refine wk_region ?_ | refine wk_block ?_ | refine wk_inBlock ?_ | refine wk_skip ?_ | refine wo_nil ?_ | refine wk_exit ?_ | refine exitK_code ?_ | refine exitK_hit ?_ | refine exitK_miss rfl ?_ | refine exitK_inLoop ?_ | refine wk_cond ?_ | refine wk_ret ?_ | refine wk_nil ?_ | refine wo_dst rfl (opR_pick ?_) | refine wo_guard rfl rfl ?_ | refine wo_guardn rfl ?_ | refine wo_dst rfl (opR_pure ?_) | refine wo_nodst (opR_pure ?_)
    | refine give_ret ?_ | refine give_end ?_)
      refine next (m.take k).length _ _ (by rw [List.length_take]; omega) ⟨m.take k, a4, c4, rfl, rfl, hin4, digs_take dm k, ?_, by rw [List.length_take]; omega, fun hh => ?_, by simp (disch := first | assumption | omega) only [push_cast, ↓reduceIte, reduceIte, Nat.reduceEqDiff, Nat.reduceAdd, Nat.reduceSub, Nat.reduceMul, Nat.reduceBEq, Int.reduceNeg]⟩
      · rw [leN_take0 hk (by rw [List.getElem?_eq_getElem l1, z1]), vm]
      · rcases hh with hh | hh
        · have := hme (.inl hh)
          exact absurd (by rw [this, hh]) hne
        · have hm2 := hme (.inr hh)
          rw [← hm2] at hh
          exact absurd (by rw [g1, z1]) hh
    · repeat' (first
    | ((with_reducible first | refine optP_id ?_ | refine condP_id ?_ | refine condO_id ?_ | refine resP_id ?_); conv => { arg 1; simp (disch := first | assumption | omega) only [push_cast, ↓reduceIte, reduceIte, Nat.reduceEqDiff, Nat.reduceAdd, Nat.reduceSub, Nat.reduceMul, Nat.reduceBEq, Int.reduceNeg, e0, hgb3, a1, Nat.mul_one, e1] }; first | ((with_reducible refine optP_id ?_); refine optP_some ?_) | ((with_reducible refine condP_id ?_); first | refine qcy ?_ | refine qcx ?_ | refine qco ?_ | refine condP_decn (fun hc => ?_) (fun hc => ?_) | refine condP_dec (fun hc => ?_) (fun hc => ?_) | refine qct ?_ | refine qcf ?_ | refine condP_bool (fun hc => ?_) (fun hc => ?_)) | ((with_reducible refine condO_id ?_); refine condO_some ?_) | ((with_reducible refine resP_id ?_); refine resP_one ?_))
    | refine wk_seq ?_ | refine wk_region ?_ | refine wk_block ?_ | refine wk_inBlock ?_ | refine wk_skip ?_ | refine wo_nil ?_ | refine wk_exit ?_ | refine exitK_code ?_ | refine exitK_hit ?_ | refine exitK_miss rfl ?_ | refine exitK_inLoop ?_ | refine wk_cond ?_ | refine wk_ret ?_ | refine wk_nil ?_ | refine wo_dst rfl (opR_pick ?_) | refine wo_guard rfl rfl ?_ | refine wo_guardn rfl ?_ | refine wo_dst rfl (opR_pure ?_) | refine wo_nodst (opR_pure ?_)
    | refine give_ret ?_ | refine give_end ?_)
      exact ⟨⟨m, _, c, rfl, im', dm, .inr (fun hh => z1 (by rw [g1] at hh; exact Option.some.inj hh)), vm, lm, hme⟩, rfl⟩
end Go.Proofs.YtelepfablohdmaaGreatDoor
/- Contracts of the reference: big, digits. -/
namespace Go.Proofs.YtelepfablohdmaaGreatDoor
open Go.Ev
theorem leN_rev : ∀ l : List Int, leN l.reverse = valN l
  | [] => rfl
  | d :: t => by
    rw [List.reverse_cons, leN_app, leN_rev t, List.length_reverse, valN]
    simp only [leN]
    rw [Nat.mul_zero, Nat.add_zero, Nat.mul_comm, Nat.add_comm]
theorem rdrop_step {l : List Int} {k : Nat} (hk : k < l.length) : (l.drop k).reverse = (l.drop (k + 1)).reverse ++ [l[k]] := by
  rw [List.drop_eq_getElem_cons hk, List.reverse_cons]
theorem rdrop_top (l : List Int) : (l.drop l.length).reverse = [] := by simp
theorem digs_rdrop {l : List Int} (h : digs l) (k : Nat) : digs (l.drop k).reverse := fun x hx => h x (List.mem_of_mem_drop (List.mem_reverse.1 hx))
def OwnI (base : Nat) (H : AHeap) (L : List Int) (b : Nat) : Prop := L ≠ [] → base ≤ b ∧ b < H.next ∧ H.get b = some (.cells (flatE encI L) 3 true)
theorem own_base {base : Nat} {H : AHeap} {L : List Int} {b b' o' : Nat} {q' : Option Nat} (h : OwnI base H L b) (e : ownB L b = some ⟨b', o', q'⟩) : base ≤ b' := by
  cases L with
  | nil => cases e
  | cons x L =>
    have e2 : some (⟨b, 0, none⟩ : Addr) = some ⟨b', o', q'⟩ := e
    cases e2
    exact (h (by simp)).1
theorem IIn.set {H : AHeap} {a : Option Addr} {n c q : Nat} {l : List Int} {ob : AObj} (h : IIn H (.slice a n c) l) (hb : ∀ b o s, a = some ⟨b, o, s⟩ → b ≠ q) : IIn (H.set q ob) (.slice a n c) l := by
  obtain ⟨a', c', e, hc, hv⟩ := h
  cases e
  refine ⟨a, c, rfl, hc, fun hne => ?_⟩
  obtain ⟨b, off, all, rw', h1, h2, h3, h4⟩ := hv hne
  refine ⟨b, off, all, rw', h1, by rw [next_set]; exact h2, ?_, h4⟩
  rw [get_set_ne (fun e => hb _ _ _ h1 e.symm)]
  exact h3
theorem OwnI.inn {base : Nat} {H : AHeap} {L : List Int} {b : Nat} (h : OwnI base H L b) (hl : L.length ≤ 100000) : IIn H (.slice (ownB L b) L.length L.length) L :=
  own_in encI_len (by rw [(capLo_small (c := L.length) (by unfold EX; omega)).1]; exact Nat.le_refl _) (fun hn => (h hn).2.1) (fun hn => ⟨true, (h hn).2.2⟩)
theorem low0 : ∀ {l : List Int} {z : Nat}, z ≤ l.length → (∀ j (hj : j < l.length), j < z → l[j] = 0) → leN (l.drop z) * 60 ^ z = leN l
  | l, 0, _, _ => by simp
  | [], z + 1, h, _ => absurd h (Nat.not_succ_le_zero z)
  | d :: t, z + 1, h, h0 => by
    have hd : d = 0 := h0 0 (by simp) (by omega)
    have ih := low0 (l := t) (z := z) (by simpa using h) (fun j hj hjz => by
      have := h0 (j + 1) (by simpa using hj) (by omega)
      simpa using this)
    rw [List.drop_succ_cons, Nat.pow_succ, ← Nat.mul_assoc, ih, leN, hd]
    simp [Nat.mul_comm]
theorem valid_rdrop {l : List Int} {z : Nat} (hd : digs l) (he : noEnd l) (hz : z < l.length) (h0 : l[z]'hz ≠ 0) : valid (l.drop z).reverse := by
  have hlen : (l.drop z).length = l.length - z := List.length_drop
  refine ⟨digs_rdrop hd z, ?_, fun _ => ?_⟩
  · rw [List.getElem?_reverse (by omega), List.getElem?_drop, hlen, show z + (l.length - z - 1 - 0) = l.length - 1 by omega]
    rcases he with h | h
    · rw [h] at hz; exact absurd hz (Nat.not_lt_zero _)
    · exact h
  · rw [List.length_reverse, List.getElem?_reverse (by omega), List.getElem?_drop, hlen, show z + (l.length - z - 1 - (l.length - z - 1)) = z by omega, List.getElem?_eq_getElem hz]
    intro h
    exact h0 (Option.some.inj h)
set_option maxRecDepth 100000 in
set_option maxHeartbeats 8000000 in
theorem rdigits_w (l : List Int) (hd : digs l) (he : noEnd l) (ll : l.length ≤ 1000) (v : Value) (h : AHeap) (hv : IIn h v l) :
    Wc pr (.func 71) [v] h fun r h' => (∃ d a c z, r = .tuple #[.slice a d.length c, .int .i64 ((z : Nat) : Int)] ∧ IIn h' (.slice a d.length c) d ∧ nf (leN l) d ∧ (d ≠ [] → valN d * 60 ^ z = leN l) ∧ z ≤ l.length ∧ (∀ b o q, a = some ⟨b, o, q⟩ → h.next ≤ b)) ∧ Gr h h' := by
  obtain ⟨a, c, rfl, _, hv'⟩ := id hv
  refine wc_func Tryz.func71 rfl rfl rfl rfl ?_
  repeat' (first
    | ((with_reducible first | refine optP_id ?_ | refine condP_id ?_ | refine condO_id ?_ | refine resP_id ?_); conv => { arg 1; simp (disch := first | assumption | omega) only [push_cast, ↓reduceIte, reduceIte, Nat.reduceEqDiff, Nat.reduceAdd, Nat.reduceSub, Nat.reduceMul, Nat.reduceBEq, Int.reduceNeg] }; first | ((with_reducible refine optP_id ?_); refine optP_some ?_) | ((with_reducible refine condP_id ?_); first | refine qcy ?_ | refine qcx ?_ | refine qco ?_ | refine condP_decn (fun hc => ?_) (fun hc => ?_) | refine condP_dec (fun hc => ?_) (fun hc => ?_) | refine qct ?_ | refine qcf ?_ | refine condP_bool (fun hc => ?_) (fun hc => ?_)) | ((with_reducible refine condO_id ?_); refine condO_some ?_) | ((with_reducible refine resP_id ?_); refine resP_two ?_))
    | refine wk_seq ?_ | refine wk_region ?_ | refine wk_block ?_ | refine wk_inBlock ?_ | refine wk_skip ?_ | refine wo_nil ?_ | refine wk_exit ?_ | refine exitK_code ?_ | refine exitK_hit ?_ | refine exitK_miss rfl ?_ | refine exitK_inLoop ?_ | refine wk_cond ?_ | refine wk_ret ?_ | refine wk_nil ?_ | refine wo_dst rfl (opR_pick ?_) | refine wo_guard rfl rfl ?_ | refine wo_guardn rfl ?_ | refine wo_dst rfl (opR_pure ?_) | refine wo_nodst (opR_pure ?_)
    | refine give_ret ?_ | refine give_end ?_)
  refine wk_loop (fun n E H => ∃ z : Nat, n = l.length - z ∧ z ≤ l.length ∧ h = H ∧ (∀ j (hj : j < l.length), j < z → l[j] = 0) ∧ E.look 0 top = .slice a l.length c ∧ E.look 4 top = .int .i64 (z : Int)) l.length
    ⟨0, by omega, by omega, rfl, fun j _ hj => absurd hj (Nat.not_lt_zero j), by simp (disch := first | assumption | omega) only [push_cast, ↓reduceIte, reduceIte, Nat.reduceEqDiff, Nat.reduceAdd, Nat.reduceSub, Nat.reduceMul, Nat.reduceBEq, Int.reduceNeg], by simp (disch := first | assumption | omega) only [push_cast, ↓reduceIte, reduceIte, Nat.reduceEqDiff, Nat.reduceAdd, Nat.reduceSub, Nat.reduceMul, Nat.reduceBEq, Int.reduceNeg, Int.natCast_zero]⟩ ?_
  rintro n E _ ⟨z, rfl, hz, rfl, hall, e0, e4⟩ next
  by_cases hgo : l[z]? = some 0
  · have hlt : z < l.length := by
      rcases Nat.lt_or_ge z l.length with q | q
      · exact q
      · rw [List.getElem?_eq_none q] at hgo; cases hgo
    have ilt : (z : Int) < (l.length : Int) := by omega
    have hz0 : l[z] = 0 := by rw [List.getElem?_eq_getElem hlt] at hgo; exact Option.some.inj hgo
    obtain ⟨bu, offu, allu, rwu, rfl, hbu, hgu, htu⟩ := hv' (by intro h; rw [h] at hlt; exact absurd hlt (Nat.not_lt_zero _))
    have h1 := at_cut1 _ _ _ (htu z hlt)
    rw [Nat.mul_one] at h1
    repeat' (first
    | ((with_reducible first | refine optP_id ?_ | refine condP_id ?_ | refine condO_id ?_ | refine resP_id ?_); conv => { arg 1; simp (disch := first | assumption | omega) only [push_cast, ↓reduceIte, reduceIte, Nat.reduceEqDiff, Nat.reduceAdd, Nat.reduceSub, Nat.reduceMul, Nat.reduceBEq, Int.reduceNeg, e0, e4, hgu, h1, Nat.mul_one] }; first | ((with_reducible refine optP_id ?_); refine optP_some ?_) | ((with_reducible refine condP_id ?_); first | refine qcy ?_ | refine qcx ?_ | refine qco ?_ | refine condP_decn (fun hc => ?_) (fun hc => ?_) | refine condP_dec (fun hc => ?_) (fun hc => ?_) | refine qct ?_ | refine qcf ?_ | refine condP_bool (fun hc => ?_) (fun hc => ?_)) | ((with_reducible refine condO_id ?_); refine condO_some ?_) | ((with_reducible refine resP_id ?_); refine resP_two ?_))
    | refine wk_seq ?_ | refine wk_region ?_ | refine wk_block ?_ | refine wk_inBlock ?_ | refine wk_skip ?_ | refine wo_nil ?_ | refine wk_exit ?_ | refine exitK_code ?_ | refine exitK_hit ?_ | refine exitK_miss rfl ?_ | refine exitK_inLoop ?_ | refine wk_cond ?_ | refine wk_ret ?_ | refine wk_nil ?_ | refine wo_dst rfl (opR_pick ?_) | refine wo_guard rfl rfl ?_ | refine wo_guardn rfl ?_ | refine wo_dst rfl (opR_pure ?_) | refine wo_nodst (opR_pure ?_)
    | refine give_ret ?_ | refine give_end ?_)
    exact next (l.length - (z + 1)) _ _ (by omega) ⟨z + 1, rfl, by omega, rfl, fun j hj hj2 => if e : j = z then by subst e; exact hz0 else hall j hj (by omega), by simp (disch := first | assumption | omega) only [push_cast, ↓reduceIte, reduceIte, Nat.reduceEqDiff, Nat.reduceAdd, Nat.reduceSub, Nat.reduceMul, Nat.reduceBEq, Int.reduceNeg, e0], by simp (disch := first | assumption | omega) only [push_cast, ↓reduceIte, reduceIte, Nat.reduceEqDiff, Nat.reduceAdd, Nat.reduceSub, Nat.reduceMul, Nat.reduceBEq, Int.reduceNeg, Int.natCast_add, Int.natCast_one]⟩
  · have hnf : nf (leN l) (l.drop z).reverse := by
      have hlow := low0 hz hall
      by_cases hlt : z < l.length
      · have h0 : l[z] ≠ 0 := fun hh => hgo (by rw [List.getElem?_eq_getElem hlt, hh])
        have hvd := valid_rdrop hd he hlt h0
        have hne : (l.drop z).reverse ≠ [] := fun hh => by
          have := congrArg List.length hh
          rw [List.length_reverse, List.length_drop] at this
          simp at this; omega
        have hval : valN (l.drop z).reverse = leN (l.drop z) := by rw [← leN_rev, List.reverse_reverse]
        refine ⟨hvd, ⟨fun hh => absurd hh hne, fun hh => ?_⟩, z, by rw [hval, hlow]⟩
        have hp := valN_pos hvd hne
        rw [hval] at hp
        have := Nat.mul_pos hp (pow60_pos z)
        omega
      · obtain rfl : z = l.length := by omega
        rw [rdrop_top]
        rw [List.drop_length] at hlow
        have : leN l = 0 := by rw [← hlow]; simp [leN]
        exact ⟨valid_nil, ⟨fun _ => this, fun _ => rfl⟩, 0, by rw [this]; rfl⟩
    have hzv : valN (l.drop z).reverse * 60 ^ z = leN l := by rw [← leN_rev, List.reverse_reverse]; exact low0 hz hall
    by_cases hlt : z < l.length
    case' pos =>
      have ilt : (z : Int) < (l.length : Int) := by omega
      have hz0 : ¬ l[z] = 0 := fun hh => hgo (by rw [List.getElem?_eq_getElem hlt, hh])
      obtain ⟨bu, offu, allu, rwu, hau, hbu, hgu, htu⟩ := hv' (by intro h; rw [h] at hlt; exact absurd hlt (Nat.not_lt_zero _))
      have h1 := at_cut1 _ _ _ (htu z hlt)
      rw [Nat.mul_one] at h1
      have e0' : E.look 0 top = .slice (some ⟨bu, offu, none⟩) l.length c := by rw [e0, hau]
      repeat' (first
    | ((with_reducible first | refine optP_id ?_ | refine condP_id ?_ | refine condO_id ?_ | refine resP_id ?_); conv => { arg 1; simp (disch := first | assumption | omega) only [push_cast, ↓reduceIte, reduceIte, Nat.reduceEqDiff, Nat.reduceAdd, Nat.reduceSub, Nat.reduceMul, Nat.reduceBEq, Int.reduceNeg, e0', e4, hgu, h1, Nat.mul_one] }; first | ((with_reducible refine optP_id ?_); refine optP_some ?_) | ((with_reducible refine condP_id ?_); first | refine qcy ?_ | refine qcx ?_ | refine qco ?_ | refine condP_decn (fun hc => ?_) (fun hc => ?_) | refine condP_dec (fun hc => ?_) (fun hc => ?_) | refine qct ?_ | refine qcf ?_ | refine condP_bool (fun hc => ?_) (fun hc => ?_)) | ((with_reducible refine condO_id ?_); refine condO_some ?_) | ((with_reducible refine resP_id ?_); refine resP_two ?_))
    | refine wk_seq ?_ | refine wk_region ?_ | refine wk_block ?_ | refine wk_inBlock ?_ | refine wk_skip ?_ | refine wo_nil ?_ | refine wk_exit ?_ | refine exitK_code ?_ | refine exitK_hit ?_ | refine exitK_miss rfl ?_ | refine exitK_inLoop ?_ | refine wk_cond ?_ | refine wk_ret ?_ | refine wk_nil ?_ | refine wo_dst rfl (opR_pick ?_) | refine wo_guard rfl rfl ?_ | refine wo_guardn rfl ?_ | refine wo_dst rfl (opR_pure ?_) | refine wo_nodst (opR_pure ?_)
    | refine give_ret ?_ | refine give_end ?_)
    case' neg =>
      have ilt : ¬ (z : Int) < (l.length : Int) := by omega
      repeat' (first
    | ((with_reducible first | refine optP_id ?_ | refine condP_id ?_ | refine condO_id ?_ | refine resP_id ?_); conv => { arg 1; simp (disch := first | assumption | omega) only [push_cast, ↓reduceIte, reduceIte, Nat.reduceEqDiff, Nat.reduceAdd, Nat.reduceSub, Nat.reduceMul, Nat.reduceBEq, Int.reduceNeg, e0, e4] }; first | ((with_reducible refine optP_id ?_); refine optP_some ?_) | ((with_reducible refine condP_id ?_); first | refine qcy ?_ | refine qcx ?_ | refine qco ?_ | refine condP_decn (fun hc => ?_) (fun hc => ?_) | refine condP_dec (fun hc => ?_) (fun hc => ?_) | refine qct ?_ | refine qcf ?_ | refine condP_bool (fun hc => ?_) (fun hc => ?_)) | ((with_reducible refine condO_id ?_); refine condO_some ?_) | ((with_reducible refine resP_id ?_); refine resP_two ?_))
    | refine wk_seq ?_ | refine wk_region ?_ | refine wk_block ?_ | refine wk_inBlock ?_ | refine wk_skip ?_ | refine wo_nil ?_ | refine wk_exit ?_ | refine exitK_code ?_ | refine exitK_hit ?_ | refine exitK_miss rfl ?_ | refine exitK_inLoop ?_ | refine wk_cond ?_ | refine wk_ret ?_ | refine wk_nil ?_ | refine wo_dst rfl (opR_pick ?_) | refine wo_guard rfl rfl ?_ | refine wo_guardn rfl ?_ | refine wo_dst rfl (opR_pure ?_) | refine wo_nodst (opR_pure ?_)
    | refine give_ret ?_ | refine give_end ?_)
    all_goals
      refine wk_loop (fun n E H => ∃ (k b : Nat), n = k - z ∧ z ≤ k ∧ k ≤ l.length ∧ OwnI h.next H (l.drop k).reverse b ∧ Gr h H ∧ E.look 0 top = .slice a l.length c ∧ E.look 4 top = .int .i64 (z : Int) ∧ E.look 5 top = .slice (ownB (l.drop k).reverse b) (l.drop k).reverse.length (l.drop k).reverse.length ∧ E.look 6 top = .int .i64 ((k : Int) - 1)) (l.length - z)
        ⟨l.length, 0, rfl, hz, Nat.le_refl _, fun hn => absurd (rdrop_top l) hn, by (repeat (first | exact Gr.refl _ | assumption | (refine Gr.trans ?_ (by assumption)) | refine Gr.set ?_ (by first | exact Nat.le_refl _ | omega | (simp only [next_new, next_set]; omega)) _ | refine Gr.new ?_ _)), by simp (disch := first | assumption | omega) only [push_cast, ↓reduceIte, reduceIte, Nat.reduceEqDiff, Nat.reduceAdd, Nat.reduceSub, Nat.reduceMul, Nat.reduceBEq, Int.reduceNeg, e0], by simp (disch := first | assumption | omega) only [push_cast, ↓reduceIte, reduceIte, Nat.reduceEqDiff, Nat.reduceAdd, Nat.reduceSub, Nat.reduceMul, Nat.reduceBEq, Int.reduceNeg, e4], by rw [rdrop_top]; simp (disch := first | assumption | omega) only [push_cast, ↓reduceIte, reduceIte, Nat.reduceEqDiff, Nat.reduceAdd, Nat.reduceSub, Nat.reduceMul, Nat.reduceBEq, Int.reduceNeg, ownB_nil, List.length_nil], by simp (disch := first | assumption | omega) only [push_cast, ↓reduceIte, reduceIte, Nat.reduceEqDiff, Nat.reduceAdd, Nat.reduceSub, Nat.reduceMul, Nat.reduceBEq, Int.reduceNeg]⟩ ?_
      rintro n2 E2 H ⟨k, b, rfl, hzk, hk, hown, gr, f0, f4, f5, f6⟩ next2
      have gn := gr.1
      by_cases hkz : k = z
      · subst hkz
        have n0 : ¬ (((k : Int) - 1) ≥ (k : Int)) := by omega
        repeat' (first
    | ((with_reducible first | refine optP_id ?_ | refine condP_id ?_ | refine condO_id ?_ | refine resP_id ?_); conv => { arg 1; simp (disch := first | assumption | omega) only [push_cast, ↓reduceIte, reduceIte, Nat.reduceEqDiff, Nat.reduceAdd, Nat.reduceSub, Nat.reduceMul, Nat.reduceBEq, Int.reduceNeg, f0, f4, f5, f6] }; first | ((with_reducible refine optP_id ?_); refine optP_some ?_) | ((with_reducible refine condP_id ?_); first | refine qcy ?_ | refine qcx ?_ | refine qco ?_ | refine condP_decn (fun hc => ?_) (fun hc => ?_) | refine condP_dec (fun hc => ?_) (fun hc => ?_) | refine qct ?_ | refine qcf ?_ | refine condP_bool (fun hc => ?_) (fun hc => ?_)) | ((with_reducible refine condO_id ?_); refine condO_some ?_) | ((with_reducible refine resP_id ?_); refine resP_two ?_))
    | refine wk_seq ?_ | refine wk_region ?_ | refine wk_block ?_ | refine wk_inBlock ?_ | refine wk_skip ?_ | refine wo_nil ?_ | refine wk_exit ?_ | refine exitK_code ?_ | refine exitK_hit ?_ | refine exitK_miss rfl ?_ | refine exitK_inLoop ?_ | refine wk_cond ?_ | refine wk_ret ?_ | refine wk_nil ?_ | refine wo_dst rfl (opR_pick ?_) | refine wo_guard rfl rfl ?_ | refine wo_guardn rfl ?_ | refine wo_dst rfl (opR_pure ?_) | refine wo_nodst (opR_pure ?_)
    | refine give_ret ?_ | refine give_end ?_)
        exact ⟨⟨_, _, _, k, rfl, OwnI.inn hown (by rw [List.length_reverse, List.length_drop]; omega), hnf, fun _ => hzv, hk, fun b' o' q' hh => own_base hown hh⟩, gr⟩
      · obtain ⟨j, rfl⟩ : ∃ j, k = j + 1 := ⟨k - 1, by omega⟩
        have ej : (((j + 1 : Nat) : Int) - 1) = (j : Int) := by omega
        rw [ej] at f6
        have hj : j < l.length := by omega
        have j0 : (j : Int) ≥ (z : Int) := by omega
        have hlen : (l.drop (j + 1)).reverse.length ≤ 1000 := by rw [List.length_reverse, List.length_drop]; omega
        have hst := rdrop_step hj
        obtain ⟨bv, offv, allv, rwv, hav, hbv, hgv, htv⟩ := hv' (by intro h; rw [h] at hj; exact absurd hj (Nat.not_lt_zero _))
        have hgvH : H.get bv = some (.cells allv 3 rwv) := by rw [gr.2 bv hbv]; exact hgv
        have h1 := at_cut1 _ _ _ (htv j hj)
        rw [Nat.mul_one] at h1
        have f0' : E2.look 0 top = .slice (some ⟨bv, offv, none⟩) l.length c := by rw [f0, hav]
        generalize l[j] = x at *
        generalize (l.drop (j + 1)).reverse = L at *
        repeat' (first
    | ((with_reducible first | refine optP_id ?_ | refine condP_id ?_ | refine condO_id ?_ | refine resP_id ?_); conv => { arg 1; simp (disch := first | assumption | omega) only [push_cast, ↓reduceIte, reduceIte, Nat.reduceEqDiff, Nat.reduceAdd, Nat.reduceSub, Nat.reduceMul, Nat.reduceBEq, Int.reduceNeg, f0', f4, f5, f6, hgvH, h1, Nat.mul_one] }; first | ((with_reducible refine optP_id ?_); refine optP_some ?_) | ((with_reducible refine condP_id ?_); first | refine qcy ?_ | refine qcx ?_ | refine qco ?_ | refine condP_decn (fun hc => ?_) (fun hc => ?_) | refine condP_dec (fun hc => ?_) (fun hc => ?_) | refine qct ?_ | refine qcf ?_ | refine condP_bool (fun hc => ?_) (fun hc => ?_)) | ((with_reducible refine condO_id ?_); refine condO_some ?_) | ((with_reducible refine resP_id ?_); refine resP_two ?_))
    | refine wk_seq ?_ | refine wk_region ?_ | refine wk_block ?_ | refine wk_inBlock ?_ | refine wk_skip ?_ | refine wo_nil ?_ | refine wk_exit ?_ | refine exitK_code ?_ | refine exitK_hit ?_ | refine exitK_miss rfl ?_ | refine exitK_inLoop ?_ | refine wk_cond ?_ | refine wk_ret ?_ | refine wk_nil ?_ | refine wo_dst rfl (opR_pick ?_) | refine wo_guard rfl rfl ?_ | refine wo_guardn rfl ?_ | refine wo_dst rfl (opR_pure ?_) | refine wo_nodst (opR_pure ?_)
    | refine give_ret ?_ | refine give_end ?_)
        conv => { arg 1; simp (disch := first | assumption | omega) only [push_cast, ↓reduceIte, reduceIte, Nat.reduceEqDiff, Nat.reduceAdd, Nat.reduceSub, Nat.reduceMul, Nat.reduceBEq, Int.reduceNeg, ap22] }
        refine optP_one (x := x) (e' := 3) (rw' := true) encI_len (fun _ => rfl) (by omega) (by omega) (fun hn => by obtain ⟨q0, q1, q2⟩ := hown hn; simp (disch := first | assumption | omega) only [push_cast, ↓reduceIte, reduceIte, Nat.reduceEqDiff, Nat.reduceAdd, Nat.reduceSub, Nat.reduceMul, Nat.reduceBEq, Int.reduceNeg]; exact q2) (by unfold encI; simp (disch := first | assumption | omega) only [push_cast, ↓reduceIte, reduceIte, Nat.reduceEqDiff, Nat.reduceAdd, Nat.reduceSub, Nat.reduceMul, Nat.reduceBEq, Int.reduceNeg]) ?_
        intro H3 n3 new3 keep3
        simp only [next_new] at n3 new3 keep3
        repeat' (first
    | ((with_reducible first | refine optP_id ?_ | refine condP_id ?_ | refine condO_id ?_ | refine resP_id ?_); conv => { arg 1; simp (disch := first | assumption | omega) only [push_cast, ↓reduceIte, reduceIte, Nat.reduceEqDiff, Nat.reduceAdd, Nat.reduceSub, Nat.reduceMul, Nat.reduceBEq, Int.reduceNeg, f0, f4, f5, f6] }; first | ((with_reducible refine optP_id ?_); refine optP_some ?_) | ((with_reducible refine condP_id ?_); first | refine qcy ?_ | refine qcx ?_ | refine qco ?_ | refine condP_decn (fun hc => ?_) (fun hc => ?_) | refine condP_dec (fun hc => ?_) (fun hc => ?_) | refine qct ?_ | refine qcf ?_ | refine condP_bool (fun hc => ?_) (fun hc => ?_)) | ((with_reducible refine condO_id ?_); refine condO_some ?_) | ((with_reducible refine resP_id ?_); refine resP_two ?_))
    | refine wk_seq ?_ | refine wk_region ?_ | refine wk_block ?_ | refine wk_inBlock ?_ | refine wk_skip ?_ | refine wo_nil ?_ | refine wk_exit ?_ | refine exitK_code ?_ | refine exitK_hit ?_ | refine exitK_miss rfl ?_ | refine exitK_inLoop ?_ | refine wk_cond ?_ | refine wk_ret ?_ | refine wk_nil ?_ | refine wo_dst rfl (opR_pick ?_) | refine wo_guard rfl rfl ?_ | refine wo_guardn rfl ?_ | refine wo_dst rfl (opR_pure ?_) | refine wo_nodst (opR_pure ?_)
    | refine give_ret ?_ | refine give_end ?_)
        refine next2 (j - z) _ _ (by omega) ⟨j, H.next + 1, rfl, by omega, by omega, by rw [hst]; exact fun _ => ⟨by omega, by omega, new3⟩, ⟨by omega, fun c hc => ?_⟩, by simp (disch := first | assumption | omega) only [push_cast, ↓reduceIte, reduceIte, Nat.reduceEqDiff, Nat.reduceAdd, Nat.reduceSub, Nat.reduceMul, Nat.reduceBEq, Int.reduceNeg, f0], by simp (disch := first | assumption | omega) only [push_cast, ↓reduceIte, reduceIte, Nat.reduceEqDiff, Nat.reduceAdd, Nat.reduceSub, Nat.reduceMul, Nat.reduceBEq, Int.reduceNeg, f4], by rw [hst]; simp (disch := first | assumption | omega) only [push_cast, ↓reduceIte, reduceIte, Nat.reduceEqDiff, Nat.reduceAdd, Nat.reduceSub, Nat.reduceMul, Nat.reduceBEq, Int.reduceNeg], by simp (disch := first | assumption | omega) only [push_cast, ↓reduceIte, reduceIte, Nat.reduceEqDiff, Nat.reduceAdd, Nat.reduceSub, Nat.reduceMul, Nat.reduceBEq, Int.reduceNeg]⟩
        rw [keep3 c (by omega) (fun hn => by have := (hown hn).1; omega)]
        simp (disch := first | assumption | omega) only [push_cast, ↓reduceIte, reduceIte, Nat.reduceEqDiff, Nat.reduceAdd, Nat.reduceSub, Nat.reduceMul, Nat.reduceBEq, Int.reduceNeg]
        exact gr.2 c hc
end Go.Proofs.YtelepfablohdmaaGreatDoor
/- Contract of the reference: times. -/
namespace Go.Proofs.YtelepfablohdmaaGreatDoor
open Go.Ev
theorem copies_z : ∀ n : Nat, copies [Value.int .i64 0] n = ints .i64 (List.replicate n 0)
  | 0 => rfl
  | n + 1 => by
    show [Value.int .i64 0] ++ copies [Value.int .i64 0] n = _
    rw [copies_z n, List.replicate_succ]
    rfl
theorem mk22' (n : Nat) : makeSliceA Tryz.prog 22 (.int .i64 (n : Int)) (.int .i64 (n : Int)) = cond (Nat.ble n n && Nat.ble n 1000000 && Nat.ble (n * 8) 1000000000) (some (.cells (copies [.int .i64 0] n) 3 true, fun b => .slice (some ⟨b, 0, none⟩) n (EX + n))) none := by kernel_rfl
theorem mk22 (n : Nat) (hn : n ≤ 1000) : makeSliceA Tryz.prog 22 (.int .i64 (n : Int)) (.int .i64 (n : Int)) = some (.cells (ints .i64 (List.replicate n 0)) 3 true, fun b => .slice (some ⟨b, 0, none⟩) n (EX + n)) := by
  rw [mk22', ble_yes (Nat.le_refl n), ble_yes (show n ≤ 1000000 by omega), ble_yes (show n * 8 ≤ 1000000000 by omega), copies_z]
  rfl
theorem flatI : ∀ l : List Int, flatE encI l = ints .i64 l
  | [] => rfl
  | x :: l => by
    rw [flatE_cons, flatI l]
    rfl
theorem ints_inI {H : AHeap} {b c : Nat} {l : List Int} {rw' : Bool} (hb : b < H.next) (hc : l.length ≤ capLo c) (hg : H.get b = some (.cells (ints .i64 l) 3 rw')) : IIn H (.slice (some ⟨b, 0, none⟩) l.length c) l :=
  ⟨_, c, rfl, hc, fun _ => ⟨b, 0, _, rw', rfl, hb, hg, fun i hi => by rw [Nat.zero_add, ← flatI]; exact flatE_cut encI_len l hi⟩⟩
/-- whole numbers from 0 to m -/
def upto (m : Int) (l : List Int) : Prop := ∀ x ∈ l, 0 ≤ x ∧ x ≤ m
theorem upto_set {m m' : Int} {l : List Int} (h : upto m l) (k : Nat) {v : Int} (hm : m ≤ m') (hv : 0 ≤ v ∧ v ≤ m') : upto m' (l.set k v) := fun x hx => by
  rcases List.mem_or_eq_of_mem_set hx with h1 | h1
  · have := h x h1; omega
  · rw [h1]; exact hv
theorem leN_ge {l : List Int} {k : Nat} (hk : k < l.length) : (l[k]).toNat * 60 ^ k ≤ leN l := by
  have := leN_set hk 0
  simp at this
  omega
theorem put_step {O : List Int} {k o p : Nat} (hk : k < O.length) (ho : O[k] = (o : Int)) : leN (O.set k ((o + p : Nat) : Int)) = leN O + p * 60 ^ k := by
  have := leN_set hk ((o + p : Nat) : Int)
  rw [ho, Int.toNat_natCast, Int.toNat_natCast, Nat.add_mul] at this
  omega
theorem carry_step {O : List Int} {i o o' : Nat} (h1 : i < O.length) (h2 : i + 1 < O.length) (ho : O[i] = (o : Int)) (ho' : O[i + 1] = (o' : Int)) : leN ((O.set (i + 1) ((o' + o / 60 : Nat) : Int)).set i ((o % 60 : Nat) : Int)) = leN O := by
  have a := put_step (p := o / 60) h2 ho'
  have hl : i < (O.set (i + 1) ((o' + o / 60 : Nat) : Int)).length := by rw [List.length_set]; exact h1
  have b := leN_set hl ((o % 60 : Nat) : Int)
  rw [List.getElem_set_ne (by omega), ho, Int.toNat_natCast, Int.toNat_natCast, a] at b
  generalize leN ((O.set (i + 1) ((o' + o / 60 : Nat) : Int)).set i ((o % 60 : Nat) : Int)) = A at *
  have hdm := Nat.div_add_mod o 60
  generalize o / 60 = q at *
  generalize o % 60 = r at *
  rw [Nat.pow_succ] at b
  generalize 60 ^ i = P at *
  have : (60 * q + r) * P = o * P := by rw [hdm]
  grind
theorem alg1 (A B C x : Nat) : A * B + x * B * C = (A + x * C) * B := by grind
end Go.Proofs.YtelepfablohdmaaGreatDoor
/- Contracts for Near: power, SamePlace; of the reference: bigOf, power, over. -/
namespace Go.Proofs.YtelepfablohdmaaGreatDoor
open Go.Ev
/-- the digits of a number, the least significant one first -/
def bigL (X k : Nat) : List Int := (List.range k).map fun i => ((X / 60 ^ i % 60 : Nat) : Int)
theorem bigL_len (X k : Nat) : (bigL X k).length = k := by simp [bigL]
theorem bigL_step (X k : Nat) : bigL X (k + 1) = bigL X k ++ [((X / 60 ^ k % 60 : Nat) : Int)] := by
  unfold bigL
  rw [List.range_succ, List.map_append]
  rfl
theorem bigL_digs (X k : Nat) : digs (bigL X k) := fun x hx => by
  unfold bigL at hx
  obtain ⟨i, _, rfl⟩ := List.mem_map.1 hx
  have : X / 60 ^ i % 60 < 60 := Nat.mod_lt _ (by decide)
  omega
theorem bigL_leN (X : Nat) : ∀ k, leN (bigL X k) = X % 60 ^ k
  | 0 => by simp [bigL, leN, Nat.mod_one]
  | k + 1 => by
    rw [bigL_step, leN_app, bigL_leN X k, bigL_len, Nat.pow_succ, Nat.mod_mul]
    show _ + 60 ^ k * (((X / 60 ^ k % 60 : Nat) : Int).toNat + 60 * 0) = _
    rw [Int.toNat_natCast, Nat.mul_zero, Nat.add_zero]
set_option maxRecDepth 100000 in
set_option maxHeartbeats 8000000 in
theorem bigof_w (X : Nat) (hX : X < 60 ^ 10) (h : AHeap) :
    Wc pr (.func 73) [.int .i64 (X : Int)] h fun r h' => (∃ m b, r = .slice (ownB m b) m.length m.length ∧ IIn h' (.slice (ownB m b) m.length m.length) m ∧ digs m ∧ noEnd m ∧ leN m = X ∧ m.length ≤ 10) ∧ Gr h h' := by
  refine wc_func Tryz.func73 rfl rfl rfl rfl ?_
  repeat' (first
    | ((with_reducible first | refine optP_id ?_ | refine condP_id ?_ | refine resP_id ?_); conv => { arg 1; simp (disch := first | assumption | omega) only [push_cast, ↓reduceIte, reduceIte, Nat.reduceEqDiff, Nat.reduceAdd, Nat.reduceSub, Nat.reduceMul, Nat.reduceBEq, Int.reduceNeg] }; first | ((with_reducible refine optP_id ?_); refine optP_some ?_) | ((with_reducible refine condP_id ?_); first | refine qcy ?_ | refine qcx ?_ | refine qco ?_ | refine condP_decn (fun hc => ?_) (fun hc => ?_) | refine condP_dec (fun hc => ?_) (fun hc => ?_) | refine qct ?_ | refine qcf ?_ | refine condP_bool (fun hc => ?_) (fun hc => ?_)) | ((with_reducible refine resP_id ?_); refine resP_one ?_))
    | refine wk_seq ?_ | refine wk_region ?_ | refine wk_block ?_ | refine wk_inBlock ?_ | refine wk_skip ?_ | refine wo_nil ?_ | refine wk_exit ?_ | refine exitK_code ?_ | refine exitK_hit ?_ | refine exitK_miss rfl ?_ | refine exitK_inLoop ?_ | refine wk_cond ?_ | refine wk_ret ?_ | refine wk_nil ?_ | refine wo_dst rfl (opR_pure ?_) | refine wo_nodst (opR_pure ?_)
    | refine give_ret ?_ | refine give_end ?_)
  refine wk_loop (fun n E H => ∃ (i Y b : Nat), n = Y ∧ Y = X / 60 ^ i ∧ (i = 0 ∨ X / 60 ^ (i - 1) % 60 ≠ 0 ∨ 0 < Y) ∧ OwnI h.next H (bigL X i) b ∧ Gr h H ∧ E.look 0 top = .int .i64 (Y : Int) ∧ E.look 3 top = .slice (ownB (bigL X i) b) (bigL X i).length (bigL X i).length) X
    ⟨0, X, 0, rfl, by rw [Nat.pow_zero, Nat.div_one], .inl rfl, fun hn => absurd rfl hn, by (repeat (first | exact Gr.refl _ | assumption | (refine Gr.trans ?_ (by assumption)) | refine Gr.set ?_ (by first | exact Nat.le_refl _ | omega | (simp only [next_new, next_set]; omega)) _ | refine Gr.new ?_ _)), by simp (disch := first | assumption | omega) only [push_cast, ↓reduceIte, reduceIte, Nat.reduceEqDiff, Nat.reduceAdd, Nat.reduceSub, Nat.reduceMul, Nat.reduceBEq, Int.reduceNeg], by show _ = Value.slice none 0 0; simp (disch := first | assumption | omega) only [push_cast, ↓reduceIte, reduceIte, Nat.reduceEqDiff, Nat.reduceAdd, Nat.reduceSub, Nat.reduceMul, Nat.reduceBEq, Int.reduceNeg]⟩ ?_
  rintro n E H ⟨i, Y, b, rfl, hY, hlast, hown, gr, e0, e3⟩ next
  have gn := gr.1
  by_cases hpos : 0 < n
  · have hi : i < 10 := by
      apply Classical.byContradiction
      intro hh
      have h8 : 60 ^ 10 ≤ 60 ^ i := Nat.pow_le_pow_right (by decide) (by omega)
      have : X / 60 ^ i = 0 := Nat.div_eq_of_lt (by omega)
      omega
    have y0 : (n : Int) > 0 := by omega
    have hle : n ≤ X := by rw [hY]; exact Nat.div_le_self _ _
    have hst := bigL_step X i
    rw [← hY] at hst
    have hlen := bigL_len X i
    have hY' : n / 60 = X / 60 ^ (i + 1) := by rw [hY, Nat.div_div_eq_div_mul, Nat.pow_succ]
    have em : (n : Int) % 60 = ((n % 60 : Nat) : Int) := by omega
    have eq : (n : Int) / 60 = ((n / 60 : Nat) : Int) := by omega
    have hn60 : n = 60 * (n / 60) + n % 60 := by omega
    have hlast' : n % 60 ≠ 0 ∨ 0 < n / 60 := by omega
    rw [hY] at hlast'
    rw [← hY] at hlast'
    generalize hD : n % 60 = d at *
    generalize hQ : n / 60 = q at *
    generalize bigL X i = L at *
    repeat' (first
    | ((with_reducible first | refine optP_id ?_ | refine condP_id ?_ | refine resP_id ?_); conv => { arg 1; simp (disch := first | assumption | omega) only [push_cast, ↓reduceIte, reduceIte, Nat.reduceEqDiff, Nat.reduceAdd, Nat.reduceSub, Nat.reduceMul, Nat.reduceBEq, Int.reduceNeg, e0, e3, em] }; first | ((with_reducible refine optP_id ?_); refine optP_some ?_) | ((with_reducible refine condP_id ?_); first | refine qcy ?_ | refine qcx ?_ | refine qco ?_ | refine condP_decn (fun hc => ?_) (fun hc => ?_) | refine condP_dec (fun hc => ?_) (fun hc => ?_) | refine qct ?_ | refine qcf ?_ | refine condP_bool (fun hc => ?_) (fun hc => ?_)) | ((with_reducible refine resP_id ?_); refine resP_one ?_))
    | refine wk_seq ?_ | refine wk_region ?_ | refine wk_block ?_ | refine wk_inBlock ?_ | refine wk_skip ?_ | refine wo_nil ?_ | refine wk_exit ?_ | refine exitK_code ?_ | refine exitK_hit ?_ | refine exitK_miss rfl ?_ | refine exitK_inLoop ?_ | refine wk_cond ?_ | refine wk_ret ?_ | refine wk_nil ?_ | refine wo_dst rfl (opR_pure ?_) | refine wo_nodst (opR_pure ?_)
    | refine give_ret ?_ | refine give_end ?_)
    conv => { arg 1; simp (disch := first | assumption | omega) only [push_cast, ↓reduceIte, reduceIte, Nat.reduceEqDiff, Nat.reduceAdd, Nat.reduceSub, Nat.reduceMul, Nat.reduceBEq, Int.reduceNeg, ap22] }
    refine optP_one (x := (d : Int)) (e' := 3) (rw' := true) encI_len (fun _ => rfl) (by omega) (by omega) (fun hn => by obtain ⟨q0, q1, q2⟩ := hown hn; simp (disch := first | assumption | omega) only [push_cast, ↓reduceIte, reduceIte, Nat.reduceEqDiff, Nat.reduceAdd, Nat.reduceSub, Nat.reduceMul, Nat.reduceBEq, Int.reduceNeg]; exact q2) (by unfold encI; simp (disch := first | assumption | omega) only [push_cast, ↓reduceIte, reduceIte, Nat.reduceEqDiff, Nat.reduceAdd, Nat.reduceSub, Nat.reduceMul, Nat.reduceBEq, Int.reduceNeg]) ?_
    intro H3 n3 new3 keep3
    simp only [next_new] at n3 new3 keep3
    repeat' (first
    | ((with_reducible first | refine optP_id ?_ | refine condP_id ?_ | refine resP_id ?_); conv => { arg 1; simp (disch := first | assumption | omega) only [push_cast, ↓reduceIte, reduceIte, Nat.reduceEqDiff, Nat.reduceAdd, Nat.reduceSub, Nat.reduceMul, Nat.reduceBEq, Int.reduceNeg, e0, e3, eq] }; first | ((with_reducible refine optP_id ?_); refine optP_some ?_) | ((with_reducible refine condP_id ?_); first | refine qcy ?_ | refine qcx ?_ | refine qco ?_ | refine condP_decn (fun hc => ?_) (fun hc => ?_) | refine condP_dec (fun hc => ?_) (fun hc => ?_) | refine qct ?_ | refine qcf ?_ | refine condP_bool (fun hc => ?_) (fun hc => ?_)) | ((with_reducible refine resP_id ?_); refine resP_one ?_))
    | refine wk_seq ?_ | refine wk_region ?_ | refine wk_block ?_ | refine wk_inBlock ?_ | refine wk_skip ?_ | refine wo_nil ?_ | refine wk_exit ?_ | refine exitK_code ?_ | refine exitK_hit ?_ | refine exitK_miss rfl ?_ | refine exitK_inLoop ?_ | refine wk_cond ?_ | refine wk_ret ?_ | refine wk_nil ?_ | refine wo_dst rfl (opR_pure ?_) | refine wo_nodst (opR_pure ?_)
    | refine give_ret ?_ | refine give_end ?_)
    refine next q _ _ (by omega) ⟨i + 1, q, H.next + 1, rfl, hY', .inr ?_, by rw [hst]; exact fun _ => ⟨by omega, by omega, new3⟩, ⟨by omega, fun c hc => ?_⟩, by simp (disch := first | assumption | omega) only [push_cast, ↓reduceIte, reduceIte, Nat.reduceEqDiff, Nat.reduceAdd, Nat.reduceSub, Nat.reduceMul, Nat.reduceBEq, Int.reduceNeg], by rw [hst]; simp (disch := first | assumption | omega) only [push_cast, ↓reduceIte, reduceIte, Nat.reduceEqDiff, Nat.reduceAdd, Nat.reduceSub, Nat.reduceMul, Nat.reduceBEq, Int.reduceNeg]⟩
    · rcases hlast' with q1 | q1
      · left; rw [Nat.add_sub_cancel, ← hY, hD]; exact q1
      · exact .inr q1
    · rw [keep3 c (by omega) (fun hn => by have := (hown hn).1; omega)]
      simp (disch := first | assumption | omega) only [push_cast, ↓reduceIte, reduceIte, Nat.reduceEqDiff, Nat.reduceAdd, Nat.reduceSub, Nat.reduceMul, Nat.reduceBEq, Int.reduceNeg]
      exact gr.2 c hc
  · have n0 : ¬ (n : Int) > 0 := by omega
    have hz : X / 60 ^ i = 0 := by omega
    have hlt : X < 60 ^ i := by
      rcases Nat.lt_or_ge X (60 ^ i) with q | q
      · exact q
      · have := Nat.div_pos q (pow60_pos i); omega
    have hi10 : i ≤ 10 := by
      rcases hlast with q | q | q
      · omega
      · apply Classical.byContradiction
        intro hh
        apply q
        have : 60 ^ 10 ≤ 60 ^ (i - 1) := Nat.pow_le_pow_right (by decide) (by omega)
        rw [Nat.div_eq_of_lt (by omega)]
      · omega
    have hlen := bigL_len X i
    have hne : noEnd (bigL X i) := by
      rcases hlast with q | q | q
      · left; rw [q]; rfl
      · rcases Nat.eq_zero_or_pos i with q0 | q0
        · left; rw [q0]; rfl
        · obtain ⟨j, rfl⟩ : ∃ j, i = j + 1 := ⟨i - 1, by omega⟩
          right
          rw [hlen, Nat.add_sub_cancel, bigL_step, List.getElem?_append_right (by rw [bigL_len]; exact Nat.le_refl _), bigL_len, Nat.sub_self]
          intro hh
          have := Option.some.inj hh
          rw [Nat.add_sub_cancel] at q
          omega
      · omega
    repeat' (first
    | ((with_reducible first | refine optP_id ?_ | refine condP_id ?_ | refine resP_id ?_); conv => { arg 1; simp (disch := first | assumption | omega) only [push_cast, ↓reduceIte, reduceIte, Nat.reduceEqDiff, Nat.reduceAdd, Nat.reduceSub, Nat.reduceMul, Nat.reduceBEq, Int.reduceNeg, e0, e3] }; first | ((with_reducible refine optP_id ?_); refine optP_some ?_) | ((with_reducible refine condP_id ?_); first | refine qcy ?_ | refine qcx ?_ | refine qco ?_ | refine condP_decn (fun hc => ?_) (fun hc => ?_) | refine condP_dec (fun hc => ?_) (fun hc => ?_) | refine qct ?_ | refine qcf ?_ | refine condP_bool (fun hc => ?_) (fun hc => ?_)) | ((with_reducible refine resP_id ?_); refine resP_one ?_))
    | refine wk_seq ?_ | refine wk_region ?_ | refine wk_block ?_ | refine wk_inBlock ?_ | refine wk_skip ?_ | refine wo_nil ?_ | refine wk_exit ?_ | refine exitK_code ?_ | refine exitK_hit ?_ | refine exitK_miss rfl ?_ | refine exitK_inLoop ?_ | refine wk_cond ?_ | refine wk_ret ?_ | refine wk_nil ?_ | refine wo_dst rfl (opR_pure ?_) | refine wo_nodst (opR_pure ?_)
    | refine give_ret ?_ | refine give_end ?_)
    exact ⟨⟨_, _, rfl, OwnI.inn hown (by omega), bigL_digs X i, hne, by rw [bigL_leN, Nat.mod_eq_of_lt hlt], by omega⟩, gr⟩
end Go.Proofs.YtelepfablohdmaaGreatDoor
namespace Go.Proofs.YtelepfablohdmaaGreatDoor
open Go.Ev
theorem drop_cons {l : List Int} {k : Nat} (hk : k < l.length) : leN (l.drop k) = (l[k]).toNat + 60 * leN (l.drop (k + 1)) := by
  rw [List.drop_eq_getElem_cons hk, leN]
theorem drop_set {l : List Int} {k : Nat} (hk : k < l.length) (v : Int) : leN ((l.set k v).drop k) = v.toNat + 60 * leN (l.drop (k + 1)) := by
  rw [drop_cons (by rw [List.length_set]; exact hk), List.getElem_set_self, List.drop_set_of_lt (by omega)]
set_option maxRecDepth 100000 in
set_option maxHeartbeats 8000000 in
theorem rover_w (x : List Int) (d : Nat) (hx : digs x) (lx : x.length ≤ 200) (hd : 1 ≤ d) (hd2 : d ≤ 1099511627776) (v : Value) (h : AHeap) (hv : IIn h v x) :
    Wc pr (.func 91) [v, .int .i64 (d : Int)] h fun r h' => (∃ m a c, r = .tuple #[.slice a m.length c, .int .i64 ((leN x % d : Nat) : Int)] ∧ IIn h' (.slice a m.length c) m ∧ digs m ∧ noEnd m ∧ leN m = leN x / d ∧ m.length ≤ 200) ∧ Gr h h' := by
  obtain ⟨ax, cx, rfl, _, hvx⟩ := id hv
  obtain ⟨N, hN⟩ : ∃ N, N = x.length := ⟨_, rfl⟩
  have mk := mk22 N (by omega)
  rw [hN] at mk
  refine wc_func Tryz.func91 rfl rfl rfl rfl ?_
  repeat' (first
    | ((with_reducible first | refine optP_id ?_ | refine condP_id ?_ | refine resP_id ?_ | refine callT_of ?_); conv => { arg 1; simp (disch := first | assumption | omega) only [push_cast, ↓reduceIte, reduceIte, Nat.reduceEqDiff, Nat.reduceAdd, Nat.reduceSub, Nat.reduceMul, Nat.reduceBEq, Int.reduceNeg, mk] }; first | ((with_reducible refine optP_id ?_); refine optP_some ?_) | ((with_reducible refine condP_id ?_); first | refine qcy ?_ | refine qcx ?_ | refine qco ?_ | refine condP_decn (fun hc => ?_) (fun hc => ?_) | refine condP_dec (fun hc => ?_) (fun hc => ?_) | refine qct ?_ | refine qcf ?_ | refine condP_bool (fun hc => ?_) (fun hc => ?_)) | ((with_reducible refine resP_id ?_); refine resP_two ?_) | ((with_reducible refine callT_to ?_); refine callP_plain ?_))
    | refine wk_seq ?_ | refine wk_region ?_ | refine wk_block ?_ | refine wk_inBlock ?_ | refine wk_skip ?_ | refine wo_nil ?_ | refine wk_exit ?_ | refine exitK_code ?_ | refine exitK_hit ?_ | refine exitK_miss rfl ?_ | refine exitK_inLoop ?_ | refine wk_cond ?_ | refine wk_ret ?_ | refine wk_nil ?_ | refine wo_dst rfl (opR_call ?_) | refine wo_nodst (opR_call ?_) | refine wo_dst rfl (opR_pure ?_) | refine wo_nodst (opR_pure ?_)
    | refine give_ret ?_ | refine give_end ?_)
  refine wk_loop (fun n E H => ∃ (k : Nat) (O : List Int), n = k ∧ k ≤ x.length ∧ O.length = x.length ∧ digs O ∧ leN (O.drop k) = leN (x.drop k) / d ∧ Gr h H ∧ h.next < H.next ∧ H.get h.next = some (.cells (ints .i64 O) 3 true) ∧ E.look 0 top = .slice ax x.length cx ∧ E.look 1 top = .int .i64 (d : Int) ∧ E.look 6 top = .slice (some ⟨h.next, 0, none⟩) x.length (EX + x.length) ∧ E.look 7 top = .int .i64 ((leN (x.drop k) % d : Nat) : Int) ∧ E.look 8 top = .int .i64 ((k : Int) - 1)) x.length
    ⟨x.length, List.replicate x.length 0, rfl, Nat.le_refl _, List.length_replicate, fun z hz => by rw [List.eq_of_mem_replicate hz]; omega, by simp [leN], by (repeat (first | exact Gr.refl _ | assumption | (refine Gr.trans ?_ (by assumption)) | refine Gr.set ?_ (by first | exact Nat.le_refl _ | omega | (simp only [next_new, next_set]; omega)) _ | refine Gr.new ?_ _)), by simp only [next_new]; omega, by simp (disch := first | assumption | omega) only [push_cast, ↓reduceIte, reduceIte, Nat.reduceEqDiff, Nat.reduceAdd, Nat.reduceSub, Nat.reduceMul, Nat.reduceBEq, Int.reduceNeg], by simp (disch := first | assumption | omega) only [push_cast, ↓reduceIte, reduceIte, Nat.reduceEqDiff, Nat.reduceAdd, Nat.reduceSub, Nat.reduceMul, Nat.reduceBEq, Int.reduceNeg], by simp (disch := first | assumption | omega) only [push_cast, ↓reduceIte, reduceIte, Nat.reduceEqDiff, Nat.reduceAdd, Nat.reduceSub, Nat.reduceMul, Nat.reduceBEq, Int.reduceNeg], by simp (disch := first | assumption | omega) only [push_cast, ↓reduceIte, reduceIte, Nat.reduceEqDiff, Nat.reduceAdd, Nat.reduceSub, Nat.reduceMul, Nat.reduceBEq, Int.reduceNeg], by rw [List.drop_length]; show _ = Value.int .i64 ((0 % d : Nat) : Int); rw [Nat.zero_mod]; simp (disch := first | assumption | omega) only [push_cast, ↓reduceIte, reduceIte, Nat.reduceEqDiff, Nat.reduceAdd, Nat.reduceSub, Nat.reduceMul, Nat.reduceBEq, Int.reduceNeg, Int.natCast_zero], by simp (disch := first | assumption | omega) only [push_cast, ↓reduceIte, reduceIte, Nat.reduceEqDiff, Nat.reduceAdd, Nat.reduceSub, Nat.reduceMul, Nat.reduceBEq, Int.reduceNeg]⟩ ?_
  rintro n E H ⟨k, O, rfl, hk, lO, dO, vO, gr, hnx, cO, e0, e1, e6, e7, e8⟩ next
  by_cases hz : n = 0
  · subst hz
    have n0 : ¬ ((((0 : Nat) : Int) - 1) ≥ 0) := by omega
    rw [List.drop_zero] at e7
    rw [List.drop_zero, List.drop_zero] at vO
    repeat' (first
    | ((with_reducible first | refine optP_id ?_ | refine condP_id ?_ | refine resP_id ?_ | refine callT_of ?_); conv => { arg 1; simp (disch := first | assumption | omega) only [push_cast, ↓reduceIte, reduceIte, Nat.reduceEqDiff, Nat.reduceAdd, Nat.reduceSub, Nat.reduceMul, Nat.reduceBEq, Int.reduceNeg, e0, e1, e6, e7, e8] }; first | ((with_reducible refine optP_id ?_); refine optP_some ?_) | ((with_reducible refine condP_id ?_); first | refine qcy ?_ | refine qcx ?_ | refine qco ?_ | refine condP_decn (fun hc => ?_) (fun hc => ?_) | refine condP_dec (fun hc => ?_) (fun hc => ?_) | refine qct ?_ | refine qcf ?_ | refine condP_bool (fun hc => ?_) (fun hc => ?_)) | ((with_reducible refine resP_id ?_); refine resP_two ?_) | ((with_reducible refine callT_to ?_); refine callP_plain ?_))
    | refine wk_seq ?_ | refine wk_region ?_ | refine wk_block ?_ | refine wk_inBlock ?_ | refine wk_skip ?_ | refine wo_nil ?_ | refine wk_exit ?_ | refine exitK_code ?_ | refine exitK_hit ?_ | refine exitK_miss rfl ?_ | refine exitK_inLoop ?_ | refine wk_cond ?_ | refine wk_ret ?_ | refine wk_nil ?_ | refine wo_dst rfl (opR_call ?_) | refine wo_nodst (opR_call ?_) | refine wo_dst rfl (opR_pure ?_) | refine wo_nodst (opR_pure ?_)
    | refine give_ret ?_ | refine give_end ?_)
    have hin : IIn H (.slice (some ⟨h.next, 0, none⟩) O.length (EX + x.length)) O := ints_inI hnx (by rw [capLo_ex, lO]; exact Nat.le_refl _) cO
    rw [lO] at hin
    refine (trim_w O dO _ _ hin (by omega)).mono ?_
    rintro _ _ ⟨⟨m, am, cm, rfl, im, dm, em, vm, lm, _⟩, rfl⟩
    repeat' (first
    | ((with_reducible first | refine optP_id ?_ | refine condP_id ?_ | refine resP_id ?_ | refine callT_of ?_); conv => { arg 1; simp (disch := first | assumption | omega) only [push_cast, ↓reduceIte, reduceIte, Nat.reduceEqDiff, Nat.reduceAdd, Nat.reduceSub, Nat.reduceMul, Nat.reduceBEq, Int.reduceNeg, e7] }; first | ((with_reducible refine optP_id ?_); refine optP_some ?_) | ((with_reducible refine condP_id ?_); first | refine qcy ?_ | refine qcx ?_ | refine qco ?_ | refine condP_decn (fun hc => ?_) (fun hc => ?_) | refine condP_dec (fun hc => ?_) (fun hc => ?_) | refine qct ?_ | refine qcf ?_ | refine condP_bool (fun hc => ?_) (fun hc => ?_)) | ((with_reducible refine resP_id ?_); refine resP_two ?_) | ((with_reducible refine callT_to ?_); refine callP_plain ?_))
    | refine wk_seq ?_ | refine wk_region ?_ | refine wk_block ?_ | refine wk_inBlock ?_ | refine wk_skip ?_ | refine wo_nil ?_ | refine wk_exit ?_ | refine exitK_code ?_ | refine exitK_hit ?_ | refine exitK_miss rfl ?_ | refine exitK_inLoop ?_ | refine wk_cond ?_ | refine wk_ret ?_ | refine wk_nil ?_ | refine wo_dst rfl (opR_call ?_) | refine wo_nodst (opR_call ?_) | refine wo_dst rfl (opR_pure ?_) | refine wo_nodst (opR_pure ?_)
    | refine give_ret ?_ | refine give_end ?_)
    exact ⟨⟨m, am, cm, rfl, im, dm, em, by rw [vm, vO], by omega⟩, gr⟩
  · obtain ⟨j, rfl⟩ : ∃ j, n = j + 1 := ⟨n - 1, by omega⟩
    have ej : (((j + 1 : Nat) : Int) - 1) = (j : Int) := by omega
    rw [ej] at e8
    have hj : j < x.length := by omega
    have j0 : (j : Int) ≥ 0 := by omega
    obtain ⟨bx, offx, allx, rwx, hax, hbx, hgx, htx⟩ := hvx (by intro h; rw [h] at hj; exact absurd hj (Nat.not_lt_zero _))
    have hx1 := at_cut1 _ _ _ (htx j hj)
    rw [Nat.mul_one] at hx1
    have dx := hx _ (List.getElem_mem hj)
    have tx := drop_cons hj
    obtain ⟨xi, hxi⟩ : ∃ xi : Nat, x[j] = (xi : Int) := ⟨x[j].toNat, by omega⟩
    rw [hxi, Int.toNat_natCast] at tx
    rw [hxi] at hx1 dx
    have hgxH : H.get bx = some (.cells allx 3 rwx) := by rw [gr.2 bx hbx]; exact hgx
    have e0' : E.look 0 top = .slice (some ⟨bx, offx, none⟩) x.length cx := by rw [e0, hax]
    have txm : leN (x.drop j) = leN (x.drop (j + 1)) * 60 + xi := by omega
    have hOj : j < O.length := by omega
    have hset := drop_set hOj
    obtain ⟨s1, s2, s3⟩ := div_step (leN (x.drop (j + 1))) xi d (by omega) (by omega)
    rw [← txm] at s1 s2 s3
    have hr : leN (x.drop (j + 1)) % d < d := Nat.mod_lt _ (by omega)
    have hq60 : (leN (x.drop (j + 1)) % d * 60 + xi) / d < 60 := by rw [s1]; exact Nat.mod_lt _ (by decide)
    have ov : over (ints .i64 O) j [.int .i64 (((leN (x.drop (j + 1)) % d * 60 + xi) / d : Nat) : Int)] = some (ints .i64 (O.set j (((leN (x.drop (j + 1)) % d * 60 + xi) / d : Nat) : Int))) := ints_over .i64 _ hOj
    have hds : digs (O.set j (((leN (x.drop (j + 1)) % d * 60 + xi) / d : Nat) : Int)) := digs_set dO j (by omega)
    have hls : (O.set j (((leN (x.drop (j + 1)) % d * 60 + xi) / d : Nat) : Int)).length = x.length := by rw [List.length_set]; exact lO
    have hvs : leN ((O.set j (((leN (x.drop (j + 1)) % d * 60 + xi) / d : Nat) : Int)).drop j) = leN (x.drop j) / d := by
      rw [hset, Int.toNat_natCast, vO, s3, s1]; omega
    have eR : ((leN (x.drop (j + 1)) % d : Nat) : Int) * 60 + (xi : Int) = ((leN (x.drop (j + 1)) % d * 60 + xi : Nat) : Int) := by omega
    generalize hRR : leN (x.drop (j + 1)) % d * 60 + xi = R at *
    have hRb : R < 70000000000000 := by omega
    have hRm : R % d = leN (x.drop j) % d := s2
    generalize leN (x.drop (j + 1)) % d = r0 at *
    have n0 : ¬ (d : Int) = 0 := by omega
    have eQ : (R : Int) / (d : Int) = ((R / d : Nat) : Int) := rfl
    have eM : (R : Int) % (d : Int) = ((R % d : Nat) : Int) := rfl
    generalize R / d = q at *
    have hmd : R % d < d := Nat.mod_lt _ (by omega)
    generalize R % d = m at *
    generalize O.set j (q : Int) = O2 at *
    generalize ints .i64 O = C at *
    generalize hC2 : ints .i64 O2 = C2 at *
    repeat' (first
    | ((with_reducible first | refine optP_id ?_ | refine condP_id ?_ | refine resP_id ?_ | refine callT_of ?_); conv => { arg 1; simp (disch := first | assumption | omega) only [push_cast, ↓reduceIte, reduceIte, Nat.reduceEqDiff, Nat.reduceAdd, Nat.reduceSub, Nat.reduceMul, Nat.reduceBEq, Int.reduceNeg, e0', e1, e6, e7, e8, hgxH, hx1, eR, eQ, eM, cO, ov, Nat.zero_add, Nat.mul_one] }; first | ((with_reducible refine optP_id ?_); refine optP_some ?_) | ((with_reducible refine condP_id ?_); first | refine qcy ?_ | refine qcx ?_ | refine qco ?_ | refine condP_decn (fun hc => ?_) (fun hc => ?_) | refine condP_dec (fun hc => ?_) (fun hc => ?_) | refine qct ?_ | refine qcf ?_ | refine condP_bool (fun hc => ?_) (fun hc => ?_)) | ((with_reducible refine resP_id ?_); refine resP_two ?_) | ((with_reducible refine callT_to ?_); refine callP_plain ?_))
    | refine wk_seq ?_ | refine wk_region ?_ | refine wk_block ?_ | refine wk_inBlock ?_ | refine wk_skip ?_ | refine wo_nil ?_ | refine wk_exit ?_ | refine exitK_code ?_ | refine exitK_hit ?_ | refine exitK_miss rfl ?_ | refine exitK_inLoop ?_ | refine wk_cond ?_ | refine wk_ret ?_ | refine wk_nil ?_ | refine wo_dst rfl (opR_call ?_) | refine wo_nodst (opR_call ?_) | refine wo_dst rfl (opR_pure ?_) | refine wo_nodst (opR_pure ?_)
    | refine give_ret ?_ | refine give_end ?_)
    exact next j _ _ (by omega) ⟨j, O2, rfl, by omega, hls, hds, hvs, by (repeat (first | exact Gr.refl _ | assumption | (refine Gr.trans ?_ (by assumption)) | refine Gr.set ?_ (by first | exact Nat.le_refl _ | omega | (simp only [next_new, next_set]; omega)) _ | refine Gr.new ?_ _)), by simp only [next_set]; omega, by rw [hC2]; simp (disch := first | assumption | omega) only [push_cast, ↓reduceIte, reduceIte, Nat.reduceEqDiff, Nat.reduceAdd, Nat.reduceSub, Nat.reduceMul, Nat.reduceBEq, Int.reduceNeg], by simp (disch := first | assumption | omega) only [push_cast, ↓reduceIte, reduceIte, Nat.reduceEqDiff, Nat.reduceAdd, Nat.reduceSub, Nat.reduceMul, Nat.reduceBEq, Int.reduceNeg, e0], by simp (disch := first | assumption | omega) only [push_cast, ↓reduceIte, reduceIte, Nat.reduceEqDiff, Nat.reduceAdd, Nat.reduceSub, Nat.reduceMul, Nat.reduceBEq, Int.reduceNeg, e1], by simp (disch := first | assumption | omega) only [push_cast, ↓reduceIte, reduceIte, Nat.reduceEqDiff, Nat.reduceAdd, Nat.reduceSub, Nat.reduceMul, Nat.reduceBEq, Int.reduceNeg, e6], by rw [← hRm]; simp (disch := first | assumption | omega) only [push_cast, ↓reduceIte, reduceIte, Nat.reduceEqDiff, Nat.reduceAdd, Nat.reduceSub, Nat.reduceMul, Nat.reduceBEq, Int.reduceNeg], by simp (disch := first | assumption | omega) only [push_cast, ↓reduceIte, reduceIte, Nat.reduceEqDiff, Nat.reduceAdd, Nat.reduceSub, Nat.reduceMul, Nat.reduceBEq, Int.reduceNeg]⟩
end Go.Proofs.YtelepfablohdmaaGreatDoor
