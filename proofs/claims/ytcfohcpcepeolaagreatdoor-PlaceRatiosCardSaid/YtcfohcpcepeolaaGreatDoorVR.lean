/- Contract of the reference: times. -/
import Derived.Test.YtcfohcpcepeolaaGreatDoorVG
set_option linter.unusedSimpArgs false
set_option linter.unusedVariables false
/- Contracts of the reference: Check, checks, trim. -/
namespace Go.Proofs.YtcfohcpcepeolaaGreatDoor
open Go.Ev
set_option maxRecDepth 100000 in
set_option maxHeartbeats 8000000 in
theorem rcheck_w (l : List Int) (v : Value) (h : AHeap) (hv : IIn h v l) (hl : l.length ≤ 4611686018427387904) :
    Wc pr (.func 19) [v] h fun r h' => r = .int .i64 (checkE l) ∧ h = h' := by
  obtain ⟨a, c, rfl, hc, hv⟩ := hv
  refine wc_func Tryz.func19 rfl rfl rfl rfl ?_
  by_cases h16 : 16 < l.length
  · have y16 : (l.length : Int) > 16 := by omega
    repeat' (first
    | ((with_reducible first | refine optP_id ?_ | refine condP_id ?_ | refine condO_id ?_ | refine resP_id ?_); conv => { arg 1; simp (disch := first | assumption | omega) only [push_cast, ↓reduceIte, reduceIte, Nat.reduceEqDiff, Nat.reduceAdd, Nat.reduceSub, Nat.reduceMul, Nat.reduceBEq, Int.reduceNeg] }; first | ((with_reducible refine optP_id ?_); refine optP_some ?_) | ((with_reducible refine condP_id ?_); first | refine qcy ?_ | refine qcx ?_ | refine qco ?_ | refine condP_decn (fun hc => ?_) (fun hc => ?_) | refine condP_dec (fun hc => ?_) (fun hc => ?_) | refine qct ?_ | refine qcf ?_ | refine condP_bool (fun hc => ?_) (fun hc => ?_)) | ((with_reducible refine condO_id ?_); refine condO_some ?_) | ((with_reducible refine resP_id ?_); refine resP_one ?_))
    | refine wk_seq ?_ | refine wk_region ?_ | refine wk_block ?_ | refine wk_inBlock ?_ | refine wk_skip ?_ | refine wo_nil ?_ | refine wk_exit ?_ | refine exitK_code ?_ | refine exitK_hit ?_ | refine exitK_miss rfl ?_ | refine exitK_inLoop ?_ | refine wk_cond ?_ | refine wk_ret ?_ | refine wk_nil ?_ | refine wo_dst rfl (opR_pick ?_) | refine wo_guard rfl rfl ?_ | refine wo_guardn rfl ?_ | refine wo_dst rfl (opR_pure ?_) | refine wo_nodst (opR_pure ?_)
    | refine give_ret ?_ | refine give_end ?_)
    exact ⟨by rw [checkE, if_pos h16], rfl⟩
  · have n16 : ¬ (l.length : Int) > 16 := by omega
    repeat' (first
    | ((with_reducible first | refine optP_id ?_ | refine condP_id ?_ | refine condO_id ?_ | refine resP_id ?_); conv => { arg 1; simp (disch := first | assumption | omega) only [push_cast, ↓reduceIte, reduceIte, Nat.reduceEqDiff, Nat.reduceAdd, Nat.reduceSub, Nat.reduceMul, Nat.reduceBEq, Int.reduceNeg] }; first | ((with_reducible refine optP_id ?_); refine optP_some ?_) | ((with_reducible refine condP_id ?_); first | refine qcy ?_ | refine qcx ?_ | refine qco ?_ | refine condP_decn (fun hc => ?_) (fun hc => ?_) | refine condP_dec (fun hc => ?_) (fun hc => ?_) | refine qct ?_ | refine qcf ?_ | refine condP_bool (fun hc => ?_) (fun hc => ?_)) | ((with_reducible refine condO_id ?_); refine condO_some ?_) | ((with_reducible refine resP_id ?_); refine resP_one ?_))
    | refine wk_seq ?_ | refine wk_region ?_ | refine wk_block ?_ | refine wk_inBlock ?_ | refine wk_skip ?_ | refine wo_nil ?_ | refine wk_exit ?_ | refine exitK_code ?_ | refine exitK_hit ?_ | refine exitK_miss rfl ?_ | refine exitK_inLoop ?_ | refine wk_cond ?_ | refine wk_ret ?_ | refine wk_nil ?_ | refine wo_dst rfl (opR_pick ?_) | refine wo_guard rfl rfl ?_ | refine wo_guardn rfl ?_ | refine wo_dst rfl (opR_pure ?_) | refine wo_nodst (opR_pure ?_)
    | refine give_ret ?_ | refine give_end ?_)
    refine wk_loop (fun n E H => ∃ i : Nat, n = l.length - i ∧ i ≤ l.length ∧ h = H ∧ (∀ k (hk : k < l.length), k < i → 0 ≤ l[k] ∧ l[k] < 60) ∧ E.look 0 top = .slice a l.length c ∧ E.look 3 top = .int .i64 (i : Int)) l.length
      ⟨0, by omega, by omega, rfl, fun k _ hk => absurd hk (Nat.not_lt_zero k), by simp (disch := first | assumption | omega) only [push_cast, ↓reduceIte, reduceIte, Nat.reduceEqDiff, Nat.reduceAdd, Nat.reduceSub, Nat.reduceMul, Nat.reduceBEq, Int.reduceNeg], by simp (disch := first | assumption | omega) only [push_cast, ↓reduceIte, reduceIte, Nat.reduceEqDiff, Nat.reduceAdd, Nat.reduceSub, Nat.reduceMul, Nat.reduceBEq, Int.reduceNeg, Int.natCast_zero]⟩ ?_
    rintro n E _ ⟨i, rfl, hi, rfl, hall, e0, e3⟩ next
    by_cases hlt : i < l.length
    · have ilt : (i : Int) < (l.length : Int) := by omega
      obtain ⟨b, off, cl, rw', rfl, hb, hgb, hat⟩ := hv (by intro h; rw [h] at hlt; exact absurd hlt (Nat.not_lt_zero _))
      have h0 := at_cut1 _ _ _ (hat i hlt)
      rw [Nat.mul_one] at h0
      by_cases d0 : l[i] < 0
      · repeat' (first
    | ((with_reducible first | refine optP_id ?_ | refine condP_id ?_ | refine condO_id ?_ | refine resP_id ?_); conv => { arg 1; simp (disch := first | assumption | omega) only [push_cast, ↓reduceIte, reduceIte, Nat.reduceEqDiff, Nat.reduceAdd, Nat.reduceSub, Nat.reduceMul, Nat.reduceBEq, Int.reduceNeg, e0, e3, hgb, h0, Nat.mul_one] }; first | ((with_reducible refine optP_id ?_); refine optP_some ?_) | ((with_reducible refine condP_id ?_); first | refine qcy ?_ | refine qcx ?_ | refine qco ?_ | refine condP_decn (fun hc => ?_) (fun hc => ?_) | refine condP_dec (fun hc => ?_) (fun hc => ?_) | refine qct ?_ | refine qcf ?_ | refine condP_bool (fun hc => ?_) (fun hc => ?_)) | ((with_reducible refine condO_id ?_); refine condO_some ?_) | ((with_reducible refine resP_id ?_); refine resP_one ?_))
    | refine wk_seq ?_ | refine wk_region ?_ | refine wk_block ?_ | refine wk_inBlock ?_ | refine wk_skip ?_ | refine wo_nil ?_ | refine wk_exit ?_ | refine exitK_code ?_ | refine exitK_hit ?_ | refine exitK_miss rfl ?_ | refine exitK_inLoop ?_ | refine wk_cond ?_ | refine wk_ret ?_ | refine wk_nil ?_ | refine wo_dst rfl (opR_pick ?_) | refine wo_guard rfl rfl ?_ | refine wo_guardn rfl ?_ | refine wo_dst rfl (opR_pure ?_) | refine wo_nodst (opR_pure ?_)
    | refine give_ret ?_ | refine give_end ?_)
        exact ⟨by rw [checkE, if_neg h16, if_pos ⟨l[i], List.getElem_mem hlt, .inl d0⟩], rfl⟩
      · by_cases d1 : l[i] ≥ 60
        · repeat' (first
    | ((with_reducible first | refine optP_id ?_ | refine condP_id ?_ | refine condO_id ?_ | refine resP_id ?_); conv => { arg 1; simp (disch := first | assumption | omega) only [push_cast, ↓reduceIte, reduceIte, Nat.reduceEqDiff, Nat.reduceAdd, Nat.reduceSub, Nat.reduceMul, Nat.reduceBEq, Int.reduceNeg, e0, e3, hgb, h0, Nat.mul_one] }; first | ((with_reducible refine optP_id ?_); refine optP_some ?_) | ((with_reducible refine condP_id ?_); first | refine qcy ?_ | refine qcx ?_ | refine qco ?_ | refine condP_decn (fun hc => ?_) (fun hc => ?_) | refine condP_dec (fun hc => ?_) (fun hc => ?_) | refine qct ?_ | refine qcf ?_ | refine condP_bool (fun hc => ?_) (fun hc => ?_)) | ((with_reducible refine condO_id ?_); refine condO_some ?_) | ((with_reducible refine resP_id ?_); refine resP_one ?_))
    | refine wk_seq ?_ | refine wk_region ?_ | refine wk_block ?_ | refine wk_inBlock ?_ | refine wk_skip ?_ | refine wo_nil ?_ | refine wk_exit ?_ | refine exitK_code ?_ | refine exitK_hit ?_ | refine exitK_miss rfl ?_ | refine exitK_inLoop ?_ | refine wk_cond ?_ | refine wk_ret ?_ | refine wk_nil ?_ | refine wo_dst rfl (opR_pick ?_) | refine wo_guard rfl rfl ?_ | refine wo_guardn rfl ?_ | refine wo_dst rfl (opR_pure ?_) | refine wo_nodst (opR_pure ?_)
    | refine give_ret ?_ | refine give_end ?_)
          exact ⟨by rw [checkE, if_neg h16, if_pos ⟨l[i], List.getElem_mem hlt, .inr d1⟩], rfl⟩
        · repeat' (first
    | ((with_reducible first | refine optP_id ?_ | refine condP_id ?_ | refine condO_id ?_ | refine resP_id ?_); conv => { arg 1; simp (disch := first | assumption | omega) only [push_cast, ↓reduceIte, reduceIte, Nat.reduceEqDiff, Nat.reduceAdd, Nat.reduceSub, Nat.reduceMul, Nat.reduceBEq, Int.reduceNeg, e0, e3, hgb, h0, Nat.mul_one] }; first | ((with_reducible refine optP_id ?_); refine optP_some ?_) | ((with_reducible refine condP_id ?_); first | refine qcy ?_ | refine qcx ?_ | refine qco ?_ | refine condP_decn (fun hc => ?_) (fun hc => ?_) | refine condP_dec (fun hc => ?_) (fun hc => ?_) | refine qct ?_ | refine qcf ?_ | refine condP_bool (fun hc => ?_) (fun hc => ?_)) | ((with_reducible refine condO_id ?_); refine condO_some ?_) | ((with_reducible refine resP_id ?_); refine resP_one ?_))
    | refine wk_seq ?_ | refine wk_region ?_ | refine wk_block ?_ | refine wk_inBlock ?_ | refine wk_skip ?_ | refine wo_nil ?_ | refine wk_exit ?_ | refine exitK_code ?_ | refine exitK_hit ?_ | refine exitK_miss rfl ?_ | refine exitK_inLoop ?_ | refine wk_cond ?_ | refine wk_ret ?_ | refine wk_nil ?_ | refine wo_dst rfl (opR_pick ?_) | refine wo_guard rfl rfl ?_ | refine wo_guardn rfl ?_ | refine wo_dst rfl (opR_pure ?_) | refine wo_nodst (opR_pure ?_)
    | refine give_ret ?_ | refine give_end ?_)
          exact next (l.length - (i + 1)) _ _ (by omega) ⟨i + 1, rfl, by omega, rfl, fun k hk hk2 => if e : k = i then by subst e; omega else hall k hk (by omega), by simp (disch := first | assumption | omega) only [push_cast, ↓reduceIte, reduceIte, Nat.reduceEqDiff, Nat.reduceAdd, Nat.reduceSub, Nat.reduceMul, Nat.reduceBEq, Int.reduceNeg, e0], by simp (disch := first | assumption | omega) only [push_cast, ↓reduceIte, reduceIte, Nat.reduceEqDiff, Nat.reduceAdd, Nat.reduceSub, Nat.reduceMul, Nat.reduceBEq, Int.reduceNeg, Int.natCast_add, Int.natCast_one]⟩
    · have ilt : ¬ (i : Int) < (l.length : Int) := by omega
      have hN : ¬ hasN l := fun ⟨x, hx, hh⟩ => by
        obtain ⟨k, hk, rfl⟩ := List.getElem_of_mem hx
        have := hall k hk (by omega)
        omega
      by_cases hne : l = []
      · have n0 : ¬ (l.length : Int) > 0 := by rw [hne]; decide
        repeat' (first
    | ((with_reducible first | refine optP_id ?_ | refine condP_id ?_ | refine condO_id ?_ | refine resP_id ?_); conv => { arg 1; simp (disch := first | assumption | omega) only [push_cast, ↓reduceIte, reduceIte, Nat.reduceEqDiff, Nat.reduceAdd, Nat.reduceSub, Nat.reduceMul, Nat.reduceBEq, Int.reduceNeg, e0, e3] }; first | ((with_reducible refine optP_id ?_); refine optP_some ?_) | ((with_reducible refine condP_id ?_); first | refine qcy ?_ | refine qcx ?_ | refine qco ?_ | refine condP_decn (fun hc => ?_) (fun hc => ?_) | refine condP_dec (fun hc => ?_) (fun hc => ?_) | refine qct ?_ | refine qcf ?_ | refine condP_bool (fun hc => ?_) (fun hc => ?_)) | ((with_reducible refine condO_id ?_); refine condO_some ?_) | ((with_reducible refine resP_id ?_); refine resP_one ?_))
    | refine wk_seq ?_ | refine wk_region ?_ | refine wk_block ?_ | refine wk_inBlock ?_ | refine wk_skip ?_ | refine wo_nil ?_ | refine wk_exit ?_ | refine exitK_code ?_ | refine exitK_hit ?_ | refine exitK_miss rfl ?_ | refine exitK_inLoop ?_ | refine wk_cond ?_ | refine wk_ret ?_ | refine wk_nil ?_ | refine wo_dst rfl (opR_pick ?_) | refine wo_guard rfl rfl ?_ | refine wo_guardn rfl ?_ | refine wo_dst rfl (opR_pure ?_) | refine wo_nodst (opR_pure ?_)
    | refine give_ret ?_ | refine give_end ?_)
        exact ⟨by rw [checkE, if_neg h16, if_neg hN, if_neg (fun h => h.1 hne)], rfl⟩
      · have hpos := List.length_pos_iff.2 hne
        have y0 : (l.length : Int) > 0 := by omega
        obtain ⟨b, off, cs, rw', rfl, hb, hgb, hat⟩ := hv hne
        obtain ⟨m, hm⟩ : ∃ m, l.length = m + 1 := ⟨l.length - 1, by omega⟩
        have l1 : m < l.length := by omega
        have a0 := at_cut1 _ _ _ (hat 0 hpos)
        have a1 := at_cut1 _ _ _ (hat m l1)
        rw [Nat.mul_one] at a1
        rw [Nat.zero_mul, Nat.add_zero] at a0
        have e1 : ((l.length : Int) - 1) = (m : Int) := by omega
        have e2 : l.length - 1 = m := by omega
        have g0 : l[0]? = some l[0] := List.getElem?_eq_getElem hpos
        have g1 : l[l.length - 1]? = some l[m] := by rw [e2]; exact List.getElem?_eq_getElem l1
        by_cases z0 : l[0] = 0
        · repeat' (first
    | ((with_reducible first | refine optP_id ?_ | refine condP_id ?_ | refine condO_id ?_ | refine resP_id ?_); conv => { arg 1; simp (disch := first | assumption | omega) only [push_cast, ↓reduceIte, reduceIte, Nat.reduceEqDiff, Nat.reduceAdd, Nat.reduceSub, Nat.reduceMul, Nat.reduceBEq, Int.reduceNeg, e0, e3, hgb, a0, Nat.mul_one, e1] }; first | ((with_reducible refine optP_id ?_); refine optP_some ?_) | ((with_reducible refine condP_id ?_); first | refine qcy ?_ | refine qcx ?_ | refine qco ?_ | refine condP_decn (fun hc => ?_) (fun hc => ?_) | refine condP_dec (fun hc => ?_) (fun hc => ?_) | refine qct ?_ | refine qcf ?_ | refine condP_bool (fun hc => ?_) (fun hc => ?_)) | ((with_reducible refine condO_id ?_); refine condO_some ?_) | ((with_reducible refine resP_id ?_); refine resP_one ?_))
    | refine wk_seq ?_ | refine wk_region ?_ | refine wk_block ?_ | refine wk_inBlock ?_ | refine wk_skip ?_ | refine wo_nil ?_ | refine wk_exit ?_ | refine exitK_code ?_ | refine exitK_hit ?_ | refine exitK_miss rfl ?_ | refine exitK_inLoop ?_ | refine wk_cond ?_ | refine wk_ret ?_ | refine wk_nil ?_ | refine wo_dst rfl (opR_pick ?_) | refine wo_guard rfl rfl ?_ | refine wo_guardn rfl ?_ | refine wo_dst rfl (opR_pure ?_) | refine wo_nodst (opR_pure ?_)
    | refine give_ret ?_ | refine give_end ?_)
          exact ⟨by rw [checkE, if_neg h16, if_neg hN, if_pos ⟨hne, .inl (by rw [g0, z0])⟩], rfl⟩
        · by_cases z1 : l[m] = 0
          · repeat' (first
    | ((with_reducible first | refine optP_id ?_ | refine condP_id ?_ | refine condO_id ?_ | refine resP_id ?_); conv => { arg 1; simp (disch := first | assumption | omega) only [push_cast, ↓reduceIte, reduceIte, Nat.reduceEqDiff, Nat.reduceAdd, Nat.reduceSub, Nat.reduceMul, Nat.reduceBEq, Int.reduceNeg, e0, e3, hgb, a0, a1, Nat.mul_one, e1] }; first | ((with_reducible refine optP_id ?_); refine optP_some ?_) | ((with_reducible refine condP_id ?_); first | refine qcy ?_ | refine qcx ?_ | refine qco ?_ | refine condP_decn (fun hc => ?_) (fun hc => ?_) | refine condP_dec (fun hc => ?_) (fun hc => ?_) | refine qct ?_ | refine qcf ?_ | refine condP_bool (fun hc => ?_) (fun hc => ?_)) | ((with_reducible refine condO_id ?_); refine condO_some ?_) | ((with_reducible refine resP_id ?_); refine resP_one ?_))
    | refine wk_seq ?_ | refine wk_region ?_ | refine wk_block ?_ | refine wk_inBlock ?_ | refine wk_skip ?_ | refine wo_nil ?_ | refine wk_exit ?_ | refine exitK_code ?_ | refine exitK_hit ?_ | refine exitK_miss rfl ?_ | refine exitK_inLoop ?_ | refine wk_cond ?_ | refine wk_ret ?_ | refine wk_nil ?_ | refine wo_dst rfl (opR_pick ?_) | refine wo_guard rfl rfl ?_ | refine wo_guardn rfl ?_ | refine wo_dst rfl (opR_pure ?_) | refine wo_nodst (opR_pure ?_)
    | refine give_ret ?_ | refine give_end ?_)
            exact ⟨by rw [checkE, if_neg h16, if_neg hN, if_pos ⟨hne, .inr (by rw [g1, z1])⟩], rfl⟩
          · repeat' (first
    | ((with_reducible first | refine optP_id ?_ | refine condP_id ?_ | refine condO_id ?_ | refine resP_id ?_); conv => { arg 1; simp (disch := first | assumption | omega) only [push_cast, ↓reduceIte, reduceIte, Nat.reduceEqDiff, Nat.reduceAdd, Nat.reduceSub, Nat.reduceMul, Nat.reduceBEq, Int.reduceNeg, e0, e3, hgb, a0, a1, Nat.mul_one, e1] }; first | ((with_reducible refine optP_id ?_); refine optP_some ?_) | ((with_reducible refine condP_id ?_); first | refine qcy ?_ | refine qcx ?_ | refine qco ?_ | refine condP_decn (fun hc => ?_) (fun hc => ?_) | refine condP_dec (fun hc => ?_) (fun hc => ?_) | refine qct ?_ | refine qcf ?_ | refine condP_bool (fun hc => ?_) (fun hc => ?_)) | ((with_reducible refine condO_id ?_); refine condO_some ?_) | ((with_reducible refine resP_id ?_); refine resP_one ?_))
    | refine wk_seq ?_ | refine wk_region ?_ | refine wk_block ?_ | refine wk_inBlock ?_ | refine wk_skip ?_ | refine wo_nil ?_ | refine wk_exit ?_ | refine exitK_code ?_ | refine exitK_hit ?_ | refine exitK_miss rfl ?_ | refine exitK_inLoop ?_ | refine wk_cond ?_ | refine wk_ret ?_ | refine wk_nil ?_ | refine wo_dst rfl (opR_pick ?_) | refine wo_guard rfl rfl ?_ | refine wo_guardn rfl ?_ | refine wo_dst rfl (opR_pure ?_) | refine wo_nodst (opR_pure ?_)
    | refine give_ret ?_ | refine give_end ?_)
            exact ⟨by rw [checkE, if_neg h16, if_neg hN, if_neg (fun h => h.2.elim (fun h => by rw [g0] at h; exact z0 (Option.some.inj h)) (fun h => by rw [g1] at h; exact z1 (Option.some.inj h)))], rfl⟩
/-- without a 0 at the end -/
def noEnd (l : List Int) : Prop := l = [] ∨ l[l.length - 1]? ≠ some 0
theorem leN_take0 {l : List Int} {m : Nat} (hm : l.length = m + 1) (h0 : l[m]? = some 0) : leN (l.take m) = leN l := by
  have hlt : m < l.length := by omega
  have := leN_take hlt
  rw [List.take_of_length_le (by omega)] at this
  rw [List.getElem?_eq_getElem hlt] at h0
  rw [this, Option.some.inj h0]
  simp
set_option maxRecDepth 100000 in
set_option maxHeartbeats 8000000 in
theorem trim_w (l : List Int) (hd : digs l) (v : Value) (h : AHeap) (hv : IIn h v l) (hl : l.length ≤ 1000) :
    Wc pr (.func 120) [v] h fun r h' => (∃ m a c, r = .slice a m.length c ∧ IIn h (.slice a m.length c) m ∧ digs m ∧ noEnd m ∧ leN m = leN l ∧ m.length ≤ l.length ∧ (noEnd l → m = l)) ∧ h = h' := by
  obtain ⟨a, c, rfl, _⟩ := id hv
  refine wc_func Tryz.func120 rfl rfl rfl rfl ?_
  repeat' (first
    | ((with_reducible first | refine optP_id ?_ | refine condP_id ?_ | refine condO_id ?_ | refine resP_id ?_); conv => { arg 1; simp (disch := first | assumption | omega) only [push_cast, ↓reduceIte, reduceIte, Nat.reduceEqDiff, Nat.reduceAdd, Nat.reduceSub, Nat.reduceMul, Nat.reduceBEq, Int.reduceNeg] }; first | ((with_reducible refine optP_id ?_); refine optP_some ?_) | ((with_reducible refine condP_id ?_); first | refine qcy ?_ | refine qcx ?_ | refine qco ?_ | refine condP_decn (fun hc => ?_) (fun hc => ?_) | refine condP_dec (fun hc => ?_) (fun hc => ?_) | refine qct ?_ | refine qcf ?_ | refine condP_bool (fun hc => ?_) (fun hc => ?_)) | ((with_reducible refine condO_id ?_); refine condO_some ?_) | ((with_reducible refine resP_id ?_); refine resP_one ?_))
    | refine wk_seq ?_ | refine wk_region ?_ | refine wk_block ?_ | refine wk_inBlock ?_ | refine wk_skip ?_ | refine wo_nil ?_ | refine wk_exit ?_ | refine exitK_code ?_ | refine exitK_hit ?_ | refine exitK_miss rfl ?_ | refine exitK_inLoop ?_ | refine wk_cond ?_ | refine wk_ret ?_ | refine wk_nil ?_ | refine wo_dst rfl (opR_pick ?_) | refine wo_guard rfl rfl ?_ | refine wo_guardn rfl ?_ | refine wo_dst rfl (opR_pure ?_) | refine wo_nodst (opR_pure ?_)
    | refine give_ret ?_ | refine give_end ?_)
  refine wk_loop (fun n E H => ∃ (m : List Int) (a : Option Addr) (c : Nat), n = m.length ∧ h = H ∧ IIn h (.slice a m.length c) m ∧ digs m ∧ leN m = leN l ∧ m.length ≤ l.length ∧ (noEnd l → m = l) ∧ E.look 0 top = .slice a m.length c) l.length
    ⟨l, a, c, rfl, rfl, hv, hd, rfl, Nat.le_refl _, fun _ => rfl, by simp (disch := first | assumption | omega) only [push_cast, ↓reduceIte, reduceIte, Nat.reduceEqDiff, Nat.reduceAdd, Nat.reduceSub, Nat.reduceMul, Nat.reduceBEq, Int.reduceNeg]⟩ ?_
  rintro n E _ ⟨m, a, c, rfl, rfl, im, dm, vm, lm, hme, e0⟩ next
  by_cases hne : m = []
  · have n0 : ¬ (m.length : Int) > 0 := by rw [hne]; decide
    repeat' (first
    | ((with_reducible first | refine optP_id ?_ | refine condP_id ?_ | refine condO_id ?_ | refine resP_id ?_); conv => { arg 1; simp (disch := first | assumption | omega) only [push_cast, ↓reduceIte, reduceIte, Nat.reduceEqDiff, Nat.reduceAdd, Nat.reduceSub, Nat.reduceMul, Nat.reduceBEq, Int.reduceNeg, e0] }; first | ((with_reducible refine optP_id ?_); refine optP_some ?_) | ((with_reducible refine condP_id ?_); first | refine qcy ?_ | refine qcx ?_ | refine qco ?_ | refine condP_decn (fun hc => ?_) (fun hc => ?_) | refine condP_dec (fun hc => ?_) (fun hc => ?_) | refine qct ?_ | refine qcf ?_ | refine condP_bool (fun hc => ?_) (fun hc => ?_)) | ((with_reducible refine condO_id ?_); refine condO_some ?_) | ((with_reducible refine resP_id ?_); refine resP_one ?_))
    | refine wk_seq ?_ | refine wk_region ?_ | refine wk_block ?_ | refine wk_inBlock ?_ | refine wk_skip ?_ | refine wo_nil ?_ | refine wk_exit ?_ | refine exitK_code ?_ | refine exitK_hit ?_ | refine exitK_miss rfl ?_ | refine exitK_inLoop ?_ | refine wk_cond ?_ | refine wk_ret ?_ | refine wk_nil ?_ | refine wo_dst rfl (opR_pick ?_) | refine wo_guard rfl rfl ?_ | refine wo_guardn rfl ?_ | refine wo_dst rfl (opR_pure ?_) | refine wo_nodst (opR_pure ?_)
    | refine give_ret ?_ | refine give_end ?_)
    exact ⟨⟨m, a, c, rfl, im, dm, .inl hne, vm, lm, hme⟩, rfl⟩
  · have hpos := List.length_pos_iff.2 hne
    have y0 : (m.length : Int) > 0 := by omega
    obtain ⟨k, hk⟩ : ∃ k, m.length = k + 1 := ⟨m.length - 1, by omega⟩
    have l1 : k < m.length := by omega
    have e1 : ((m.length : Int) - 1) = (k : Int) := by omega
    have e2 : m.length - 1 = k := by omega
    obtain ⟨v4, hsl, hin4⟩ := slice_to im (j := k) (by omega)
    obtain ⟨a4, c4, rfl, q1, q2⟩ := hin4
    have hin4 : IIn h (.slice a4 (m.take k).length c4) (m.take k) := ⟨a4, c4, rfl, q1, q2⟩
    have im' := im
    obtain ⟨_, _, e3, _, hv3⟩ := im
    cases e3
    obtain ⟨b3, off3, cs3, rw3, rfl, hb3, hgb3, hat3⟩ := hv3 hne
    have a1 := at_cut1 _ _ _ (hat3 k l1)
    rw [Nat.mul_one] at a1
    have g1 : m[m.length - 1]? = some m[k] := by rw [e2]; exact List.getElem?_eq_getElem l1
    by_cases z1 : m[k] = 0
    · repeat' (first
    | ((with_reducible first | refine optP_id ?_ | refine condP_id ?_ | refine condO_id ?_ | refine resP_id ?_); conv => { arg 1; simp (disch := first | assumption | omega) only [push_cast, ↓reduceIte, reduceIte, Nat.reduceEqDiff, Nat.reduceAdd, Nat.reduceSub, Nat.reduceMul, Nat.reduceBEq, Int.reduceNeg, e0, hgb3, a1, Nat.mul_one, e1] }; first | ((with_reducible refine optP_id ?_); refine optP_some ?_) | ((with_reducible refine condP_id ?_); first | refine qcy ?_ | refine qcx ?_ | refine qco ?_ | refine condP_decn (fun hc => ?_) (fun hc => ?_) | refine condP_dec (fun hc => ?_) (fun hc => ?_) | refine qct ?_ | refine qcf ?_ | refine condP_bool (fun hc => ?_) (fun hc => ?_)) | ((with_reducible refine condO_id ?_); refine condO_some ?_) | ((with_reducible refine resP_id ?_); refine resP_one ?_))
    | refine wk_seq ?_ | refine wk_region ?_ | refine wk_block ?_ | refine wk_inBlock ?_ | refine wk_skip ?_ | refine wo_nil ?_ | refine wk_exit ?_ | refine exitK_code ?_ | refine exitK_hit ?_ | refine exitK_miss rfl ?_ | refine exitK_inLoop ?_ | refine wk_cond ?_ | refine wk_ret ?_ | refine wk_nil ?_ | refine wo_dst rfl (opR_pick ?_) | refine wo_guard rfl rfl ?_ | refine wo_guardn rfl ?_ | refine wo_dst rfl (opR_pure ?_) | refine wo_nodst (opR_pure ?_)
    | refine give_ret ?_ | refine give_end ?_)
      conv => { arg 1; simp (disch := first | assumption | omega) only [push_cast, ↓reduceIte, reduceIte, Nat.reduceEqDiff, Nat.reduceAdd, Nat.reduceSub, Nat.reduceMul, Nat.reduceBEq, Int.reduceNeg, sl22] }
      rw [hsl]
      refine optP_some ?_
      repeat' (first
    | ((with_reducible first | refine optP_id ?_ | refine condP_id ?_ | refine condO_id ?_ | refine resP_id ?_); conv => { arg 1; simp (disch := first | assumption | omega) only [push_cast, ↓reduceIte, reduceIte, Nat.reduceEqDiff, Nat.reduceAdd, Nat.reduceSub, Nat.reduceMul, Nat.reduceBEq, Int.reduceNeg, e0] }; first | ((with_reducible refine optP_id ?_); refine optP_some ?_) | ((with_reducible refine condP_id ?_); first | refine qcy ?_ | refine qcx ?_ | refine qco ?_ | refine condP_decn (fun hc => ?_) (fun hc => ?_) | refine condP_dec (fun hc => ?_) (fun hc => ?_) | refine qct ?_ | refine qcf ?_ | refine condP_bool (fun hc => ?_) (fun hc => ?_)) | ((with_reducible refine condO_id ?_); refine condO_some ?_) | ((with_reducible refine resP_id ?_); refine resP_one ?_))
    | refine wk_seq ?_ | refine wk_region ?_ | refine wk_block ?_ | refine wk_inBlock ?_ | refine wk_skip ?_ | refine wo_nil ?_ | refine wk_exit ?_ | refine exitK_code ?_ | refine exitK_hit ?_ | refine exitK_miss rfl ?_ | refine exitK_inLoop ?_ | refine wk_cond ?_ | refine wk_ret ?_ | refine wk_nil ?_ | refine wo_dst rfl (opR_pick ?_) | refine wo_guard rfl rfl ?_ | refine wo_guardn rfl ?_ | refine wo_dst rfl (opR_pure ?_) | refine wo_nodst (opR_pure ?_)
    | refine give_ret ?_ | refine give_end ?_)
      refine next (m.take k).length _ _ (by rw [List.length_take]; omega) ⟨m.take k, a4, c4, rfl, rfl, hin4, digs_take dm k, ?_, by rw [List.length_take]; omega, fun hh => ?_, by simp (disch := first | assumption | omega) only [push_cast, ↓reduceIte, reduceIte, Nat.reduceEqDiff, Nat.reduceAdd, Nat.reduceSub, Nat.reduceMul, Nat.reduceBEq, Int.reduceNeg]⟩
      · rw [leN_take0 hk (by rw [List.getElem?_eq_getElem l1, z1]), vm]
      · rcases hh with hh | hh
        · have := hme (.inl hh)
          exact absurd (by rw [this, hh]) hne
        · have hm2 := hme (.inr hh)
          rw [← hm2] at hh
          exact absurd (by rw [g1, z1]) hh
    · repeat' (first
    | ((with_reducible first | refine optP_id ?_ | refine condP_id ?_ | refine condO_id ?_ | refine resP_id ?_); conv => { arg 1; simp (disch := first | assumption | omega) only [push_cast, ↓reduceIte, reduceIte, Nat.reduceEqDiff, Nat.reduceAdd, Nat.reduceSub, Nat.reduceMul, Nat.reduceBEq, Int.reduceNeg, e0, hgb3, a1, Nat.mul_one, e1] }; first | ((with_reducible refine optP_id ?_); refine optP_some ?_) | ((with_reducible refine condP_id ?_); first | refine qcy ?_ | refine qcx ?_ | refine qco ?_ | refine condP_decn (fun hc => ?_) (fun hc => ?_) | refine condP_dec (fun hc => ?_) (fun hc => ?_) | refine qct ?_ | refine qcf ?_ | refine condP_bool (fun hc => ?_) (fun hc => ?_)) | ((with_reducible refine condO_id ?_); refine condO_some ?_) | ((with_reducible refine resP_id ?_); refine resP_one ?_))
    | refine wk_seq ?_ | refine wk_region ?_ | refine wk_block ?_ | refine wk_inBlock ?_ | refine wk_skip ?_ | refine wo_nil ?_ | refine wk_exit ?_ | refine exitK_code ?_ | refine exitK_hit ?_ | refine exitK_miss rfl ?_ | refine exitK_inLoop ?_ | refine wk_cond ?_ | refine wk_ret ?_ | refine wk_nil ?_ | refine wo_dst rfl (opR_pick ?_) | refine wo_guard rfl rfl ?_ | refine wo_guardn rfl ?_ | refine wo_dst rfl (opR_pure ?_) | refine wo_nodst (opR_pure ?_)
    | refine give_ret ?_ | refine give_end ?_)
      exact ⟨⟨m, _, c, rfl, im', dm, .inr (fun hh => z1 (by rw [g1] at hh; exact Option.some.inj hh)), vm, lm, hme⟩, rfl⟩
end Go.Proofs.YtcfohcpcepeolaaGreatDoor
/- Contracts of the reference: big, digits. -/
namespace Go.Proofs.YtcfohcpcepeolaaGreatDoor
open Go.Ev
theorem leN_rev : ∀ l : List Int, leN l.reverse = valN l
  | [] => rfl
  | d :: t => by
    rw [List.reverse_cons, leN_app, leN_rev t, List.length_reverse, valN]
    simp only [leN]
    rw [Nat.mul_zero, Nat.add_zero, Nat.mul_comm, Nat.add_comm]
theorem rdrop_step {l : List Int} {k : Nat} (hk : k < l.length) : (l.drop k).reverse = (l.drop (k + 1)).reverse ++ [l[k]] := by
  rw [List.drop_eq_getElem_cons hk, List.reverse_cons]
theorem rdrop_top (l : List Int) : (l.drop l.length).reverse = [] := by simp
theorem digs_rdrop {l : List Int} (h : digs l) (k : Nat) : digs (l.drop k).reverse := fun x hx => h x (List.mem_of_mem_drop (List.mem_reverse.1 hx))
def OwnI (base : Nat) (H : AHeap) (L : List Int) (b : Nat) : Prop := L ≠ [] → base ≤ b ∧ b < H.next ∧ H.get b = some (.cells (flatE encI L) 3 true)
theorem own_base {base : Nat} {H : AHeap} {L : List Int} {b b' o' : Nat} {q' : Option Nat} (h : OwnI base H L b) (e : ownB L b = some ⟨b', o', q'⟩) : base ≤ b' := by
  cases L with
  | nil => cases e
  | cons x L =>
    have e2 : some (⟨b, 0, none⟩ : Addr) = some ⟨b', o', q'⟩ := e
    cases e2
    exact (h (by simp)).1
theorem IIn.set {H : AHeap} {a : Option Addr} {n c q : Nat} {l : List Int} {ob : AObj} (h : IIn H (.slice a n c) l) (hb : ∀ b o s, a = some ⟨b, o, s⟩ → b ≠ q) : IIn (H.set q ob) (.slice a n c) l := by
  obtain ⟨a', c', e, hc, hv⟩ := h
  cases e
  refine ⟨a, c, rfl, hc, fun hne => ?_⟩
  obtain ⟨b, off, all, rw', h1, h2, h3, h4⟩ := hv hne
  refine ⟨b, off, all, rw', h1, by rw [next_set]; exact h2, ?_, h4⟩
  rw [get_set_ne (fun e => hb _ _ _ h1 e.symm)]
  exact h3
theorem OwnI.inn {base : Nat} {H : AHeap} {L : List Int} {b : Nat} (h : OwnI base H L b) (hl : L.length ≤ 100000) : IIn H (.slice (ownB L b) L.length L.length) L :=
  own_in encI_len (by rw [(capLo_small (c := L.length) (by unfold EX; omega)).1]; exact Nat.le_refl _) (fun hn => (h hn).2.1) (fun hn => ⟨true, (h hn).2.2⟩)
set_option maxRecDepth 100000 in
set_option maxHeartbeats 8000000 in
theorem big_w (l : List Int) (hd : valid l) (ll : l.length ≤ 16) (v : Value) (h : AHeap) (hv : IIn h v l) :
    Wc pr (.func 64) [v] h fun r h' => (∃ m a c, r = .slice a m.length c ∧ IIn h' (.slice a m.length c) m ∧ digs m ∧ leN m = valN l ∧ m.length ≤ 16) ∧ Gr h h' := by
  obtain ⟨a, c, rfl, _, hv'⟩ := id hv
  refine wc_func Tryz.func64 rfl rfl rfl rfl ?_
  repeat' (first
    | ((with_reducible first | refine optP_id ?_ | refine condP_id ?_ | refine resP_id ?_ | refine callT_of ?_); conv => { arg 1; simp (disch := first | assumption | omega) only [push_cast, ↓reduceIte, reduceIte, Nat.reduceEqDiff, Nat.reduceAdd, Nat.reduceSub, Nat.reduceMul, Nat.reduceBEq, Int.reduceNeg] }; first | ((with_reducible refine optP_id ?_); refine optP_some ?_) | ((with_reducible refine condP_id ?_); first | refine qcy ?_ | refine qcx ?_ | refine qco ?_ | refine condP_decn (fun hc => ?_) (fun hc => ?_) | refine condP_dec (fun hc => ?_) (fun hc => ?_) | refine qct ?_ | refine qcf ?_ | refine condP_bool (fun hc => ?_) (fun hc => ?_)) | ((with_reducible refine resP_id ?_); refine resP_one ?_) | ((with_reducible refine callT_to ?_); refine callP_plain ?_))
    | refine wk_seq ?_ | refine wk_region ?_ | refine wk_block ?_ | refine wk_inBlock ?_ | refine wk_skip ?_ | refine wo_nil ?_ | refine wk_exit ?_ | refine exitK_code ?_ | refine exitK_hit ?_ | refine exitK_miss rfl ?_ | refine exitK_inLoop ?_ | refine wk_cond ?_ | refine wk_ret ?_ | refine wk_nil ?_ | refine wo_dst rfl (opR_call ?_) | refine wo_nodst (opR_call ?_) | refine wo_dst rfl (opR_pure ?_) | refine wo_nodst (opR_pure ?_)
    | refine give_ret ?_ | refine give_end ?_)
  refine wk_loop (fun n E H => ∃ (k b : Nat), n = k ∧ k ≤ l.length ∧ OwnI h.next H (l.drop k).reverse b ∧ Gr h H ∧ E.look 0 top = .slice a l.length c ∧ E.look 3 top = .slice (ownB (l.drop k).reverse b) (l.drop k).reverse.length (l.drop k).reverse.length ∧ E.look 4 top = .int .i64 ((k : Int) - 1)) l.length
    ⟨l.length, 0, rfl, Nat.le_refl _, fun hn => absurd (rdrop_top l) hn, by (repeat (first | exact Gr.refl _ | assumption | (refine Gr.trans ?_ (by assumption)) | refine Gr.set ?_ (by first | exact Nat.le_refl _ | omega | (simp only [next_new, next_set]; omega)) _ | refine Gr.new ?_ _)), by simp (disch := first | assumption | omega) only [push_cast, ↓reduceIte, reduceIte, Nat.reduceEqDiff, Nat.reduceAdd, Nat.reduceSub, Nat.reduceMul, Nat.reduceBEq, Int.reduceNeg], by rw [rdrop_top]; simp (disch := first | assumption | omega) only [push_cast, ↓reduceIte, reduceIte, Nat.reduceEqDiff, Nat.reduceAdd, Nat.reduceSub, Nat.reduceMul, Nat.reduceBEq, Int.reduceNeg, ownB_nil, List.length_nil], by simp (disch := first | assumption | omega) only [push_cast, ↓reduceIte, reduceIte, Nat.reduceEqDiff, Nat.reduceAdd, Nat.reduceSub, Nat.reduceMul, Nat.reduceBEq, Int.reduceNeg]⟩ ?_
  rintro n E H ⟨k, b, rfl, hk, hown, gr, e0, e3, e4⟩ next
  have gn := gr.1
  by_cases hz : n = 0
  · subst hz
    have n0 : ¬ ((((0 : Nat) : Int) - 1) ≥ 0) := by omega
    repeat' (first
    | ((with_reducible first | refine optP_id ?_ | refine condP_id ?_ | refine resP_id ?_ | refine callT_of ?_); conv => { arg 1; simp (disch := first | assumption | omega) only [push_cast, ↓reduceIte, reduceIte, Nat.reduceEqDiff, Nat.reduceAdd, Nat.reduceSub, Nat.reduceMul, Nat.reduceBEq, Int.reduceNeg, e0, e3, e4] }; first | ((with_reducible refine optP_id ?_); refine optP_some ?_) | ((with_reducible refine condP_id ?_); first | refine qcy ?_ | refine qcx ?_ | refine qco ?_ | refine condP_decn (fun hc => ?_) (fun hc => ?_) | refine condP_dec (fun hc => ?_) (fun hc => ?_) | refine qct ?_ | refine qcf ?_ | refine condP_bool (fun hc => ?_) (fun hc => ?_)) | ((with_reducible refine resP_id ?_); refine resP_one ?_) | ((with_reducible refine callT_to ?_); refine callP_plain ?_))
    | refine wk_seq ?_ | refine wk_region ?_ | refine wk_block ?_ | refine wk_inBlock ?_ | refine wk_skip ?_ | refine wo_nil ?_ | refine wk_exit ?_ | refine exitK_code ?_ | refine exitK_hit ?_ | refine exitK_miss rfl ?_ | refine exitK_inLoop ?_ | refine wk_cond ?_ | refine wk_ret ?_ | refine wk_nil ?_ | refine wo_dst rfl (opR_call ?_) | refine wo_nodst (opR_call ?_) | refine wo_dst rfl (opR_pure ?_) | refine wo_nodst (opR_pure ?_)
    | refine give_ret ?_ | refine give_end ?_)
    rw [List.drop_zero] at hown
    have hin := OwnI.inn hown (by rw [List.length_reverse]; omega)
    refine (trim_w _ (by have := digs_rdrop hd.1 0; rwa [List.drop_zero] at this) _ _ hin (by rw [List.length_reverse]; omega)).mono ?_
    rintro _ _ ⟨⟨m, am, cm, rfl, im, dm, _, vm, lm, _⟩, rfl⟩
    rw [List.length_reverse] at lm
    repeat' (first
    | ((with_reducible first | refine optP_id ?_ | refine condP_id ?_ | refine resP_id ?_ | refine callT_of ?_); conv => { arg 1; simp (disch := first | assumption | omega) only [push_cast, ↓reduceIte, reduceIte, Nat.reduceEqDiff, Nat.reduceAdd, Nat.reduceSub, Nat.reduceMul, Nat.reduceBEq, Int.reduceNeg] }; first | ((with_reducible refine optP_id ?_); refine optP_some ?_) | ((with_reducible refine condP_id ?_); first | refine qcy ?_ | refine qcx ?_ | refine qco ?_ | refine condP_decn (fun hc => ?_) (fun hc => ?_) | refine condP_dec (fun hc => ?_) (fun hc => ?_) | refine qct ?_ | refine qcf ?_ | refine condP_bool (fun hc => ?_) (fun hc => ?_)) | ((with_reducible refine resP_id ?_); refine resP_one ?_) | ((with_reducible refine callT_to ?_); refine callP_plain ?_))
    | refine wk_seq ?_ | refine wk_region ?_ | refine wk_block ?_ | refine wk_inBlock ?_ | refine wk_skip ?_ | refine wo_nil ?_ | refine wk_exit ?_ | refine exitK_code ?_ | refine exitK_hit ?_ | refine exitK_miss rfl ?_ | refine exitK_inLoop ?_ | refine wk_cond ?_ | refine wk_ret ?_ | refine wk_nil ?_ | refine wo_dst rfl (opR_call ?_) | refine wo_nodst (opR_call ?_) | refine wo_dst rfl (opR_pure ?_) | refine wo_nodst (opR_pure ?_)
    | refine give_ret ?_ | refine give_end ?_)
    exact ⟨⟨m, am, cm, rfl, im, dm, by rw [vm, leN_rev], by omega⟩, gr⟩
  · obtain ⟨j, rfl⟩ : ∃ j, n = j + 1 := ⟨n - 1, by omega⟩
    have ej : (((j + 1 : Nat) : Int) - 1) = (j : Int) := by omega
    rw [ej] at e4
    have hj : j < l.length := by omega
    have j0 : (j : Int) ≥ 0 := by omega
    have hlen : (l.drop (j + 1)).reverse.length ≤ 16 := by rw [List.length_reverse, List.length_drop]; omega
    have hst := rdrop_step hj
    obtain ⟨bu, offu, allu, rwu, rfl, hbu, hgu, htu⟩ := hv' (by intro h; rw [h] at hj; exact absurd hj (Nat.not_lt_zero _))
    have hguH : H.get bu = some (.cells allu 3 rwu) := by rw [gr.2 bu hbu]; exact hgu
    have h1 := at_cut1 _ _ _ (htu j hj)
    rw [Nat.mul_one] at h1
    generalize l[j] = x at *
    generalize (l.drop (j + 1)).reverse = L at *
    repeat' (first
    | ((with_reducible first | refine optP_id ?_ | refine condP_id ?_ | refine resP_id ?_ | refine callT_of ?_); conv => { arg 1; simp (disch := first | assumption | omega) only [push_cast, ↓reduceIte, reduceIte, Nat.reduceEqDiff, Nat.reduceAdd, Nat.reduceSub, Nat.reduceMul, Nat.reduceBEq, Int.reduceNeg, e0, e3, e4, hguH, h1, Nat.mul_one] }; first | ((with_reducible refine optP_id ?_); refine optP_some ?_) | ((with_reducible refine condP_id ?_); first | refine qcy ?_ | refine qcx ?_ | refine qco ?_ | refine condP_decn (fun hc => ?_) (fun hc => ?_) | refine condP_dec (fun hc => ?_) (fun hc => ?_) | refine qct ?_ | refine qcf ?_ | refine condP_bool (fun hc => ?_) (fun hc => ?_)) | ((with_reducible refine resP_id ?_); refine resP_one ?_) | ((with_reducible refine callT_to ?_); refine callP_plain ?_))
    | refine wk_seq ?_ | refine wk_region ?_ | refine wk_block ?_ | refine wk_inBlock ?_ | refine wk_skip ?_ | refine wo_nil ?_ | refine wk_exit ?_ | refine exitK_code ?_ | refine exitK_hit ?_ | refine exitK_miss rfl ?_ | refine exitK_inLoop ?_ | refine wk_cond ?_ | refine wk_ret ?_ | refine wk_nil ?_ | refine wo_dst rfl (opR_call ?_) | refine wo_nodst (opR_call ?_) | refine wo_dst rfl (opR_pure ?_) | refine wo_nodst (opR_pure ?_)
    | refine give_ret ?_ | refine give_end ?_)
    conv => { arg 1; simp (disch := first | assumption | omega) only [push_cast, ↓reduceIte, reduceIte, Nat.reduceEqDiff, Nat.reduceAdd, Nat.reduceSub, Nat.reduceMul, Nat.reduceBEq, Int.reduceNeg, ap22] }
    refine optP_one (x := x) (e' := 3) (rw' := true) encI_len (fun _ => rfl) (by omega) (by omega) (fun hn => by obtain ⟨q0, q1, q2⟩ := hown hn; simp (disch := first | assumption | omega) only [push_cast, ↓reduceIte, reduceIte, Nat.reduceEqDiff, Nat.reduceAdd, Nat.reduceSub, Nat.reduceMul, Nat.reduceBEq, Int.reduceNeg]; exact q2) (by unfold encI; simp (disch := first | assumption | omega) only [push_cast, ↓reduceIte, reduceIte, Nat.reduceEqDiff, Nat.reduceAdd, Nat.reduceSub, Nat.reduceMul, Nat.reduceBEq, Int.reduceNeg]) ?_
    intro H3 n3 new3 keep3
    simp only [next_new] at n3 new3 keep3
    repeat' (first
    | ((with_reducible first | refine optP_id ?_ | refine condP_id ?_ | refine resP_id ?_ | refine callT_of ?_); conv => { arg 1; simp (disch := first | assumption | omega) only [push_cast, ↓reduceIte, reduceIte, Nat.reduceEqDiff, Nat.reduceAdd, Nat.reduceSub, Nat.reduceMul, Nat.reduceBEq, Int.reduceNeg, e0, e3, e4] }; first | ((with_reducible refine optP_id ?_); refine optP_some ?_) | ((with_reducible refine condP_id ?_); first | refine qcy ?_ | refine qcx ?_ | refine qco ?_ | refine condP_decn (fun hc => ?_) (fun hc => ?_) | refine condP_dec (fun hc => ?_) (fun hc => ?_) | refine qct ?_ | refine qcf ?_ | refine condP_bool (fun hc => ?_) (fun hc => ?_)) | ((with_reducible refine resP_id ?_); refine resP_one ?_) | ((with_reducible refine callT_to ?_); refine callP_plain ?_))
    | refine wk_seq ?_ | refine wk_region ?_ | refine wk_block ?_ | refine wk_inBlock ?_ | refine wk_skip ?_ | refine wo_nil ?_ | refine wk_exit ?_ | refine exitK_code ?_ | refine exitK_hit ?_ | refine exitK_miss rfl ?_ | refine exitK_inLoop ?_ | refine wk_cond ?_ | refine wk_ret ?_ | refine wk_nil ?_ | refine wo_dst rfl (opR_call ?_) | refine wo_nodst (opR_call ?_) | refine wo_dst rfl (opR_pure ?_) | refine wo_nodst (opR_pure ?_)
    | refine give_ret ?_ | refine give_end ?_)
    refine next j _ _ (by omega) ⟨j, H.next + 1, rfl, by omega, by rw [hst]; exact fun _ => ⟨by omega, by omega, new3⟩, ⟨by omega, fun c hc => ?_⟩, by simp (disch := first | assumption | omega) only [push_cast, ↓reduceIte, reduceIte, Nat.reduceEqDiff, Nat.reduceAdd, Nat.reduceSub, Nat.reduceMul, Nat.reduceBEq, Int.reduceNeg, e0], by rw [hst]; simp (disch := first | assumption | omega) only [push_cast, ↓reduceIte, reduceIte, Nat.reduceEqDiff, Nat.reduceAdd, Nat.reduceSub, Nat.reduceMul, Nat.reduceBEq, Int.reduceNeg], by simp (disch := first | assumption | omega) only [push_cast, ↓reduceIte, reduceIte, Nat.reduceEqDiff, Nat.reduceAdd, Nat.reduceSub, Nat.reduceMul, Nat.reduceBEq, Int.reduceNeg]⟩
    rw [keep3 c (by omega) (fun hn => by have := (hown hn).1; omega)]
    simp (disch := first | assumption | omega) only [push_cast, ↓reduceIte, reduceIte, Nat.reduceEqDiff, Nat.reduceAdd, Nat.reduceSub, Nat.reduceMul, Nat.reduceBEq, Int.reduceNeg]
    exact gr.2 c hc
theorem low0 : ∀ {l : List Int} {z : Nat}, z ≤ l.length → (∀ j (hj : j < l.length), j < z → l[j] = 0) → leN (l.drop z) * 60 ^ z = leN l
  | l, 0, _, _ => by simp
  | [], z + 1, h, _ => absurd h (Nat.not_succ_le_zero z)
  | d :: t, z + 1, h, h0 => by
    have hd : d = 0 := h0 0 (by simp) (by omega)
    have ih := low0 (l := t) (z := z) (by simpa using h) (fun j hj hjz => by
      have := h0 (j + 1) (by simpa using hj) (by omega)
      simpa using this)
    rw [List.drop_succ_cons, Nat.pow_succ, ← Nat.mul_assoc, ih, leN, hd]
    simp [Nat.mul_comm]
theorem valid_rdrop {l : List Int} {z : Nat} (hd : digs l) (he : noEnd l) (hz : z < l.length) (h0 : l[z]'hz ≠ 0) : valid (l.drop z).reverse := by
  have hlen : (l.drop z).length = l.length - z := List.length_drop
  refine ⟨digs_rdrop hd z, ?_, fun _ => ?_⟩
  · rw [List.getElem?_reverse (by omega), List.getElem?_drop, hlen, show z + (l.length - z - 1 - 0) = l.length - 1 by omega]
    rcases he with h | h
    · rw [h] at hz; exact absurd hz (Nat.not_lt_zero _)
    · exact h
  · rw [List.length_reverse, List.getElem?_reverse (by omega), List.getElem?_drop, hlen, show z + (l.length - z - 1 - (l.length - z - 1)) = z by omega, List.getElem?_eq_getElem hz]
    intro h
    exact h0 (Option.some.inj h)
set_option maxRecDepth 100000 in
set_option maxHeartbeats 8000000 in
theorem rdigits_w (l : List Int) (hd : digs l) (he : noEnd l) (ll : l.length ≤ 1000) (v : Value) (h : AHeap) (hv : IIn h v l) :
    Wc pr (.func 71) [v] h fun r h' => (∃ d a c z, r = .tuple #[.slice a d.length c, .int .i64 ((z : Nat) : Int)] ∧ IIn h' (.slice a d.length c) d ∧ nf (leN l) d ∧ (d ≠ [] → valN d * 60 ^ z = leN l) ∧ z ≤ l.length ∧ (∀ b o q, a = some ⟨b, o, q⟩ → h.next ≤ b)) ∧ Gr h h' := by
  obtain ⟨a, c, rfl, _, hv'⟩ := id hv
  refine wc_func Tryz.func71 rfl rfl rfl rfl ?_
  repeat' (first
    | ((with_reducible first | refine optP_id ?_ | refine condP_id ?_ | refine condO_id ?_ | refine resP_id ?_); conv => { arg 1; simp (disch := first | assumption | omega) only [push_cast, ↓reduceIte, reduceIte, Nat.reduceEqDiff, Nat.reduceAdd, Nat.reduceSub, Nat.reduceMul, Nat.reduceBEq, Int.reduceNeg] }; first | ((with_reducible refine optP_id ?_); refine optP_some ?_) | ((with_reducible refine condP_id ?_); first | refine qcy ?_ | refine qcx ?_ | refine qco ?_ | refine condP_decn (fun hc => ?_) (fun hc => ?_) | refine condP_dec (fun hc => ?_) (fun hc => ?_) | refine qct ?_ | refine qcf ?_ | refine condP_bool (fun hc => ?_) (fun hc => ?_)) | ((with_reducible refine condO_id ?_); refine condO_some ?_) | ((with_reducible refine resP_id ?_); refine resP_two ?_))
    | refine wk_seq ?_ | refine wk_region ?_ | refine wk_block ?_ | refine wk_inBlock ?_ | refine wk_skip ?_ | refine wo_nil ?_ | refine wk_exit ?_ | refine exitK_code ?_ | refine exitK_hit ?_ | refine exitK_miss rfl ?_ | refine exitK_inLoop ?_ | refine wk_cond ?_ | refine wk_ret ?_ | refine wk_nil ?_ | refine wo_dst rfl (opR_pick ?_) | refine wo_guard rfl rfl ?_ | refine wo_guardn rfl ?_ | refine wo_dst rfl (opR_pure ?_) | refine wo_nodst (opR_pure ?_)
    | refine give_ret ?_ | refine give_end ?_)
  refine wk_loop (fun n E H => ∃ z : Nat, n = l.length - z ∧ z ≤ l.length ∧ h = H ∧ (∀ j (hj : j < l.length), j < z → l[j] = 0) ∧ E.look 0 top = .slice a l.length c ∧ E.look 4 top = .int .i64 (z : Int)) l.length
    ⟨0, by omega, by omega, rfl, fun j _ hj => absurd hj (Nat.not_lt_zero j), by simp (disch := first | assumption | omega) only [push_cast, ↓reduceIte, reduceIte, Nat.reduceEqDiff, Nat.reduceAdd, Nat.reduceSub, Nat.reduceMul, Nat.reduceBEq, Int.reduceNeg], by simp (disch := first | assumption | omega) only [push_cast, ↓reduceIte, reduceIte, Nat.reduceEqDiff, Nat.reduceAdd, Nat.reduceSub, Nat.reduceMul, Nat.reduceBEq, Int.reduceNeg, Int.natCast_zero]⟩ ?_
  rintro n E _ ⟨z, rfl, hz, rfl, hall, e0, e4⟩ next
  by_cases hgo : l[z]? = some 0
  · have hlt : z < l.length := by
      rcases Nat.lt_or_ge z l.length with q | q
      · exact q
      · rw [List.getElem?_eq_none q] at hgo; cases hgo
    have ilt : (z : Int) < (l.length : Int) := by omega
    have hz0 : l[z] = 0 := by rw [List.getElem?_eq_getElem hlt] at hgo; exact Option.some.inj hgo
    obtain ⟨bu, offu, allu, rwu, rfl, hbu, hgu, htu⟩ := hv' (by intro h; rw [h] at hlt; exact absurd hlt (Nat.not_lt_zero _))
    have h1 := at_cut1 _ _ _ (htu z hlt)
    rw [Nat.mul_one] at h1
    repeat' (first
    | ((with_reducible first | refine optP_id ?_ | refine condP_id ?_ | refine condO_id ?_ | refine resP_id ?_); conv => { arg 1; simp (disch := first | assumption | omega) only [push_cast, ↓reduceIte, reduceIte, Nat.reduceEqDiff, Nat.reduceAdd, Nat.reduceSub, Nat.reduceMul, Nat.reduceBEq, Int.reduceNeg, e0, e4, hgu, h1, Nat.mul_one] }; first | ((with_reducible refine optP_id ?_); refine optP_some ?_) | ((with_reducible refine condP_id ?_); first | refine qcy ?_ | refine qcx ?_ | refine qco ?_ | refine condP_decn (fun hc => ?_) (fun hc => ?_) | refine condP_dec (fun hc => ?_) (fun hc => ?_) | refine qct ?_ | refine qcf ?_ | refine condP_bool (fun hc => ?_) (fun hc => ?_)) | ((with_reducible refine condO_id ?_); refine condO_some ?_) | ((with_reducible refine resP_id ?_); refine resP_two ?_))
    | refine wk_seq ?_ | refine wk_region ?_ | refine wk_block ?_ | refine wk_inBlock ?_ | refine wk_skip ?_ | refine wo_nil ?_ | refine wk_exit ?_ | refine exitK_code ?_ | refine exitK_hit ?_ | refine exitK_miss rfl ?_ | refine exitK_inLoop ?_ | refine wk_cond ?_ | refine wk_ret ?_ | refine wk_nil ?_ | refine wo_dst rfl (opR_pick ?_) | refine wo_guard rfl rfl ?_ | refine wo_guardn rfl ?_ | refine wo_dst rfl (opR_pure ?_) | refine wo_nodst (opR_pure ?_)
    | refine give_ret ?_ | refine give_end ?_)
    exact next (l.length - (z + 1)) _ _ (by omega) ⟨z + 1, rfl, by omega, rfl, fun j hj hj2 => if e : j = z then by subst e; exact hz0 else hall j hj (by omega), by simp (disch := first | assumption | omega) only [push_cast, ↓reduceIte, reduceIte, Nat.reduceEqDiff, Nat.reduceAdd, Nat.reduceSub, Nat.reduceMul, Nat.reduceBEq, Int.reduceNeg, e0], by simp (disch := first | assumption | omega) only [push_cast, ↓reduceIte, reduceIte, Nat.reduceEqDiff, Nat.reduceAdd, Nat.reduceSub, Nat.reduceMul, Nat.reduceBEq, Int.reduceNeg, Int.natCast_add, Int.natCast_one]⟩
  · have hnf : nf (leN l) (l.drop z).reverse := by
      have hlow := low0 hz hall
      by_cases hlt : z < l.length
      · have h0 : l[z] ≠ 0 := fun hh => hgo (by rw [List.getElem?_eq_getElem hlt, hh])
        have hvd := valid_rdrop hd he hlt h0
        have hne : (l.drop z).reverse ≠ [] := fun hh => by
          have := congrArg List.length hh
          rw [List.length_reverse, List.length_drop] at this
          simp at this; omega
        have hval : valN (l.drop z).reverse = leN (l.drop z) := by rw [← leN_rev, List.reverse_reverse]
        refine ⟨hvd, ⟨fun hh => absurd hh hne, fun hh => ?_⟩, z, by rw [hval, hlow]⟩
        have hp := valN_pos hvd hne
        rw [hval] at hp
        have := Nat.mul_pos hp (pow60_pos z)
        omega
      · obtain rfl : z = l.length := by omega
        rw [rdrop_top]
        rw [List.drop_length] at hlow
        have : leN l = 0 := by rw [← hlow]; simp [leN]
        exact ⟨valid_nil, ⟨fun _ => this, fun _ => rfl⟩, 0, by rw [this]; rfl⟩
    have hzv : valN (l.drop z).reverse * 60 ^ z = leN l := by rw [← leN_rev, List.reverse_reverse]; exact low0 hz hall
    by_cases hlt : z < l.length
    case' pos =>
      have ilt : (z : Int) < (l.length : Int) := by omega
      have hz0 : ¬ l[z] = 0 := fun hh => hgo (by rw [List.getElem?_eq_getElem hlt, hh])
      obtain ⟨bu, offu, allu, rwu, hau, hbu, hgu, htu⟩ := hv' (by intro h; rw [h] at hlt; exact absurd hlt (Nat.not_lt_zero _))
      have h1 := at_cut1 _ _ _ (htu z hlt)
      rw [Nat.mul_one] at h1
      have e0' : E.look 0 top = .slice (some ⟨bu, offu, none⟩) l.length c := by rw [e0, hau]
      repeat' (first
    | ((with_reducible first | refine optP_id ?_ | refine condP_id ?_ | refine condO_id ?_ | refine resP_id ?_); conv => { arg 1; simp (disch := first | assumption | omega) only [push_cast, ↓reduceIte, reduceIte, Nat.reduceEqDiff, Nat.reduceAdd, Nat.reduceSub, Nat.reduceMul, Nat.reduceBEq, Int.reduceNeg, e0', e4, hgu, h1, Nat.mul_one] }; first | ((with_reducible refine optP_id ?_); refine optP_some ?_) | ((with_reducible refine condP_id ?_); first | refine qcy ?_ | refine qcx ?_ | refine qco ?_ | refine condP_decn (fun hc => ?_) (fun hc => ?_) | refine condP_dec (fun hc => ?_) (fun hc => ?_) | refine qct ?_ | refine qcf ?_ | refine condP_bool (fun hc => ?_) (fun hc => ?_)) | ((with_reducible refine condO_id ?_); refine condO_some ?_) | ((with_reducible refine resP_id ?_); refine resP_two ?_))
    | refine wk_seq ?_ | refine wk_region ?_ | refine wk_block ?_ | refine wk_inBlock ?_ | refine wk_skip ?_ | refine wo_nil ?_ | refine wk_exit ?_ | refine exitK_code ?_ | refine exitK_hit ?_ | refine exitK_miss rfl ?_ | refine exitK_inLoop ?_ | refine wk_cond ?_ | refine wk_ret ?_ | refine wk_nil ?_ | refine wo_dst rfl (opR_pick ?_) | refine wo_guard rfl rfl ?_ | refine wo_guardn rfl ?_ | refine wo_dst rfl (opR_pure ?_) | refine wo_nodst (opR_pure ?_)
    | refine give_ret ?_ | refine give_end ?_)
    case' neg =>
      have ilt : ¬ (z : Int) < (l.length : Int) := by omega
      repeat' (first
    | ((with_reducible first | refine optP_id ?_ | refine condP_id ?_ | refine condO_id ?_ | refine resP_id ?_); conv => { arg 1; simp (disch := first | assumption | omega) only [push_cast, ↓reduceIte, reduceIte, Nat.reduceEqDiff, Nat.reduceAdd, Nat.reduceSub, Nat.reduceMul, Nat.reduceBEq, Int.reduceNeg, e0, e4] }; first | ((with_reducible refine optP_id ?_); refine optP_some ?_) | ((with_reducible refine condP_id ?_); first | refine qcy ?_ | refine qcx ?_ | refine qco ?_ | refine condP_decn (fun hc => ?_) (fun hc => ?_) | refine condP_dec (fun hc => ?_) (fun hc => ?_) | refine qct ?_ | refine qcf ?_ | refine condP_bool (fun hc => ?_) (fun hc => ?_)) | ((with_reducible refine condO_id ?_); refine condO_some ?_) | ((with_reducible refine resP_id ?_); refine resP_two ?_))
    | refine wk_seq ?_ | refine wk_region ?_ | refine wk_block ?_ | refine wk_inBlock ?_ | refine wk_skip ?_ | refine wo_nil ?_ | refine wk_exit ?_ | refine exitK_code ?_ | refine exitK_hit ?_ | refine exitK_miss rfl ?_ | refine exitK_inLoop ?_ | refine wk_cond ?_ | refine wk_ret ?_ | refine wk_nil ?_ | refine wo_dst rfl (opR_pick ?_) | refine wo_guard rfl rfl ?_ | refine wo_guardn rfl ?_ | refine wo_dst rfl (opR_pure ?_) | refine wo_nodst (opR_pure ?_)
    | refine give_ret ?_ | refine give_end ?_)
    all_goals
      refine wk_loop (fun n E H => ∃ (k b : Nat), n = k - z ∧ z ≤ k ∧ k ≤ l.length ∧ OwnI h.next H (l.drop k).reverse b ∧ Gr h H ∧ E.look 0 top = .slice a l.length c ∧ E.look 4 top = .int .i64 (z : Int) ∧ E.look 5 top = .slice (ownB (l.drop k).reverse b) (l.drop k).reverse.length (l.drop k).reverse.length ∧ E.look 6 top = .int .i64 ((k : Int) - 1)) (l.length - z)
        ⟨l.length, 0, rfl, hz, Nat.le_refl _, fun hn => absurd (rdrop_top l) hn, by (repeat (first | exact Gr.refl _ | assumption | (refine Gr.trans ?_ (by assumption)) | refine Gr.set ?_ (by first | exact Nat.le_refl _ | omega | (simp only [next_new, next_set]; omega)) _ | refine Gr.new ?_ _)), by simp (disch := first | assumption | omega) only [push_cast, ↓reduceIte, reduceIte, Nat.reduceEqDiff, Nat.reduceAdd, Nat.reduceSub, Nat.reduceMul, Nat.reduceBEq, Int.reduceNeg, e0], by simp (disch := first | assumption | omega) only [push_cast, ↓reduceIte, reduceIte, Nat.reduceEqDiff, Nat.reduceAdd, Nat.reduceSub, Nat.reduceMul, Nat.reduceBEq, Int.reduceNeg, e4], by rw [rdrop_top]; simp (disch := first | assumption | omega) only [push_cast, ↓reduceIte, reduceIte, Nat.reduceEqDiff, Nat.reduceAdd, Nat.reduceSub, Nat.reduceMul, Nat.reduceBEq, Int.reduceNeg, ownB_nil, List.length_nil], by simp (disch := first | assumption | omega) only [push_cast, ↓reduceIte, reduceIte, Nat.reduceEqDiff, Nat.reduceAdd, Nat.reduceSub, Nat.reduceMul, Nat.reduceBEq, Int.reduceNeg]⟩ ?_
      rintro n2 E2 H ⟨k, b, rfl, hzk, hk, hown, gr, f0, f4, f5, f6⟩ next2
      have gn := gr.1
      by_cases hkz : k = z
      · subst hkz
        have n0 : ¬ (((k : Int) - 1) ≥ (k : Int)) := by omega
        repeat' (first
    | ((with_reducible first | refine optP_id ?_ | refine condP_id ?_ | refine condO_id ?_ | refine resP_id ?_); conv => { arg 1; simp (disch := first | assumption | omega) only [push_cast, ↓reduceIte, reduceIte, Nat.reduceEqDiff, Nat.reduceAdd, Nat.reduceSub, Nat.reduceMul, Nat.reduceBEq, Int.reduceNeg, f0, f4, f5, f6] }; first | ((with_reducible refine optP_id ?_); refine optP_some ?_) | ((with_reducible refine condP_id ?_); first | refine qcy ?_ | refine qcx ?_ | refine qco ?_ | refine condP_decn (fun hc => ?_) (fun hc => ?_) | refine condP_dec (fun hc => ?_) (fun hc => ?_) | refine qct ?_ | refine qcf ?_ | refine condP_bool (fun hc => ?_) (fun hc => ?_)) | ((with_reducible refine condO_id ?_); refine condO_some ?_) | ((with_reducible refine resP_id ?_); refine resP_two ?_))
    | refine wk_seq ?_ | refine wk_region ?_ | refine wk_block ?_ | refine wk_inBlock ?_ | refine wk_skip ?_ | refine wo_nil ?_ | refine wk_exit ?_ | refine exitK_code ?_ | refine exitK_hit ?_ | refine exitK_miss rfl ?_ | refine exitK_inLoop ?_ | refine wk_cond ?_ | refine wk_ret ?_ | refine wk_nil ?_ | refine wo_dst rfl (opR_pick ?_) | refine wo_guard rfl rfl ?_ | refine wo_guardn rfl ?_ | refine wo_dst rfl (opR_pure ?_) | refine wo_nodst (opR_pure ?_)
    | refine give_ret ?_ | refine give_end ?_)
        exact ⟨⟨_, _, _, k, rfl, OwnI.inn hown (by rw [List.length_reverse, List.length_drop]; omega), hnf, fun _ => hzv, hk, fun b' o' q' hh => own_base hown hh⟩, gr⟩
      · obtain ⟨j, rfl⟩ : ∃ j, k = j + 1 := ⟨k - 1, by omega⟩
        have ej : (((j + 1 : Nat) : Int) - 1) = (j : Int) := by omega
        rw [ej] at f6
        have hj : j < l.length := by omega
        have j0 : (j : Int) ≥ (z : Int) := by omega
        have hlen : (l.drop (j + 1)).reverse.length ≤ 1000 := by rw [List.length_reverse, List.length_drop]; omega
        have hst := rdrop_step hj
        obtain ⟨bv, offv, allv, rwv, hav, hbv, hgv, htv⟩ := hv' (by intro h; rw [h] at hj; exact absurd hj (Nat.not_lt_zero _))
        have hgvH : H.get bv = some (.cells allv 3 rwv) := by rw [gr.2 bv hbv]; exact hgv
        have h1 := at_cut1 _ _ _ (htv j hj)
        rw [Nat.mul_one] at h1
        have f0' : E2.look 0 top = .slice (some ⟨bv, offv, none⟩) l.length c := by rw [f0, hav]
        generalize l[j] = x at *
        generalize (l.drop (j + 1)).reverse = L at *
        repeat' (first
    | ((with_reducible first | refine optP_id ?_ | refine condP_id ?_ | refine condO_id ?_ | refine resP_id ?_); conv => { arg 1; simp (disch := first | assumption | omega) only [push_cast, ↓reduceIte, reduceIte, Nat.reduceEqDiff, Nat.reduceAdd, Nat.reduceSub, Nat.reduceMul, Nat.reduceBEq, Int.reduceNeg, f0', f4, f5, f6, hgvH, h1, Nat.mul_one] }; first | ((with_reducible refine optP_id ?_); refine optP_some ?_) | ((with_reducible refine condP_id ?_); first | refine qcy ?_ | refine qcx ?_ | refine qco ?_ | refine condP_decn (fun hc => ?_) (fun hc => ?_) | refine condP_dec (fun hc => ?_) (fun hc => ?_) | refine qct ?_ | refine qcf ?_ | refine condP_bool (fun hc => ?_) (fun hc => ?_)) | ((with_reducible refine condO_id ?_); refine condO_some ?_) | ((with_reducible refine resP_id ?_); refine resP_two ?_))
    | refine wk_seq ?_ | refine wk_region ?_ | refine wk_block ?_ | refine wk_inBlock ?_ | refine wk_skip ?_ | refine wo_nil ?_ | refine wk_exit ?_ | refine exitK_code ?_ | refine exitK_hit ?_ | refine exitK_miss rfl ?_ | refine exitK_inLoop ?_ | refine wk_cond ?_ | refine wk_ret ?_ | refine wk_nil ?_ | refine wo_dst rfl (opR_pick ?_) | refine wo_guard rfl rfl ?_ | refine wo_guardn rfl ?_ | refine wo_dst rfl (opR_pure ?_) | refine wo_nodst (opR_pure ?_)
    | refine give_ret ?_ | refine give_end ?_)
        conv => { arg 1; simp (disch := first | assumption | omega) only [push_cast, ↓reduceIte, reduceIte, Nat.reduceEqDiff, Nat.reduceAdd, Nat.reduceSub, Nat.reduceMul, Nat.reduceBEq, Int.reduceNeg, ap22] }
        refine optP_one (x := x) (e' := 3) (rw' := true) encI_len (fun _ => rfl) (by omega) (by omega) (fun hn => by obtain ⟨q0, q1, q2⟩ := hown hn; simp (disch := first | assumption | omega) only [push_cast, ↓reduceIte, reduceIte, Nat.reduceEqDiff, Nat.reduceAdd, Nat.reduceSub, Nat.reduceMul, Nat.reduceBEq, Int.reduceNeg]; exact q2) (by unfold encI; simp (disch := first | assumption | omega) only [push_cast, ↓reduceIte, reduceIte, Nat.reduceEqDiff, Nat.reduceAdd, Nat.reduceSub, Nat.reduceMul, Nat.reduceBEq, Int.reduceNeg]) ?_
        intro H3 n3 new3 keep3
        simp only [next_new] at n3 new3 keep3
        repeat' (first
    | ((with_reducible first | refine optP_id ?_ | refine condP_id ?_ | refine condO_id ?_ | refine resP_id ?_); conv => { arg 1; simp (disch := first | assumption | omega) only [push_cast, ↓reduceIte, reduceIte, Nat.reduceEqDiff, Nat.reduceAdd, Nat.reduceSub, Nat.reduceMul, Nat.reduceBEq, Int.reduceNeg, f0, f4, f5, f6] }; first | ((with_reducible refine optP_id ?_); refine optP_some ?_) | ((with_reducible refine condP_id ?_); first | refine qcy ?_ | refine qcx ?_ | refine qco ?_ | refine condP_decn (fun hc => ?_) (fun hc => ?_) | refine condP_dec (fun hc => ?_) (fun hc => ?_) | refine qct ?_ | refine qcf ?_ | refine condP_bool (fun hc => ?_) (fun hc => ?_)) | ((with_reducible refine condO_id ?_); refine condO_some ?_) | ((with_reducible refine resP_id ?_); refine resP_two ?_))
    | refine wk_seq ?_ | refine wk_region ?_ | refine wk_block ?_ | refine wk_inBlock ?_ | refine wk_skip ?_ | refine wo_nil ?_ | refine wk_exit ?_ | refine exitK_code ?_ | refine exitK_hit ?_ | refine exitK_miss rfl ?_ | refine exitK_inLoop ?_ | refine wk_cond ?_ | refine wk_ret ?_ | refine wk_nil ?_ | refine wo_dst rfl (opR_pick ?_) | refine wo_guard rfl rfl ?_ | refine wo_guardn rfl ?_ | refine wo_dst rfl (opR_pure ?_) | refine wo_nodst (opR_pure ?_)
    | refine give_ret ?_ | refine give_end ?_)
        refine next2 (j - z) _ _ (by omega) ⟨j, H.next + 1, rfl, by omega, by omega, by rw [hst]; exact fun _ => ⟨by omega, by omega, new3⟩, ⟨by omega, fun c hc => ?_⟩, by simp (disch := first | assumption | omega) only [push_cast, ↓reduceIte, reduceIte, Nat.reduceEqDiff, Nat.reduceAdd, Nat.reduceSub, Nat.reduceMul, Nat.reduceBEq, Int.reduceNeg, f0], by simp (disch := first | assumption | omega) only [push_cast, ↓reduceIte, reduceIte, Nat.reduceEqDiff, Nat.reduceAdd, Nat.reduceSub, Nat.reduceMul, Nat.reduceBEq, Int.reduceNeg, f4], by rw [hst]; simp (disch := first | assumption | omega) only [push_cast, ↓reduceIte, reduceIte, Nat.reduceEqDiff, Nat.reduceAdd, Nat.reduceSub, Nat.reduceMul, Nat.reduceBEq, Int.reduceNeg], by simp (disch := first | assumption | omega) only [push_cast, ↓reduceIte, reduceIte, Nat.reduceEqDiff, Nat.reduceAdd, Nat.reduceSub, Nat.reduceMul, Nat.reduceBEq, Int.reduceNeg]⟩
        rw [keep3 c (by omega) (fun hn => by have := (hown hn).1; omega)]
        simp (disch := first | assumption | omega) only [push_cast, ↓reduceIte, reduceIte, Nat.reduceEqDiff, Nat.reduceAdd, Nat.reduceSub, Nat.reduceMul, Nat.reduceBEq, Int.reduceNeg]
        exact gr.2 c hc
end Go.Proofs.YtcfohcpcepeolaaGreatDoor
namespace Go.Proofs.YtcfohcpcepeolaaGreatDoor
open Go.Ev
theorem copies_z : ∀ n : Nat, copies [Value.int .i64 0] n = ints .i64 (List.replicate n 0)
  | 0 => rfl
  | n + 1 => by
    show [Value.int .i64 0] ++ copies [Value.int .i64 0] n = _
    rw [copies_z n, List.replicate_succ]
    rfl
theorem mk22' (n : Nat) : makeSliceA Tryz.prog 22 (.int .i64 (n : Int)) (.int .i64 (n : Int)) = cond (Nat.ble n n && Nat.ble n 1000000 && Nat.ble (n * 8) 1000000000) (some (.cells (copies [.int .i64 0] n) 3 true, fun b => .slice (some ⟨b, 0, none⟩) n (EX + n))) none := by kernel_rfl
theorem mk22 (n : Nat) (hn : n ≤ 1000) : makeSliceA Tryz.prog 22 (.int .i64 (n : Int)) (.int .i64 (n : Int)) = some (.cells (ints .i64 (List.replicate n 0)) 3 true, fun b => .slice (some ⟨b, 0, none⟩) n (EX + n)) := by
  rw [mk22', ble_yes (Nat.le_refl n), ble_yes (show n ≤ 1000000 by omega), ble_yes (show n * 8 ≤ 1000000000 by omega), copies_z]
  rfl
theorem flatI : ∀ l : List Int, flatE encI l = ints .i64 l
  | [] => rfl
  | x :: l => by
    rw [flatE_cons, flatI l]
    rfl
theorem ints_inI {H : AHeap} {b c : Nat} {l : List Int} {rw' : Bool} (hb : b < H.next) (hc : l.length ≤ capLo c) (hg : H.get b = some (.cells (ints .i64 l) 3 rw')) : IIn H (.slice (some ⟨b, 0, none⟩) l.length c) l :=
  ⟨_, c, rfl, hc, fun _ => ⟨b, 0, _, rw', rfl, hb, hg, fun i hi => by rw [Nat.zero_add, ← flatI]; exact flatE_cut encI_len l hi⟩⟩
/-- whole numbers from 0 to m -/
def upto (m : Int) (l : List Int) : Prop := ∀ x ∈ l, 0 ≤ x ∧ x ≤ m
theorem upto_set {m m' : Int} {l : List Int} (h : upto m l) (k : Nat) {v : Int} (hm : m ≤ m') (hv : 0 ≤ v ∧ v ≤ m') : upto m' (l.set k v) := fun x hx => by
  rcases List.mem_or_eq_of_mem_set hx with h1 | h1
  · have := h x h1; omega
  · rw [h1]; exact hv
theorem leN_ge {l : List Int} {k : Nat} (hk : k < l.length) : (l[k]).toNat * 60 ^ k ≤ leN l := by
  have := leN_set hk 0
  simp at this
  omega
theorem put_step {O : List Int} {k o p : Nat} (hk : k < O.length) (ho : O[k] = (o : Int)) : leN (O.set k ((o + p : Nat) : Int)) = leN O + p * 60 ^ k := by
  have := leN_set hk ((o + p : Nat) : Int)
  rw [ho, Int.toNat_natCast, Int.toNat_natCast, Nat.add_mul] at this
  omega
theorem carry_step {O : List Int} {i o o' : Nat} (h1 : i < O.length) (h2 : i + 1 < O.length) (ho : O[i] = (o : Int)) (ho' : O[i + 1] = (o' : Int)) : leN ((O.set (i + 1) ((o' + o / 60 : Nat) : Int)).set i ((o % 60 : Nat) : Int)) = leN O := by
  have a := put_step (p := o / 60) h2 ho'
  have hl : i < (O.set (i + 1) ((o' + o / 60 : Nat) : Int)).length := by rw [List.length_set]; exact h1
  have b := leN_set hl ((o % 60 : Nat) : Int)
  rw [List.getElem_set_ne (by omega), ho, Int.toNat_natCast, Int.toNat_natCast, a] at b
  generalize leN ((O.set (i + 1) ((o' + o / 60 : Nat) : Int)).set i ((o % 60 : Nat) : Int)) = A at *
  have hdm := Nat.div_add_mod o 60
  generalize o / 60 = q at *
  generalize o % 60 = r at *
  rw [Nat.pow_succ] at b
  generalize 60 ^ i = P at *
  have : (60 * q + r) * P = o * P := by rw [hdm]
  grind
theorem alg1 (A B C x : Nat) : A * B + x * B * C = (A + x * C) * B := by grind
set_option maxRecDepth 100000 in
set_option maxHeartbeats 8000000 in
theorem rtimes_w (x y : List Int) (hx : digs x) (hy : digs y) (lx : x.length ≤ 16) (ly : y.length ≤ 16) (v u : Value) (h : AHeap) (hv : IIn h v x) (hu : IIn h u y) :
    Wc pr (.func 72) [v, u] h fun r h' => (∃ m a c, r = .slice a m.length c ∧ IIn h' (.slice a m.length c) m ∧ digs m ∧ noEnd m ∧ leN m = leN x * leN y ∧ m.length ≤ 33) ∧ Gr h h' := by
  obtain ⟨ax, cx, rfl, _, hvx⟩ := id hv
  obtain ⟨ay, cy, rfl, _, hvy⟩ := id hu
  refine wc_func Tryz.func72 rfl rfl rfl rfl ?_
  obtain ⟨N, hN⟩ : ∃ N, N = x.length + y.length + 1 := ⟨_, rfl⟩
  have eN : (x.length : Int) + (y.length : Int) + 1 = (N : Int) := by omega
  have mk := mk22 N (by omega)
  repeat' (first
    | ((with_reducible first | refine optP_id ?_ | refine condP_id ?_ | refine resP_id ?_ | refine callT_of ?_); conv => { arg 1; simp (disch := first | assumption | omega) only [push_cast, ↓reduceIte, reduceIte, Nat.reduceEqDiff, Nat.reduceAdd, Nat.reduceSub, Nat.reduceMul, Nat.reduceBEq, Int.reduceNeg, eN, mk] }; first | ((with_reducible refine optP_id ?_); refine optP_some ?_) | ((with_reducible refine condP_id ?_); first | refine qcy ?_ | refine qcx ?_ | refine qco ?_ | refine condP_decn (fun hc => ?_) (fun hc => ?_) | refine condP_dec (fun hc => ?_) (fun hc => ?_) | refine qct ?_ | refine qcf ?_ | refine condP_bool (fun hc => ?_) (fun hc => ?_)) | ((with_reducible refine resP_id ?_); refine resP_one ?_) | ((with_reducible refine callT_to ?_); refine callP_plain ?_))
    | refine wk_seq ?_ | refine wk_region ?_ | refine wk_block ?_ | refine wk_inBlock ?_ | refine wk_skip ?_ | refine wk_draw (by kernel_rfl) (by decide +kernel) ?_ | refine wo_nil ?_ | refine wk_exit ?_ | refine exitK_code ?_ | refine exitK_hit ?_ | refine exitK_miss rfl ?_ | refine exitK_inLoop ?_ | refine wk_cond ?_ | refine wk_ret ?_ | refine wk_nil ?_ | refine wo_dst rfl (opR_call ?_) | refine wo_nodst (opR_call ?_) | refine wo_dst rfl (opR_pure ?_) | refine wo_nodst (opR_pure ?_)
    | refine give_ret ?_ | refine give_end ?_)
  refine wk_loop (fun n E H => ∃ (i : Nat) (O : List Int), n = x.length - i ∧ i ≤ x.length ∧ O.length = N ∧ upto (3481 * (16 * i)) O ∧ leN O = leN (x.take i) * leN y ∧ Gr h H ∧ h.next < H.next ∧ H.get h.next = some (.cells (ints .i64 O) 3 true) ∧ E.look 0 top = .slice ax x.length cx ∧ E.look 1 top = .slice ay y.length cy ∧ E.look 5 top = .slice (some ⟨h.next, 0, none⟩) N (EX + N) ∧ E.look 6 top = .int .i64 (i : Int)) x.length
    ⟨0, List.replicate N 0, by omega, by omega, List.length_replicate, fun z hz => by rw [List.eq_of_mem_replicate hz]; omega, by rw [leN_zeros]; simp [leN], by (repeat (first | exact Gr.refl _ | assumption | (refine Gr.trans ?_ (by assumption)) | refine Gr.set ?_ (by first | exact Nat.le_refl _ | omega | (simp only [next_new, next_set]; omega)) _ | refine Gr.new ?_ _)), by simp only [next_new]; omega, by simp (disch := first | assumption | omega) only [push_cast, ↓reduceIte, reduceIte, Nat.reduceEqDiff, Nat.reduceAdd, Nat.reduceSub, Nat.reduceMul, Nat.reduceBEq, Int.reduceNeg], by simp (disch := first | assumption | omega) only [push_cast, ↓reduceIte, reduceIte, Nat.reduceEqDiff, Nat.reduceAdd, Nat.reduceSub, Nat.reduceMul, Nat.reduceBEq, Int.reduceNeg], by simp (disch := first | assumption | omega) only [push_cast, ↓reduceIte, reduceIte, Nat.reduceEqDiff, Nat.reduceAdd, Nat.reduceSub, Nat.reduceMul, Nat.reduceBEq, Int.reduceNeg], by simp (disch := first | assumption | omega) only [push_cast, ↓reduceIte, reduceIte, Nat.reduceEqDiff, Nat.reduceAdd, Nat.reduceSub, Nat.reduceMul, Nat.reduceBEq, Int.reduceNeg], by simp (disch := first | assumption | omega) only [push_cast, ↓reduceIte, reduceIte, Nat.reduceEqDiff, Nat.reduceAdd, Nat.reduceSub, Nat.reduceMul, Nat.reduceBEq, Int.reduceNeg, Int.natCast_zero]⟩ ?_
  rintro n E H ⟨i, O, rfl, hi, lO, uO, vO, gr, hnx, cO, e0, e1, e5, e6⟩ next
  by_cases hlt : i < x.length
  · have ilt : (i : Int) < (x.length : Int) := by omega
    obtain ⟨bx, offx, allx, rwx, hax, hbx, hgx, htx⟩ := hvx (by intro h; rw [h] at hlt; exact absurd hlt (Nat.not_lt_zero _))
    have hx1 := at_cut1 _ _ _ (htx i hlt)
    rw [Nat.mul_one] at hx1
    have dx := hx _ (List.getElem_mem hlt)
    have tx := leN_take hlt
    obtain ⟨xi, hxi⟩ : ∃ xi : Nat, x[i] = (xi : Int) := ⟨x[i].toNat, by omega⟩
    rw [hxi, Int.toNat_natCast] at tx
    rw [hxi] at hx1 dx
    repeat' (first
    | ((with_reducible first | refine optP_id ?_ | refine condP_id ?_ | refine resP_id ?_ | refine callT_of ?_); conv => { arg 1; simp (disch := first | assumption | omega) only [push_cast, ↓reduceIte, reduceIte, Nat.reduceEqDiff, Nat.reduceAdd, Nat.reduceSub, Nat.reduceMul, Nat.reduceBEq, Int.reduceNeg, e0, e1, e5, e6] }; first | ((with_reducible refine optP_id ?_); refine optP_some ?_) | ((with_reducible refine condP_id ?_); first | refine qcy ?_ | refine qcx ?_ | refine qco ?_ | refine condP_decn (fun hc => ?_) (fun hc => ?_) | refine condP_dec (fun hc => ?_) (fun hc => ?_) | refine qct ?_ | refine qcf ?_ | refine condP_bool (fun hc => ?_) (fun hc => ?_)) | ((with_reducible refine resP_id ?_); refine resP_one ?_) | ((with_reducible refine callT_to ?_); refine callP_plain ?_))
    | refine wk_seq ?_ | refine wk_region ?_ | refine wk_block ?_ | refine wk_inBlock ?_ | refine wk_skip ?_ | refine wk_draw (by kernel_rfl) (by decide +kernel) ?_ | refine wo_nil ?_ | refine wk_exit ?_ | refine exitK_code ?_ | refine exitK_hit ?_ | refine exitK_miss rfl ?_ | refine exitK_inLoop ?_ | refine wk_cond ?_ | refine wk_ret ?_ | refine wk_nil ?_ | refine wo_dst rfl (opR_call ?_) | refine wo_nodst (opR_call ?_) | refine wo_dst rfl (opR_pure ?_) | refine wo_nodst (opR_pure ?_)
    | refine give_ret ?_ | refine give_end ?_)
    refine wk_loop (fun n E H => ∃ (k : Nat) (O : List Int), n = y.length - k ∧ k ≤ y.length ∧ O.length = N ∧ upto (3481 * (16 * i + k)) O ∧ leN O = leN (x.take i) * leN y + xi * leN (y.take k) * 60 ^ i ∧ Gr h H ∧ h.next < H.next ∧ H.get h.next = some (.cells (ints .i64 O) 3 true) ∧ E.look 0 top = .slice ax x.length cx ∧ E.look 1 top = .slice ay y.length cy ∧ E.look 5 top = .slice (some ⟨h.next, 0, none⟩) N (EX + N) ∧ E.look 6 top = .int .i64 (i : Int) ∧ E.look 7 top = .int .i64 (k : Int)) y.length
      ⟨0, O, by omega, by omega, lO, by simpa using uO, by rw [vO]; simp [leN], gr, hnx, cO, by simp (disch := first | assumption | omega) only [push_cast, ↓reduceIte, reduceIte, Nat.reduceEqDiff, Nat.reduceAdd, Nat.reduceSub, Nat.reduceMul, Nat.reduceBEq, Int.reduceNeg, e0], by simp (disch := first | assumption | omega) only [push_cast, ↓reduceIte, reduceIte, Nat.reduceEqDiff, Nat.reduceAdd, Nat.reduceSub, Nat.reduceMul, Nat.reduceBEq, Int.reduceNeg, e1], by simp (disch := first | assumption | omega) only [push_cast, ↓reduceIte, reduceIte, Nat.reduceEqDiff, Nat.reduceAdd, Nat.reduceSub, Nat.reduceMul, Nat.reduceBEq, Int.reduceNeg, e5], by simp (disch := first | assumption | omega) only [push_cast, ↓reduceIte, reduceIte, Nat.reduceEqDiff, Nat.reduceAdd, Nat.reduceSub, Nat.reduceMul, Nat.reduceBEq, Int.reduceNeg, e6], by simp (disch := first | assumption | omega) only [push_cast, ↓reduceIte, reduceIte, Nat.reduceEqDiff, Nat.reduceAdd, Nat.reduceSub, Nat.reduceMul, Nat.reduceBEq, Int.reduceNeg, Int.natCast_zero]⟩ ?_
    rintro n2 E2 H2 ⟨k, O2, rfl, hk, lO2, uO2, vO2, gr2, hnx2, cO2, f0, f1, f5, f6, f7⟩ next2
    by_cases hky : k < y.length
    · have klt : (k : Int) < (y.length : Int) := by omega
      obtain ⟨by', offy, ally, rwy, hay, hby, hgy, hty⟩ := hvy (by intro h; rw [h] at hky; exact absurd hky (Nat.not_lt_zero _))
      have hy1 := at_cut1 _ _ _ (hty k hky)
      rw [Nat.mul_one] at hy1
      have dy := hy _ (List.getElem_mem hky)
      have ty := leN_take hky
      obtain ⟨yk, hyk⟩ : ∃ yk : Nat, y[k] = (yk : Int) := ⟨y[k].toNat, by omega⟩
      rw [hyk, Int.toNat_natCast] at ty
      rw [hyk] at hy1 dy
      obtain ⟨j, hj⟩ : ∃ j, j = i + k := ⟨_, rfl⟩
      have ej : (i : Int) + (k : Int) = (j : Int) := by omega
      have hjl : j < O2.length := by omega
      have ho := uO2 _ (List.getElem_mem hjl)
      have a1 : at? (ints .i64 O2) j = some (.int .i64 O2[j]) := ints_at .i64 hjl
      obtain ⟨o, hoo⟩ : ∃ o : Nat, O2[j] = (o : Int) := ⟨O2[j].toNat, by omega⟩
      have pst := put_step (p := xi * yk) hjl hoo
      rw [hoo] at a1 ho
      have hprod : xi * yk ≤ 59 * 59 := Nat.mul_le_mul (by omega) (by omega)
      have ov : over (ints .i64 O2) j [.int .i64 ((o + xi * yk : Nat) : Int)] = some (ints .i64 (O2.set j ((o + xi * yk : Nat) : Int))) := ints_over .i64 _ hjl
      have em : (xi : Int) * (yk : Int) = ((xi * yk : Nat) : Int) := by rw [Int.natCast_mul]
      have us2 : upto (3481 * (16 * i + (k + 1))) (O2.set j ((o + xi * yk : Nat) : Int)) := upto_set uO2 j (by omega) (by omega)
      have ls2 : (O2.set j ((o + xi * yk : Nat) : Int)).length = N := by rw [List.length_set]; exact lO2
      have vs2 : leN (O2.set j ((o + xi * yk : Nat) : Int)) = leN (x.take i) * leN y + xi * leN (y.take (k + 1)) * 60 ^ i := by
        rw [pst, vO2, ty, hj, Nat.pow_add]
        generalize leN (x.take i) * leN y = A
        generalize leN (y.take k) = B
        generalize 60 ^ i = C
        generalize 60 ^ k = D
        grind
      generalize hpp : xi * yk = p at *
      have es : (o : Int) + (p : Int) = ((o + p : Nat) : Int) := by omega
      have ho2 : (o : Int) + (p : Int) ≤ 1000000 := by omega
      rw [← es] at ov
      have f0' : E2.look 0 top = .slice (some ⟨bx, offx, none⟩) x.length cx := by rw [f0, hax]
      have f1' : E2.look 1 top = .slice (some ⟨by', offy, none⟩) y.length cy := by rw [f1, hay]
      have hgx2 : H2.get bx = some (.cells allx 3 rwx) := by rw [gr2.2 bx hbx]; exact hgx
      have hgy2 : H2.get by' = some (.cells ally 3 rwy) := by rw [gr2.2 by' hby]; exact hgy
      rw [← es] at us2 ls2 vs2
      generalize O2.set j ((o : Int) + (p : Int)) = O3 at *
      generalize ints .i64 O2 = C2 at *
      generalize hC3 : ints .i64 O3 = C3 at *
      repeat' (first
    | ((with_reducible first | refine optP_id ?_ | refine condP_id ?_ | refine resP_id ?_ | refine callT_of ?_); conv => { arg 1; simp (disch := first | assumption | omega) only [push_cast, ↓reduceIte, reduceIte, Nat.reduceEqDiff, Nat.reduceAdd, Nat.reduceSub, Nat.reduceMul, Nat.reduceBEq, Int.reduceNeg, f0', f1', f5, f6, f7, ej, em, cO2, a1, hgx2, hx1, hgy2, hy1, ov, Nat.zero_add, Nat.mul_one] }; first | ((with_reducible refine optP_id ?_); refine optP_some ?_) | ((with_reducible refine condP_id ?_); first | refine qcy ?_ | refine qcx ?_ | refine qco ?_ | refine condP_decn (fun hc => ?_) (fun hc => ?_) | refine condP_dec (fun hc => ?_) (fun hc => ?_) | refine qct ?_ | refine qcf ?_ | refine condP_bool (fun hc => ?_) (fun hc => ?_)) | ((with_reducible refine resP_id ?_); refine resP_one ?_) | ((with_reducible refine callT_to ?_); refine callP_plain ?_))
    | refine wk_seq ?_ | refine wk_region ?_ | refine wk_block ?_ | refine wk_inBlock ?_ | refine wk_skip ?_ | refine wk_draw (by kernel_rfl) (by decide +kernel) ?_ | refine wo_nil ?_ | refine wk_exit ?_ | refine exitK_code ?_ | refine exitK_hit ?_ | refine exitK_miss rfl ?_ | refine exitK_inLoop ?_ | refine wk_cond ?_ | refine wk_ret ?_ | refine wk_nil ?_ | refine wo_dst rfl (opR_call ?_) | refine wo_nodst (opR_call ?_) | refine wo_dst rfl (opR_pure ?_) | refine wo_nodst (opR_pure ?_)
    | refine give_ret ?_ | refine give_end ?_)
      exact next2 (y.length - (k + 1)) _ _ (by omega) ⟨k + 1, O3, rfl, by omega, ls2, us2, vs2, by (repeat (first | exact Gr.refl _ | assumption | (refine Gr.trans ?_ (by assumption)) | refine Gr.set ?_ (by first | exact Nat.le_refl _ | omega | (simp only [next_new, next_set]; omega)) _ | refine Gr.new ?_ _)), by simp only [next_set]; omega, by rw [hC3]; simp (disch := first | assumption | omega) only [push_cast, ↓reduceIte, reduceIte, Nat.reduceEqDiff, Nat.reduceAdd, Nat.reduceSub, Nat.reduceMul, Nat.reduceBEq, Int.reduceNeg], by simp (disch := first | assumption | omega) only [push_cast, ↓reduceIte, reduceIte, Nat.reduceEqDiff, Nat.reduceAdd, Nat.reduceSub, Nat.reduceMul, Nat.reduceBEq, Int.reduceNeg, f0], by simp (disch := first | assumption | omega) only [push_cast, ↓reduceIte, reduceIte, Nat.reduceEqDiff, Nat.reduceAdd, Nat.reduceSub, Nat.reduceMul, Nat.reduceBEq, Int.reduceNeg, f1], by simp (disch := first | assumption | omega) only [push_cast, ↓reduceIte, reduceIte, Nat.reduceEqDiff, Nat.reduceAdd, Nat.reduceSub, Nat.reduceMul, Nat.reduceBEq, Int.reduceNeg, f5], by simp (disch := first | assumption | omega) only [push_cast, ↓reduceIte, reduceIte, Nat.reduceEqDiff, Nat.reduceAdd, Nat.reduceSub, Nat.reduceMul, Nat.reduceBEq, Int.reduceNeg, f6], by simp (disch := first | assumption | omega) only [push_cast, ↓reduceIte, reduceIte, Nat.reduceEqDiff, Nat.reduceAdd, Nat.reduceSub, Nat.reduceMul, Nat.reduceBEq, Int.reduceNeg, Int.natCast_add, Int.natCast_one]⟩
    · have klt : ¬ (k : Int) < (y.length : Int) := by omega
      repeat' (first
    | ((with_reducible first | refine optP_id ?_ | refine condP_id ?_ | refine resP_id ?_ | refine callT_of ?_); conv => { arg 1; simp (disch := first | assumption | omega) only [push_cast, ↓reduceIte, reduceIte, Nat.reduceEqDiff, Nat.reduceAdd, Nat.reduceSub, Nat.reduceMul, Nat.reduceBEq, Int.reduceNeg, f0, f1, f5, f6, f7] }; first | ((with_reducible refine optP_id ?_); refine optP_some ?_) | ((with_reducible refine condP_id ?_); first | refine qcy ?_ | refine qcx ?_ | refine qco ?_ | refine condP_decn (fun hc => ?_) (fun hc => ?_) | refine condP_dec (fun hc => ?_) (fun hc => ?_) | refine qct ?_ | refine qcf ?_ | refine condP_bool (fun hc => ?_) (fun hc => ?_)) | ((with_reducible refine resP_id ?_); refine resP_one ?_) | ((with_reducible refine callT_to ?_); refine callP_plain ?_))
    | refine wk_seq ?_ | refine wk_region ?_ | refine wk_block ?_ | refine wk_inBlock ?_ | refine wk_skip ?_ | refine wk_draw (by kernel_rfl) (by decide +kernel) ?_ | refine wo_nil ?_ | refine wk_exit ?_ | refine exitK_code ?_ | refine exitK_hit ?_ | refine exitK_miss rfl ?_ | refine exitK_inLoop ?_ | refine wk_cond ?_ | refine wk_ret ?_ | refine wk_nil ?_ | refine wo_dst rfl (opR_call ?_) | refine wo_nodst (opR_call ?_) | refine wo_dst rfl (opR_pure ?_) | refine wo_nodst (opR_pure ?_)
    | refine give_ret ?_ | refine give_end ?_)
      have hty : y.take k = y := List.take_of_length_le (by omega)
      rw [hty] at vO2
      refine next (x.length - (i + 1)) _ _ (by omega) ⟨i + 1, O2, rfl, by omega, lO2, fun z hz => by have := uO2 z hz; omega, ?_, gr2, hnx2, cO2, by simp (disch := first | assumption | omega) only [push_cast, ↓reduceIte, reduceIte, Nat.reduceEqDiff, Nat.reduceAdd, Nat.reduceSub, Nat.reduceMul, Nat.reduceBEq, Int.reduceNeg, f0], by simp (disch := first | assumption | omega) only [push_cast, ↓reduceIte, reduceIte, Nat.reduceEqDiff, Nat.reduceAdd, Nat.reduceSub, Nat.reduceMul, Nat.reduceBEq, Int.reduceNeg, f1], by simp (disch := first | assumption | omega) only [push_cast, ↓reduceIte, reduceIte, Nat.reduceEqDiff, Nat.reduceAdd, Nat.reduceSub, Nat.reduceMul, Nat.reduceBEq, Int.reduceNeg, f5], by simp (disch := first | assumption | omega) only [push_cast, ↓reduceIte, reduceIte, Nat.reduceEqDiff, Nat.reduceAdd, Nat.reduceSub, Nat.reduceMul, Nat.reduceBEq, Int.reduceNeg, Int.natCast_add, Int.natCast_one]⟩
      rw [vO2, tx]
      exact alg1 _ _ _ _
  · have ilt : ¬ (i : Int) < (x.length : Int) := by omega
    repeat' (first
    | ((with_reducible first | refine optP_id ?_ | refine condP_id ?_ | refine resP_id ?_ | refine callT_of ?_); conv => { arg 1; simp (disch := first | assumption | omega) only [push_cast, ↓reduceIte, reduceIte, Nat.reduceEqDiff, Nat.reduceAdd, Nat.reduceSub, Nat.reduceMul, Nat.reduceBEq, Int.reduceNeg, e0, e1, e5, e6] }; first | ((with_reducible refine optP_id ?_); refine optP_some ?_) | ((with_reducible refine condP_id ?_); first | refine qcy ?_ | refine qcx ?_ | refine qco ?_ | refine condP_decn (fun hc => ?_) (fun hc => ?_) | refine condP_dec (fun hc => ?_) (fun hc => ?_) | refine qct ?_ | refine qcf ?_ | refine condP_bool (fun hc => ?_) (fun hc => ?_)) | ((with_reducible refine resP_id ?_); refine resP_one ?_) | ((with_reducible refine callT_to ?_); refine callP_plain ?_))
    | refine wk_seq ?_ | refine wk_region ?_ | refine wk_block ?_ | refine wk_inBlock ?_ | refine wk_skip ?_ | refine wk_draw (by kernel_rfl) (by decide +kernel) ?_ | refine wo_nil ?_ | refine wk_exit ?_ | refine exitK_code ?_ | refine exitK_hit ?_ | refine exitK_miss rfl ?_ | refine exitK_inLoop ?_ | refine wk_cond ?_ | refine wk_ret ?_ | refine wk_nil ?_ | refine wo_dst rfl (opR_call ?_) | refine wo_nodst (opR_call ?_) | refine wo_dst rfl (opR_pure ?_) | refine wo_nodst (opR_pure ?_)
    | refine give_ret ?_ | refine give_end ?_)
    rw [List.take_of_length_le (by omega)] at vO
    have hV : leN x * leN y < 60 ^ (N - 1) := by
      have h1 := Nat.mul_lt_mul'' (leN_lt hx) (leN_lt hy)
      rw [← Nat.pow_add] at h1
      have : N - 1 = x.length + y.length := by omega
      rw [this]; exact h1
    refine wk_loop (fun n E H => ∃ (j : Nat) (O : List Int), n = N - j ∧ j + 1 ≤ N ∧ O.length = N ∧ (∀ k (hk : k < O.length), k < j → 0 ≤ O[k] ∧ O[k] < 60) ∧ (∀ k (hk : k < O.length), j < k → 0 ≤ O[k] ∧ O[k] ≤ 950000) ∧ (∀ (hk : j < O.length), 0 ≤ O[j] ∧ O[j] ≤ 1000000) ∧ leN O = leN x * leN y ∧ Gr h H ∧ h.next < H.next ∧ H.get h.next = some (.cells (ints .i64 O) 3 true) ∧ E.look 5 top = .slice (some ⟨h.next, 0, none⟩) N (EX + N) ∧ E.look 8 top = .int .i64 (j : Int)) N
      ⟨0, O, by omega, by omega, lO, fun k _ hk => absurd hk (Nat.not_lt_zero k), fun k hk _ => by have := uO _ (List.getElem_mem hk); omega, fun hk => by have := uO _ (List.getElem_mem hk); omega, vO, gr, hnx, cO, by simp (disch := first | assumption | omega) only [push_cast, ↓reduceIte, reduceIte, Nat.reduceEqDiff, Nat.reduceAdd, Nat.reduceSub, Nat.reduceMul, Nat.reduceBEq, Int.reduceNeg, e5], by simp (disch := first | assumption | omega) only [push_cast, ↓reduceIte, reduceIte, Nat.reduceEqDiff, Nat.reduceAdd, Nat.reduceSub, Nat.reduceMul, Nat.reduceBEq, Int.reduceNeg, Int.natCast_zero]⟩ ?_
    rintro n2 E2 H2 ⟨j, O2, rfl, hjN, lO2, da, db, dc, vO2, gr2, hnx2, cO2, f5, f8⟩ next2
    by_cases hj2 : j + 1 < N
    · have jlt : (j : Int) + 1 < (N : Int) := by omega
      obtain ⟨j', hj'⟩ : ∃ j', j' = j + 1 := ⟨_, rfl⟩
      have ej : (j : Int) + 1 = (j' : Int) := by omega
      have h1 : j < O2.length := by omega
      have h2 : j' < O2.length := by omega
      have h2' : j + 1 < O2.length := by omega
      have b1 := dc h1
      have b2 := db j' h2 (by omega)
      obtain ⟨o, hoo⟩ : ∃ o : Nat, O2[j] = (o : Int) := ⟨O2[j].toNat, by omega⟩
      obtain ⟨o', hoo'⟩ : ∃ o' : Nat, O2[j'] = (o' : Int) := ⟨O2[j'].toNat, by omega⟩
      have a1 : at? (ints .i64 O2) j = some (.int .i64 (o : Int)) := by rw [ints_at .i64 h1, hoo]
      have a2 : at? (ints .i64 O2) j' = some (.int .i64 (o' : Int)) := by rw [ints_at .i64 h2, hoo']
      have hcs := carry_step h1 h2' hoo (by subst hj'; exact hoo')
      rw [← hj'] at hcs
      have ov1 : over (ints .i64 O2) j' [.int .i64 ((o' + o / 60 : Nat) : Int)] = some (ints .i64 (O2.set j' ((o' + o / 60 : Nat) : Int))) := ints_over .i64 _ h2
      have l3 : (O2.set j' ((o' + o / 60 : Nat) : Int)).length = N := by rw [List.length_set]; exact lO2
      have h1b : j < (O2.set j' ((o' + o / 60 : Nat) : Int)).length := by omega
      have a3 : at? (ints .i64 (O2.set j' ((o' + o / 60 : Nat) : Int))) j = some (.int .i64 (o : Int)) := by rw [ints_at .i64 h1b, List.getElem_set_ne (by omega), hoo]
      have ov2 : over (ints .i64 (O2.set j' ((o' + o / 60 : Nat) : Int))) j [.int .i64 ((o % 60 : Nat) : Int)] = some (ints .i64 ((O2.set j' ((o' + o / 60 : Nat) : Int)).set j ((o % 60 : Nat) : Int))) := ints_over .i64 _ h1b
      have l4 : ((O2.set j' ((o' + o / 60 : Nat) : Int)).set j ((o % 60 : Nat) : Int)).length = N := by rw [List.length_set]; exact l3
      obtain ⟨O4, hO4⟩ : ∃ O4, O4 = (O2.set j' ((o' + o / 60 : Nat) : Int)).set j ((o % 60 : Nat) : Int) := ⟨_, rfl⟩
      have g4 : ∀ k (hk : k < O4.length) (hk2 : k < O2.length), O4[k] = if j = k then ((o % 60 : Nat) : Int) else if j' = k then ((o' + o / 60 : Nat) : Int) else O2[k] := by
        subst hO4
        intro k hk hk2
        rw [List.getElem_set, List.getElem_set]
      rw [← hO4] at hcs ov2 l4
      clear hO4
      have eq1 : (o : Int) / 60 = ((o / 60 : Nat) : Int) := by omega
      have eq2 : (o : Int) % 60 = ((o % 60 : Nat) : Int) := by omega
      have es : (o' : Int) + ((o / 60 : Nat) : Int) = ((o' + o / 60 : Nat) : Int) := by omega
      rw [← es] at ov1 ov2 a3
      have hq : o / 60 ≤ 16667 := by omega
      generalize o / 60 = q at *
      generalize hr : o % 60 = r at *
      have hr60 : r < 60 := by omega
      have hb3 : (o' : Int) + (q : Int) ≤ 1000000 := by omega
      generalize ints .i64 (O2.set j' ((o' : Int) + (q : Int))) = C3 at *
      generalize hC4 : ints .i64 O4 = C4 at *
      generalize ints .i64 O2 = C2 at *
      repeat' (first
    | ((with_reducible first | refine optP_id ?_ | refine condP_id ?_ | refine resP_id ?_ | refine callT_of ?_); conv => { arg 1; simp (disch := first | assumption | omega) only [push_cast, ↓reduceIte, reduceIte, Nat.reduceEqDiff, Nat.reduceAdd, Nat.reduceSub, Nat.reduceMul, Nat.reduceBEq, Int.reduceNeg, f5, f8, ej, eq1, eq2, cO2, a1, a2, a3, ov1, ov2, Nat.zero_add, Nat.mul_one] }; first | ((with_reducible refine optP_id ?_); refine optP_some ?_) | ((with_reducible refine condP_id ?_); first | refine qcy ?_ | refine qcx ?_ | refine qco ?_ | refine condP_decn (fun hc => ?_) (fun hc => ?_) | refine condP_dec (fun hc => ?_) (fun hc => ?_) | refine qct ?_ | refine qcf ?_ | refine condP_bool (fun hc => ?_) (fun hc => ?_)) | ((with_reducible refine resP_id ?_); refine resP_one ?_) | ((with_reducible refine callT_to ?_); refine callP_plain ?_))
    | refine wk_seq ?_ | refine wk_region ?_ | refine wk_block ?_ | refine wk_inBlock ?_ | refine wk_skip ?_ | refine wk_draw (by kernel_rfl) (by decide +kernel) ?_ | refine wo_nil ?_ | refine wk_exit ?_ | refine exitK_code ?_ | refine exitK_hit ?_ | refine exitK_miss rfl ?_ | refine exitK_inLoop ?_ | refine wk_cond ?_ | refine wk_ret ?_ | refine wk_nil ?_ | refine wo_dst rfl (opR_call ?_) | refine wo_nodst (opR_call ?_) | refine wo_dst rfl (opR_pure ?_) | refine wo_nodst (opR_pure ?_)
    | refine give_ret ?_ | refine give_end ?_)
      refine next2 (N - (j + 1)) _ _ (by omega) ⟨j + 1, O4, rfl, by omega, l4, fun k hk hk2 => ?_, fun k hk hk2 => ?_, fun hk => ?_, by rw [hcs, vO2], by (repeat (first | exact Gr.refl _ | assumption | (refine Gr.trans ?_ (by assumption)) | refine Gr.set ?_ (by first | exact Nat.le_refl _ | omega | (simp only [next_new, next_set]; omega)) _ | refine Gr.new ?_ _)), by simp only [next_set]; omega, by rw [hC4]; simp (disch := first | assumption | omega) only [push_cast, ↓reduceIte, reduceIte, Nat.reduceEqDiff, Nat.reduceAdd, Nat.reduceSub, Nat.reduceMul, Nat.reduceBEq, Int.reduceNeg], by simp (disch := first | assumption | omega) only [push_cast, ↓reduceIte, reduceIte, Nat.reduceEqDiff, Nat.reduceAdd, Nat.reduceSub, Nat.reduceMul, Nat.reduceBEq, Int.reduceNeg, f5], by rw [← hj']; simp (disch := first | assumption | omega) only [push_cast, ↓reduceIte, reduceIte, Nat.reduceEqDiff, Nat.reduceAdd, Nat.reduceSub, Nat.reduceMul, Nat.reduceBEq, Int.reduceNeg]⟩
      · rw [g4 k hk (by omega)]
        by_cases e : j = k
        · rw [if_pos e]; omega
        · rw [if_neg e, if_neg (by omega)]
          exact da k _ (by omega)
      · rw [g4 k hk (by omega), if_neg (by omega), if_neg (by omega)]
        exact db k _ (by omega)
      · rw [g4 _ hk (by omega), if_neg (by omega), if_pos (by omega)]
        omega
    · have jlt : ¬ (j : Int) + 1 < (N : Int) := by omega
      have h1 : j < O2.length := by omega
      have dO : digs O2 := fun z hz => by
        obtain ⟨k, hk, rfl⟩ := List.getElem_of_mem hz
        by_cases e : k < j
        · exact da k hk e
        · obtain rfl : k = j := by omega
          have b1 := dc h1
          have h3 := leN_ge h1
          rw [vO2] at h3
          have h4 : N - 1 = k := by omega
          rw [h4] at hV
          have : (O2[k]).toNat < 1 := by
            apply Classical.byContradiction
            intro hh
            have := Nat.mul_le_mul_right (60 ^ k) (show 1 ≤ (O2[k]).toNat by omega)
            omega
          omega
      repeat' (first
    | ((with_reducible first | refine optP_id ?_ | refine condP_id ?_ | refine resP_id ?_ | refine callT_of ?_); conv => { arg 1; simp (disch := first | assumption | omega) only [push_cast, ↓reduceIte, reduceIte, Nat.reduceEqDiff, Nat.reduceAdd, Nat.reduceSub, Nat.reduceMul, Nat.reduceBEq, Int.reduceNeg, f5, f8] }; first | ((with_reducible refine optP_id ?_); refine optP_some ?_) | ((with_reducible refine condP_id ?_); first | refine qcy ?_ | refine qcx ?_ | refine qco ?_ | refine condP_decn (fun hc => ?_) (fun hc => ?_) | refine condP_dec (fun hc => ?_) (fun hc => ?_) | refine qct ?_ | refine qcf ?_ | refine condP_bool (fun hc => ?_) (fun hc => ?_)) | ((with_reducible refine resP_id ?_); refine resP_one ?_) | ((with_reducible refine callT_to ?_); refine callP_plain ?_))
    | refine wk_seq ?_ | refine wk_region ?_ | refine wk_block ?_ | refine wk_inBlock ?_ | refine wk_skip ?_ | refine wk_draw (by kernel_rfl) (by decide +kernel) ?_ | refine wo_nil ?_ | refine wk_exit ?_ | refine exitK_code ?_ | refine exitK_hit ?_ | refine exitK_miss rfl ?_ | refine exitK_inLoop ?_ | refine wk_cond ?_ | refine wk_ret ?_ | refine wk_nil ?_ | refine wo_dst rfl (opR_call ?_) | refine wo_nodst (opR_call ?_) | refine wo_dst rfl (opR_pure ?_) | refine wo_nodst (opR_pure ?_)
    | refine give_ret ?_ | refine give_end ?_)
      have hin : IIn H2 (.slice (some ⟨h.next, 0, none⟩) O2.length (EX + N)) O2 := ints_inI hnx2 (by rw [capLo_ex, lO2]; exact Nat.le_refl _) cO2
      rw [lO2] at hin
      refine (trim_w O2 dO _ _ hin (by omega)).mono ?_
      rintro _ _ ⟨⟨m, am, cm, rfl, im, dm, em, vm, lm, _⟩, rfl⟩
      repeat' (first
    | ((with_reducible first | refine optP_id ?_ | refine condP_id ?_ | refine resP_id ?_ | refine callT_of ?_); conv => { arg 1; simp (disch := first | assumption | omega) only [push_cast, ↓reduceIte, reduceIte, Nat.reduceEqDiff, Nat.reduceAdd, Nat.reduceSub, Nat.reduceMul, Nat.reduceBEq, Int.reduceNeg] }; first | ((with_reducible refine optP_id ?_); refine optP_some ?_) | ((with_reducible refine condP_id ?_); first | refine qcy ?_ | refine qcx ?_ | refine qco ?_ | refine condP_decn (fun hc => ?_) (fun hc => ?_) | refine condP_dec (fun hc => ?_) (fun hc => ?_) | refine qct ?_ | refine qcf ?_ | refine condP_bool (fun hc => ?_) (fun hc => ?_)) | ((with_reducible refine resP_id ?_); refine resP_one ?_) | ((with_reducible refine callT_to ?_); refine callP_plain ?_))
    | refine wk_seq ?_ | refine wk_region ?_ | refine wk_block ?_ | refine wk_inBlock ?_ | refine wk_skip ?_ | refine wk_draw (by kernel_rfl) (by decide +kernel) ?_ | refine wo_nil ?_ | refine wk_exit ?_ | refine exitK_code ?_ | refine exitK_hit ?_ | refine exitK_miss rfl ?_ | refine exitK_inLoop ?_ | refine wk_cond ?_ | refine wk_ret ?_ | refine wk_nil ?_ | refine wo_dst rfl (opR_call ?_) | refine wo_nodst (opR_call ?_) | refine wo_dst rfl (opR_pure ?_) | refine wo_nodst (opR_pure ?_)
    | refine give_ret ?_ | refine give_end ?_)
      exact ⟨⟨m, am, cm, rfl, im, dm, em, by rw [vm, vO2], by omega⟩, gr2⟩
end Go.Proofs.YtcfohcpcepeolaaGreatDoor
